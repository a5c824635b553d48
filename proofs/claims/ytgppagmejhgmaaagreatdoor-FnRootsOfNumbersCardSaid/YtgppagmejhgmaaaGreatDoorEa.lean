/-
  Contracts of the laws' own helpers over exact complex numbers. Conditions: the limbs can be read. Contracts: tests and squares of exact complex numbers, by the program and by the model. Conditions: the limbs can be read; the library's table is as its initialiser lays it.
-/
import Derived.Test.YtgppagmejhgmaaaGreatDoorOd
import Derived.Test.YtgppagmejhgmaaaGreatDoorRb
import Derived.Test.YtgppagmejhgmaaaGreatDoorQi
import Derived.Deep.RegionHeld3
namespace Go.Proofs.YtgppagmejhgmaaaGreatDoor
set_option linter.unusedVariables false
open Go Go.RowKit

theorem BoxAt.six {w : World} {g : Nat} {t : TypeId} {a b c d e f : Value} (h : BoxAt w g t #[a, b, c, d, e, f]) : w.cell? ⟨g, 0, none⟩ = some a ∧ w.cell? ⟨g, 1, none⟩ = some b ∧ w.cell? ⟨g, 2, none⟩ = some c ∧ w.cell? ⟨g, 3, none⟩ = some d ∧ w.cell? ⟨g, 4, none⟩ = some e ∧ w.cell? ⟨g, 5, none⟩ = some f := ⟨h.cell 0, h.cell 1, h.cell 2, h.cell 3, h.cell 4, h.cell 5⟩
theorem BoxAt.six12 {w : World} {g : Nat} {t : TypeId} {a b c d e f : Value} (h : BoxAt w g t #[a, b, c, d, e, f]) : w.cell? ⟨g, 0, none⟩ = some a ∧ w.cell? ⟨g, 1, none⟩ = some b ∧ w.cell? ⟨g, 2, none⟩ = some c ∧ w.cell? ⟨g, 3, none⟩ = some d ∧ w.cell? ⟨g, 4, none⟩ = some e ∧ w.cell? ⟨g, 5, none⟩ = some f ∧
    w.frozen? ⟨g, 0, none⟩ = false ∧ w.frozen? ⟨g, 1, none⟩ = false ∧ w.frozen? ⟨g, 2, none⟩ = false ∧ w.frozen? ⟨g, 3, none⟩ = false ∧ w.frozen? ⟨g, 4, none⟩ = false ∧ w.frozen? ⟨g, 5, none⟩ = false :=
  ⟨h.cell 0, h.cell 1, h.cell 2, h.cell 3, h.cell 4, h.cell 5, h.frozen 0, h.frozen 1, h.frozen 2, h.frozen 3, h.frozen 4, h.frozen 5⟩
/-- Six cells are written. -/
def set6 (w : World) (g : Nat) (a b c d e f : Value) : World := (((((w.setCell ⟨g, 0, none⟩ a).setCell ⟨g, 1, none⟩ b).setCell ⟨g, 2, none⟩ c).setCell ⟨g, 3, none⟩ d).setCell ⟨g, 4, none⟩ e).setCell ⟨g, 5, none⟩ f
theorem Own.set6 {w : World} {lo : Nat} {u : Option Addr} {xs : List Int} {g : Nat} (h : Own w lo u xs) (hg : g < lo) (a b c d e f : Value) : Own ((((((w.setCell ⟨g, 0, none⟩ a).setCell ⟨g, 1, none⟩ b).setCell ⟨g, 2, none⟩ c).setCell ⟨g, 3, none⟩ d).setCell ⟨g, 4, none⟩ e).setCell ⟨g, 5, none⟩ f) lo u xs :=
  (((Own.set3 h hg a b c).setFar (by simpa using hg) _).setFar (by simpa using hg) _).setFar (by simpa using hg) _
theorem Below.set6 {w W : World} {B g : Nat} (h : Below B w W) (hg : B ≤ g) (a b c d e f : Value) : Below B w ((((((W.setCell ⟨g, 0, none⟩ a).setCell ⟨g, 1, none⟩ b).setCell ⟨g, 2, none⟩ c).setCell ⟨g, 3, none⟩ d).setCell ⟨g, 4, none⟩ e).setCell ⟨g, 5, none⟩ f) :=
  (((Below.set3 h hg a b c).setCell (by simpa using hg) _).setCell (by simpa using hg) _).setCell (by simpa using hg) _

/-- The call returned an exact complex number in new memory. -/
def RetE (s : Int) (xs : List Int) (x : Int) (s' : Int) (xs' : List Int) (x' : Int) (w : World) (e : Ending) (w' : World) : Prop :=
  ∃ a c a' c', e = .returned (.agg #[.int .i64 s, .slice a xs.length c, .int .i64 x, .int .i64 s', .slice a' xs'.length c', .int .i64 x']) ∧ xs.length ≤ c ∧ xs'.length ≤ c' ∧ Own w' w.heap.size a xs ∧ Own w' w.heap.size a' xs' ∧ Apart a a' xs xs' ∧ Below w.heap.size w w'
/-- Rows of two times lie apart. -/
theorem apart_of {w w' : World} {lo : Nat} {a a' : Option Addr} {xs xs' : List Int} (h : Own w lo a xs) (h' : Own w' w.heap.size a' xs') : Apart a a' xs xs' := by
  rcases h with h | ⟨g, e, hg, hr⟩
  · exact .inl h
  · rcases h' with h' | ⟨g', e', hg', hr'⟩
    · exact .inr (.inl h')
    · refine .inr (.inr fun hh => ?_)
      rw [e, e'] at hh
      simp at hh
      have := hr.lt
      omega

/-- Two rows are marked. -/
def RetM2 (m : Int) (n n' : Nat) (a a' : Option Addr) (lo : Nat) (w : World) (e : Ending) (w' : World) : Prop :=
  e = .returned (.int .i64 (m + n + n')) ∧ Own w' lo a (marks m n) ∧ Own w' lo a' (marks (m + n) n') ∧ ∃ wm row row', w.grownBy wm row ∧ wm.grownBy w' row' ∧ (∀ g, row = some g → 0 < n ∧ a = some ⟨g, 0, none⟩) ∧ (∀ g, row' = some g → 0 < n' ∧ a' = some ⟨g, 0, none⟩)
theorem apart_symm {a a' : Option Addr} {xs xs' : List Int} (h : Apart a a' xs xs') : Apart a' a xs' xs := by
  rcases h with h | h | h
  · exact .inr (.inl h)
  · exact .inl h
  · exact .inr (.inr (Ne.symm h))
theorem own_grownA {w w' : World} {lo : Nat} {a a' : Option Addr} {xs ys zs : List Int} {n : Nat} {row : Option Nat} (h : Own w lo a' zs) (hz : zs.length = ys.length) (hg : w.grownBy w' row) (hap : Apart a' a ys xs) (hn : n = xs.length) (hrow : ∀ g, row = some g → 0 < n ∧ a = some ⟨g, 0, none⟩) : Own w' lo a' zs := by
  rcases h with h | ⟨g, e, hl, hr⟩
  · exact .inl h
  · by_cases hy : zs = []
    · exact .inl hy
    · refine .inr ⟨g, e, hl, hr.keep (hg.block g hr.lt (fun e2 => ?_))⟩
      obtain ⟨h1, h2⟩ := hrow g e2.symm
      rcases hap with h3 | h3 | h3
      · rw [h3] at hz; exact hy (List.eq_nil_of_length_eq_zero hz)
      · subst hn; rw [h3] at h1; simp at h1
      · exact h3 (by rw [h2, e])
theorem and_no {a b : Bool} (h : a = false) : (a && b) = false := by rw [h]; rfl

set_option maxHeartbeats 1000000 in
theorem iValidE (s : Int) (a : Option Addr) (xs : List Int) (c : Nat) (x : Int) (s' : Int) (a' : Option Addr) (xs' : List Int) (c' : Nat) (x' : Int) (w : World) (B : Nat) (hB : B ≤ w.heap.size) (hl : xs.length ≤ 9223372036854775807) (hl' : xs'.length ≤ 9223372036854775807) (hx : Ints w B a xs) (hx' : Ints w B a' xs') :
    Calls Tryz.prog 60 #[.agg #[.int .i64 s, .slice a xs.length c, .int .i64 x, .int .i64 s', .slice a' xs'.length c', .int .i64 x']] w (RetB (.bool (dyB s xs x && dyB s' xs' x')) w) := by
  have W0 := Lib.hid (one_box w 64 #[.int .i64 s, .slice a xs.length c, .int .i64 x, .int .i64 s', .slice a' xs'.length c', .int .i64 x'])
  have H1 := Lib.hid (show ∀ W, Below w.heap.size w W → Calls Tryz.prog 88 #[.agg #[.int .i64 s, .slice a xs.length c, .int .i64 x]] W (RetB (.bool (dyB s xs x)) W) from fun W hW => iIsDyadic s a xs c x W B (by have := hW.size; omega) hl (hx.below (hW.mono hB)))
  have H2 := Lib.hid (show ∀ W, Below w.heap.size w W → Calls Tryz.prog 88 #[.agg #[.int .i64 s', .slice a' xs'.length c', .int .i64 x']] W (RetB (.bool (dyB s' xs' x')) W) from fun W hW => iIsDyadic s' a' xs' c' x' W B (by have := hW.size; omega) hl' (hx'.below (hW.mono hB)))
  obtain ⟨k1, k2, k3, k4, k5, k6⟩ := W0.out.1.six
  clear hx hx' hl hl' hB
  cases h1 : dyB s xs x
  · rw [h1] at H1
    rw [and_no rfl]
    clear h1
    go_enter Tryz.func60, Tryz.ntmps60
    go_wp2_with fail
    refine (H1.out _ W0.out.2.1).mono ?_
    rintro e w1 ⟨rfl, hb⟩
    have HB := Lib.hid (show Below w.heap.size w w1 from W0.out.2.1.trans (hb.mono (by have := W0.out.2.2; omega)))
    clear hb k1 k2 k3 k4 k5 k6
    go_wp2_with fail
    go_ret
    exact ⟨rfl, HB.out⟩
  · rw [h1] at H1
    rw [Bool.true_and]
    clear h1
    obtain ⟨v, hv⟩ : ∃ v, v = dyB s' xs' x' := ⟨_, rfl⟩
    rw [← hv] at H2 ⊢
    clear hv
    go_enter Tryz.func60, Tryz.ntmps60
    go_wp2_with fail
    refine (H1.out _ W0.out.2.1).mono ?_
    rintro e w1 ⟨rfl, hb⟩
    have HB := Lib.hid (show Below w.heap.size w w1 from W0.out.2.1.trans (hb.mono (by have := W0.out.2.2; omega)))
    clear k1 k2 k3 k4 k5 k6
    obtain ⟨k1, k2, k3, k4, k5, k6⟩ := (W0.out.1.below hb).six
    clear hb
    go_wp2_with fail
    refine (H2.out _ HB.out).mono ?_
    rintro e w2 ⟨rfl, hb⟩
    have HB2 := Lib.hid (show Below w.heap.size w w2 from HB.out.trans (hb.mono HB.out.size))
    clear hb k1 k2 k3 k4 k5 k6
    go_wp2_with fail
    go_ret
    exact ⟨rfl, HB2.out⟩

def zv (r : Int × List Int × Int) : Int := r.1 * (val (r.2.1.map Int.toNat) : Int)
/-- The sum of both parts' squares. -/
noncomputable def sqF (p q : Int × List Int × Int) : Int × List Int × Int × Int := @ite _ (dyB p.1 p.2.1 p.2.2 = true ∧ dyB q.1 q.2.1 q.2.2 = true) (Classical.propDecidable _) (fitY (addW (zv p) p.2.2 (zv q) q.2.2)) (0, [], 0, 3)
noncomputable def sqY (s : Int) (xs : List Int) (x : Int) (s' : Int) (xs' : List Int) (x' : Int) : Int × List Int × Int × Int :=
  @ite _ (dyB s xs x = true ∧ dyB s' xs' x' = true) (Classical.propDecidable _) (sqF (mulW (zv (s, xs, x)) x (zv (s, xs, x)) x) (mulW (zv (s', xs', x')) x' (zv (s', xs', x')) x')) (0, [], 0, 1)
theorem sqF_yes {p q : Int × List Int × Int} (h1 : dyB p.1 p.2.1 p.2.2 = true) (h2 : dyB q.1 q.2.1 q.2.2 = true) : sqF p q = fitY (addW (zv p) p.2.2 (zv q) q.2.2) := by unfold sqF; rw [if_pos ⟨h1, h2⟩]
theorem sqF_no {p q : Int × List Int × Int} (h : ¬ (dyB p.1 p.2.1 p.2.2 = true ∧ dyB q.1 q.2.1 q.2.2 = true)) : sqF p q = (0, [], 0, 3) := by unfold sqF; rw [if_neg h]
theorem sqF_len (p q : Int × List Int × Int) : (sqF p q).2.1.length ≤ 200 := by
  unfold sqF
  split
  · exact fitY_len _
  · simp
theorem sqY_yes {s : Int} {xs : List Int} {x : Int} {s' : Int} {xs' : List Int} {x' : Int} (h1 : dyB s xs x = true) (h2 : dyB s' xs' x' = true) :
    sqY s xs x s' xs' x' = sqF (mulW (zv (s, xs, x)) x (zv (s, xs, x)) x) (mulW (zv (s', xs', x')) x' (zv (s', xs', x')) x') := by unfold sqY; rw [if_pos ⟨h1, h2⟩]
theorem sqY_no {s : Int} {xs : List Int} {x : Int} {s' : Int} {xs' : List Int} {x' : Int} (h : ¬ (dyB s xs x = true ∧ dyB s' xs' x' = true)) : sqY s xs x s' xs' x' = (0, [], 0, 1) := by unfold sqY; rw [if_neg h]
theorem sqY_len (s : Int) (xs : List Int) (x : Int) (s' : Int) (xs' : List Int) (x' : Int) : (sqY s xs x s' xs' x').2.1.length ≤ 200 := by
  unfold sqY
  split
  · exact sqF_len _ _
  · simp
theorem zv_lim (s x : Int) (m : Nat) : zv (s, lim m, x) = s * (m : Int) := by unfold zv; simp only; rw [val_lim]
theorem both_no {a b : Bool} (h : ¬ (a = true ∧ b = true)) : (a && b) = false := by
  cases a <;> cases b <;> simp_all
/-- The form of a product. -/
theorem mulW_form {s x t y : Int} {m n : Nat} (hs : Sg s m) (ht : Sg t n) (hm : (lim m).length ≤ 200) (hn : (lim n).length ≤ 200) : ∃ r k z, mulW (s * (m : Int)) x (t * (n : Int)) y = (r, lim k, z) ∧ Sg r k ∧ (lim k).length ≤ 400 := by
  obtain ⟨r, k, z, h1, h2, h3, _⟩ := redZ_form (s * (m : Int) * (t * (n : Int))) (x + y)
  refine ⟨r, k, z, h1, h2, Nat.le_trans (lim_le_of_le h3) ?_⟩
  rw [Int.natAbs_mul, hs.abs, ht.abs]
  have := lim_mul_len m n
  omega
theorem dyB_exp {s x : Int} {xs : List Int} (h : dyB s xs x = true) : -5000 ≤ x ∧ x ≤ 5000 := ⟨(dyB_iff.1 h).2.1, (dyB_iff.1 h).2.2.1⟩
theorem dyB_len {s x : Int} {m : Nat} (h : dyB s (lim m) x = true) : (lim m).length ≤ 200 := by
  obtain ⟨n, e, h1, _⟩ := isDy_of (dyB_iff.1 h)
  rw [e]
  exact h1

theorem addW_form {s x t y : Int} {m n : Nat} (hs : Sg s m) (ht : Sg t n) (hm : (lim m).length ≤ 400) (hn : (lim n).length ≤ 400) (x1 : -5000 ≤ x) (x2 : x ≤ 5000) (y1 : -5000 ≤ y) (y2 : y ≤ 5000) : ∃ r k z, addW (s * (m : Int)) x (t * (n : Int)) y = (r, lim k, z) ∧ Sg r k ∧ (lim k).length ≤ 4000 := by
  obtain ⟨r, k, z, h1, h2, h3, _⟩ := redZ_form (shZ (s * (m : Int)) (x - min x y) + shZ (t * (n : Int)) (y - min x y)) (min x y)
  refine ⟨r, k, z, h1, h2, Nat.le_trans (lim_le_of_le h3) ?_⟩
  have a1 := shZ_up_len (z := s * (m : Int)) (k := x - min x y) (by omega)
  have a2 := shZ_up_len (z := t * (n : Int)) (k := y - min x y) (by omega)
  rw [hs.abs] at a1
  rw [ht.abs] at a2
  have a3 := Int.natAbs_add_le (shZ (s * (m : Int)) (x - min x y)) (shZ (t * (n : Int)) (y - min x y))
  have a4 := lim_add_len (shZ (s * (m : Int)) (x - min x y)).natAbs (shZ (t * (n : Int)) (y - min x y)).natAbs
  have a5 := lim_le_of_le a3
  omega

/-- A variable that holds an exact complex number of the call's own. -/
structure ResE (W0 W : World) (p : Value) (p1 : Int) (p2 : List Int) (p3 q1 : Int) (q2 : List Int) (q3 : Int) (hi : Nat) : Prop where
  ex : ∃ g a c b d, p = .pointer (some ⟨g, 0, none⟩) ∧ W0.heap.size ≤ g ∧ g < hi ∧ BoxAt W g 64 #[.int .i64 p1, .slice a p2.length c, .int .i64 p3, .int .i64 q1, .slice b q2.length d, .int .i64 q3] ∧ p2.length ≤ c ∧ q2.length ≤ d ∧ Own W W0.heap.size a p2 ∧ Own W W0.heap.size b q2
  bel : Below W0.heap.size W0 W
  size : hi ≤ W.heap.size
theorem ResE.mk1 {W0 W W' : World} {p1 p3 q1 q3 : Int} {p2 q2 : List Int} {a b : Option Addr} {c d : Nat} {lo lo' : Nat} (hb : Below W0.heap.size W0 W) (ho : Own W lo a p2) (hlo : W0.heap.size ≤ lo) (hc : p2.length ≤ c) (ho' : Own W lo' b q2) (hlo' : W0.heap.size ≤ lo') (hd : q2.length ≤ d) (hW : W' = W.alloc (.cells #[.int .i64 p1, .slice a p2.length c, .int .i64 p3, .int .i64 q1, .slice b q2.length d, .int .i64 q3] 64)) :
    ResE W0 W' (.pointer (some ⟨W.heap.size, 0, none⟩)) p1 p2 p3 q1 q2 q3 W'.heap.size := by
  subst hW
  exact ⟨⟨W.heap.size, a, c, b, d, rfl, hb.size, by simp, BoxAt.new _ _ _, hc, hd, (ho.mono hlo).alloc _, (ho'.mono hlo').alloc _⟩, hb.alloc hb.size _, Nat.le_refl _⟩
theorem own_boxE {w : World} {lo g : Nat} {a : Option Addr} {xs : List Int} {cs : Array Value} (h : Own w lo a xs) (hb : BoxAt w g 64 cs) (i : Nat) (u : Value) : Own (w.setCell ⟨g, i, none⟩ u) lo a xs := by
  rcases h with h | ⟨g', e, hg, hr⟩
  · exact .inl h
  · refine .inr ⟨g', e, hg, hr.far (p := ⟨g, i, none⟩) (fun hgg => ?_) u⟩
    obtain ⟨cur, hc, _⟩ := hr
    simp only at hgg
    subst hgg
    unfold BoxAt at hb
    rw [hb] at hc
    injection hc with hc
    injection hc with _ hc
    exact absurd hc (by decide)
theorem own_boxE6 {w : World} {lo g : Nat} {a : Option Addr} {xs : List Int} {cs : Array Value} (h : Own w lo a xs) (hb : BoxAt w g 64 cs) (u0 u1 u2 u3 u4 u5 : Value) :
    Own ((((((w.setCell ⟨g, 0, none⟩ u0).setCell ⟨g, 1, none⟩ u1).setCell ⟨g, 2, none⟩ u2).setCell ⟨g, 3, none⟩ u3).setCell ⟨g, 4, none⟩ u4).setCell ⟨g, 5, none⟩ u5) lo a xs := by
  have b1 := hb.set_ 0 u0
  have b2 := b1.set_ 1 u1
  have b3 := b2.set_ 2 u2
  have b4 := b3.set_ 3 u3
  have b5 := b4.set_ 4 u4
  exact own_boxE (own_boxE (own_boxE (own_boxE (own_boxE (own_boxE h hb 0 u0) b1 1 u1) b2 2 u2) b3 3 u3) b4 4 u4) b5 5 u5
theorem below_set6 {W0 W : World} {g : Nat} (h : Below W0.heap.size W0 W) (hg : W0.heap.size ≤ g) (a b c d e f : Value) : Below W0.heap.size W0 ((((((W.setCell ⟨g, 0, none⟩ a).setCell ⟨g, 1, none⟩ b).setCell ⟨g, 2, none⟩ c).setCell ⟨g, 3, none⟩ d).setCell ⟨g, 4, none⟩ e).setCell ⟨g, 5, none⟩ f) := Below.set6 h hg a b c d e f
theorem ResE.mk2 {W0 W : World} {g : Nat} {p1 p3 q1 q3 : Int} {p2 q2 : List Int} {a b : Option Addr} {c d : Nat} {lo lo' : Nat} {v0 v1 v2 v3 v4 v5 : Value} (hx : BoxAt W g 64 #[v0, v1, v2, v3, v4, v5]) (hg : W0.heap.size ≤ g) (hb : Below W0.heap.size W0 W) (ho : Own W lo a p2) (hlo : W0.heap.size ≤ lo) (hc : p2.length ≤ c) (ho' : Own W lo' b q2) (hlo' : W0.heap.size ≤ lo') (hd : q2.length ≤ d) :
    ResE W0 ((((((W.setCell ⟨g, 0, none⟩ (.int .i64 p1)).setCell ⟨g, 1, none⟩ (.slice a p2.length c)).setCell ⟨g, 2, none⟩ (.int .i64 p3)).setCell ⟨g, 3, none⟩ (.int .i64 q1)).setCell ⟨g, 4, none⟩ (.slice b q2.length d)).setCell ⟨g, 5, none⟩ (.int .i64 q3)) (.pointer (some ⟨g, 0, none⟩)) p1 p2 p3 q1 q2 q3 W.heap.size := by
  refine ⟨⟨g, a, c, b, d, rfl, hg, hx.lt, ?_, hc, hd, (own_boxE6 ho hx _ _ _ _ _ _).mono hlo, (own_boxE6 ho' hx _ _ _ _ _ _).mono hlo'⟩, below_set6 hb hg _ _ _ _ _ _, by simp [World.setCell]⟩
  have := (((((hx.set_ 0 (.int .i64 p1)).set_ 1 (.slice a p2.length c)).set_ 2 (.int .i64 p3)).set_ 3 (.int .i64 q1)).set_ 4 (.slice b q2.length d)).set_ 5 (.int .i64 q3)
  simpa using this

set_option maxRecDepth 100000 in
set_option maxHeartbeats 8000000 in
theorem iSquareOfExact (s : Int) (a : Option Addr) (xs : List Int) (c : Nat) (x : Int) (s' : Int) (a' : Option Addr) (xs' : List Int) (c' : Nat) (x' : Int) (w : World) (B : Nat) (hB : B ≤ w.heap.size) (hx : Ints w B a xs) (hx' : Ints w B a' xs') (hl : xs.length ≤ 9223372036854775807) (hl' : xs'.length ≤ 9223372036854775807) (hTab : Tab w) :
    Calls Tryz.prog 38 #[.agg #[.int .i64 s, .slice a xs.length c, .int .i64 x, .int .i64 s', .slice a' xs'.length c', .int .i64 x']] w (RetYC (sqY s xs x s' xs' x') w.heap.size w) := by
  obtain ⟨W0, hW0⟩ : ∃ W0 : World, (w.alloc (.cells #[.int .i64 s, .slice a xs.length c, .int .i64 x, .int .i64 s', .slice a' xs'.length c', .int .i64 x'] 64)).alloc (.cells #[.int .i64 0, .slice none 0 0, .int .i64 0] 62) = W0 := ⟨_, rfl⟩
  obtain ⟨p1, p2, p3, p4⟩ := two_boxT w 64 62 #[.int .i64 s, .slice a xs.length c, .int .i64 x, .int .i64 s', .slice a' xs'.length c', .int .i64 x'] #[.int .i64 0, .slice none 0 0, .int .i64 0]
  rw [hW0] at p1 p2 p3 p4
  have HW0 := Lib.hid hW0
  have P3 := Lib.hid p3
  have P4 := Lib.hid p4
  have HTB := Lib.hid (show ∀ W, Below W0.heap.size W0 W → Tab W from fun W hW => (hTab.below p3).below hW)
  clear hTab
  have SS := Lib.hid (show ∀ W, Below W0.heap.size W0 W → (W.cell? ⟨w.heap.size, 0, none⟩ = some (.int .i64 s) ∧ W.cell? ⟨w.heap.size, 1, none⟩ = some (.slice a xs.length c) ∧ W.cell? ⟨w.heap.size, 2, none⟩ = some (.int .i64 x) ∧ W.cell? ⟨w.heap.size, 3, none⟩ = some (.int .i64 s') ∧ W.cell? ⟨w.heap.size, 4, none⟩ = some (.slice a' xs'.length c') ∧ W.cell? ⟨w.heap.size, 5, none⟩ = some (.int .i64 x')) from fun W hW => (p1.below hW).six)
  have SR := Lib.hid (show ∀ W, Below W0.heap.size W0 W → _ from fun W hW => (p2.below hW).tri6)
  have hT : Below W0.heap.size W0 W0 := Below.refl _ _
  have IX := Lib.hid (show ∀ W, Below W0.heap.size W0 W → Ints W B a xs ∧ Ints W B a' xs' ∧ B ≤ W.heap.size from fun W hW => ⟨hx.below ((p3.mono hB).trans (hW.mono (by omega))), hx'.below ((p3.mono hB).trans (hW.mono (by omega))), by have := hW.size; omega⟩)
  have HV := Lib.hid (show ∀ W, Below W0.heap.size W0 W → Calls Tryz.prog 60 #[.agg #[.int .i64 s, .slice a xs.length c, .int .i64 x, .int .i64 s', .slice a' xs'.length c', .int .i64 x']] W fun e w' => e = .returned (.bool (dyB s xs x && dyB s' xs' x')) ∧ Below W0.heap.size W0 w' from
    fun W hW => (iValidE s a xs c x s' a' xs' c' x' W B (IX.out W hW).2.2 hl hl' (IX.out W hW).1 (IX.out W hW).2.1).mono fun e w' ⟨he, hb⟩ => ⟨he, hW.trans (hb.mono hW.size)⟩)
  obtain ⟨k1, k2, k3, k4, k5, k6⟩ := SS.out _ hT
  by_cases hv : dyB s xs x = true ∧ dyB s' xs' x' = true
  rotate_left
  · rw [sqY_no hv]
    rw [both_no hv] at HV
    clear p1 p2 p3 p4 hx hx' hW0 hB hv hl hl' IX
    go_enter Tryz.func38, Tryz.ntmps38
    go_wp2_with fail
    rw [HW0.out]
    refine (HV.out _ hT).mono ?_
    rintro e w1 ⟨rfl, hb⟩
    obtain ⟨q1, q2, q3, q4, q5, q6⟩ := SR.out _ hb
    clear k1 k2 k3 k4 k5 k6
    go_wp2_with fail
    refine bodyPost_ret (v := .tuple #[.agg #[.int .i64 0, .slice none 0 0, .int .i64 0], .int .i64 1]) (by simp [results, Tryz.results38, go_sem, *]) rfl ?_
    exact retYC_zero (g := w.heap.size + 1) 1 P3.out P4.out hb (by omega) _ _ _
  · rw [sqY_yes hv.1 hv.2]
    obtain ⟨m, rfl, hm, sm, e1, e2⟩ := isDy_of (dyB_iff.1 hv.1)
    obtain ⟨m', rfl, hm', sm', e3, e4⟩ := isDy_of (dyB_iff.1 hv.2)
    rw [hv.1, hv.2] at HV
    rw [zv_lim, zv_lim]
    obtain ⟨p1', pn, p3', hP, sp, lp⟩ := mulW_form (x := x) (y := x) sm sm hm hm
    obtain ⟨q1', qn, q3', hQ, sq, lq⟩ := mulW_form (x := x') (y := x') sm' sm' hm' hm'
    have HM1 := Lib.hid (show ∀ W, Below W0.heap.size W0 W → Calls Tryz.prog 61 #[.agg #[.int .i64 s, .slice a (lim m).length c, .int .i64 x], .agg #[.int .i64 s, .slice a (lim m).length c, .int .i64 x]] W fun e w' => ∃ a c, e = .returned (.agg #[.int .i64 p1', .slice a (lim pn).length c, .int .i64 p3']) ∧ (lim pn).length ≤ c ∧ Own w' W.heap.size a (lim pn) ∧ Below W.heap.size W w' ∧ Below W0.heap.size W0 w' from
      fun W hW => by
        have := iTimesD s a m c x s a m c x W B B (IX.out W hW).2.2 (IX.out W hW).2.2 (IX.out W hW).1 (IX.out W hW).1 sm sm (by omega) (by omega) (by omega) (by omega) (by omega) (by omega) (HTB.out W hW)
        rw [hP] at this
        exact this.mono fun e w' ⟨a, c, he, hc, ho, hb⟩ => ⟨a, c, he, hc, ho, hb, hW.trans (hb.mono hW.size)⟩)
    have HM2 := Lib.hid (show ∀ W, Below W0.heap.size W0 W → Calls Tryz.prog 61 #[.agg #[.int .i64 s', .slice a' (lim m').length c', .int .i64 x'], .agg #[.int .i64 s', .slice a' (lim m').length c', .int .i64 x']] W fun e w' => ∃ a c, e = .returned (.agg #[.int .i64 q1', .slice a (lim qn).length c, .int .i64 q3']) ∧ (lim qn).length ≤ c ∧ Own w' W.heap.size a (lim qn) ∧ Below W.heap.size W w' ∧ Below W0.heap.size W0 w' from
      fun W hW => by
        have := iTimesD s' a' m' c' x' s' a' m' c' x' W B B (IX.out W hW).2.2 (IX.out W hW).2.2 (IX.out W hW).2.1 (IX.out W hW).2.1 sm' sm' (by omega) (by omega) (by omega) (by omega) (by omega) (by omega) (HTB.out W hW)
        rw [hQ] at this
        exact this.mono fun e w' ⟨a, c, he, hc, ho, hb⟩ => ⟨a, c, he, hc, ho, hb, hW.trans (hb.mono hW.size)⟩)
    rw [hP, hQ]
    have HV2 := Lib.hid (show ∀ (a b : Option Addr) (c d : Nat) W, Below W0.heap.size W0 W → Own W W0.heap.size a (lim pn) → Own W W0.heap.size b (lim qn) → Calls Tryz.prog 60 #[.agg #[.int .i64 p1', .slice a (lim pn).length c, .int .i64 p3', .int .i64 q1', .slice b (lim qn).length d, .int .i64 q3']] W fun e w' => e = .returned (.bool (dyB p1' (lim pn) p3' && dyB q1' (lim qn) q3')) ∧ Below W.heap.size W w' ∧ Below W0.heap.size W0 w' from
      fun a b c d W hW ho hp => (iValidE p1' a (lim pn) c p3' q1' b (lim qn) d q3' W W.heap.size (Nat.le_refl _) (by omega) (by omega) ho.ints hp.ints).mono fun e w' ⟨he, hb⟩ => ⟨he, hb, hW.trans (hb.mono hW.size)⟩)
    by_cases hv2 : dyB p1' (lim pn) p3' = true ∧ dyB q1' (lim qn) q3' = true
    rotate_left
    · rw [sqF_no hv2]
      rw [both_no hv2] at HV2
      clear p1 p2 p3 p4 hx hx' hW0 hB hv hv2 hl hl' IX hm sm e1 e2 hm' sm' e3 e4 hP hQ sp sq lp lq
      go_enter Tryz.func38, Tryz.ntmps38
      go_wp2_with fail
      rw [HW0.out]
      refine (HV.out _ hT).mono ?_
      rintro e w1 ⟨rfl, hb⟩
      clear k1 k2 k3 k4 k5 k6
      obtain ⟨k1, k2, k3, k4, k5, k6⟩ := SS.out _ hb
      have hbd := hb.drew
      have hsz0 := hb.size
      go_wp2_with fail
      go_cut [4] (fun p W => ∃ hi, ResE W0 W p p1' (lim pn) p3' q1' (lim qn) q3' hi)
      case first =>
        clear k1 k2 k3 k4 k5 k6
        go_region_held3 (fun W => W.cell? ⟨w.heap.size, 0, none⟩ = some (.int .i64 s) ∧ W.cell? ⟨w.heap.size, 1, none⟩ = some (.slice a (lim m).length c) ∧ W.cell? ⟨w.heap.size, 2, none⟩ = some (.int .i64 x) ∧ W.cell? ⟨w.heap.size, 3, none⟩ = some (.int .i64 s') ∧ W.cell? ⟨w.heap.size, 4, none⟩ = some (.slice a' (lim m').length c') ∧ W.cell? ⟨w.heap.size, 5, none⟩ = some (.int .i64 x'))
          (exact SS.out _ (by with_reducible first | assumption | exact below_alloc (by assumption) _ | exact below_allocd (by assumption) _ | exact below_set6 (by assumption) (by omega) _ _ _ _ _ _))
          (first
          | (go_at_call 61; with_reducible refine (HM1.out _ (by with_reducible first | assumption | exact below_alloc (by assumption) _ | exact below_allocd (by assumption) _ | exact below_set6 (by assumption) (by omega) _ _ _ _ _ _)).mono ?_; rintro e v1 ⟨x1, f1, rfl, hc1, ho1, hbb1, hbz1⟩; have hsz1 := hbz1.size; have hsy1 := hbb1.size; (try simp at hsy1); have hk1 := fun g cs (h : BoxAt _ g 64 cs) => BoxAt.below h hbb1)
          | (go_at_call 61; with_reducible refine (HM2.out _ (by with_reducible first | assumption | exact below_alloc (by assumption) _ | exact below_allocd (by assumption) _ | exact below_set6 (by assumption) (by omega) _ _ _ _ _ _)).mono ?_; rintro e v2 ⟨x2, f2, rfl, hc2, ho2, hbb2, hbz2⟩; have hsz2 := hbz2.size; have hsy2 := hbb2.size; (try simp at hsy2); have ho12 := Own.below (by with_reducible first | exact ho1 | exact Own.alloc ho1 _) hbb2; (first | (with_reducible have hq := BoxAt.below (BoxAt.new v1 _ _) hbb2; obtain ⟨g1, g2, g3, g4, g5, g6, g7, g8, g9, g10, g11, g12⟩ := BoxAt.six12 hq) | (with_reducible have hq := BoxAt.below (hk1 _ _ (BoxAt.newd w1 _ _)) hbb2; obtain ⟨g1, g2, g3, g4, g5, g6, g7, g8, g9, g10, g11, g12⟩ := BoxAt.six12 hq) | skip)))
        all_goals
          go_wp2_with fail
          go_meet
          first
          | exact ⟨_, ResE.mk1 hbz2 ho12 (by first | omega | (simp; omega) | simp) hc1 ho2 (by first | omega | (simp; omega) | simp) hc2 rfl⟩
          | exact ⟨_, ResE.mk2 hq (by first | omega | (simp; done) | (simp; omega)) hbz2 ho12 (by first | omega | (simp; omega) | simp) hc1 ho2 (by first | omega | (simp; omega) | simp) hc2⟩
      case rest => as_aux_lemma =>
        obtain ⟨hi6, hres⟩ := hcut
        obtain ⟨g6, a6, c6, a7, c7, rfl, hg6, hh6, hx6, hc6, hc7, ho6, ho7⟩ := hres.ex
        obtain ⟨m1, m2, m3, m4, m5, m6⟩ := BoxAt.six hx6
        have HB6 := Lib.hid hres.bel
        clear hc6 hc7 hres k1 k2 k3 k4 k5 k6 hb hbd hsz0
        go_wp2_with fail
        refine (HV2.out _ _ _ _ _ HB6.out ho6 ho7).mono ?_
        rintro e w2 ⟨rfl, hbb2, hb2⟩
        obtain ⟨q1, q2, q3, q4, q5, q6⟩ := SR.out _ hb2
        go_wp2_with fail
        refine bodyPost_ret (v := .tuple #[.agg #[.int .i64 0, .slice none 0 0, .int .i64 0], .int .i64 3]) (by simp [results, Tryz.results38, go_sem, *]) rfl ?_
        exact retYC_zero (g := w.heap.size + 1) 3 P3.out P4.out hb2 (by omega) _ _ _
    · rw [sqF_yes hv2.1 hv2.2, zv_lim, zv_lim]
      simp only
      have x1 := dyB_exp hv2.1
      have x2 := dyB_exp hv2.2
      obtain ⟨⟨u1, u2, u3⟩, hu⟩ : ∃ u, u = addW (p1' * (pn : Int)) p3' (q1' * (qn : Int)) q3' := ⟨_, rfl⟩
      obtain ⟨ur, uk, uz, hU1, hU2, hU3⟩ := addW_form (x := p3') (y := q3') sp sq lp lq (by omega) (by omega) (by omega) (by omega)
      rw [hv2.1, hv2.2] at HV2
      have HU := Lib.hid (show u2.length ≤ 9223372036854775807 from by
        have h2 : u2 = lim uk := by have := hu.trans hU1; injection this with _ h; injection h
        rw [h2]
        omega)
      have HPL := Lib.hid (show ∀ (a b : Option Addr) (c d : Nat) W, Below W0.heap.size W0 W → Own W W0.heap.size a (lim pn) → Own W W0.heap.size b (lim qn) → Calls Tryz.prog 63 #[.agg #[.int .i64 p1', .slice a (lim pn).length c, .int .i64 p3'], .agg #[.int .i64 q1', .slice b (lim qn).length d, .int .i64 q3']] W fun e w' => ∃ a c, e = .returned (.agg #[.int .i64 u1, .slice a u2.length c, .int .i64 u3]) ∧ u2.length ≤ c ∧ Own w' W0.heap.size a u2 ∧ Below W0.heap.size W0 w' from
        fun a b c d W hW ho hp => by
          have := iPlusD p1' a pn c p3' q1' b qn d q3' W _ _ (Nat.le_refl _) (Nat.le_refl _) ho.ints hp.ints sp sq lp lq (by omega) (by omega) (by omega) (by omega) (HTB.out W hW)
          rw [← hu] at this
          exact this.mono fun e w' ⟨a, c, he, hc, ho, hb⟩ => ⟨a, c, he, hc, ho.mono hW.size, hW.trans (hb.mono hW.size)⟩)
      rw [← hu]
      obtain ⟨⟨r1, r2, r4, r3⟩, hr⟩ : ∃ r, r = fitY (u1, u2, u3) := ⟨_, rfl⟩
      have HLM := Lib.hid (show ∀ (a : Option Addr) (c : Nat) W, u2.length ≤ c → Own W W0.heap.size a u2 → Below W0.heap.size W0 W → Calls Tryz.prog 62 #[.agg #[.int .i64 u1, .slice a u2.length c, .int .i64 u3]] W fun e w' => ∃ a c, e = .returned (.tuple #[.agg #[.int .i64 r1, .slice a r2.length c, .int .i64 r4], .int .i64 r3]) ∧ r2.length ≤ c ∧ Own w' W0.heap.size a r2 ∧ Below W0.heap.size W0 w' from
        fun a c W hc ho hW => by
          have := iLimitY u1 u2 u3 a c W W0.heap.size HU.out hc ho
          rw [← hr] at this
          exact this.mono fun e w' ⟨a, c, he, hc, ho, hb⟩ => ⟨a, c, he, hc, ho, hW.trans (hb.mono hW.size)⟩)
      rw [← hr]
      clear p1 p2 p3 p4 hx hx' hW0 hB hv hv2 hl hl' IX hm sm e1 e2 hm' sm' e3 e4 hP hQ sp sq lp lq x1 x2 hu hU1 hU2 hU3 hr
      go_enter Tryz.func38, Tryz.ntmps38
      go_wp2_with fail
      rw [HW0.out]
      refine (HV.out _ hT).mono ?_
      rintro e w1 ⟨rfl, hb⟩
      clear k1 k2 k3 k4 k5 k6
      obtain ⟨k1, k2, k3, k4, k5, k6⟩ := SS.out _ hb
      have hbd := hb.drew
      have hsz0 := hb.size
      go_wp2_with fail
      go_cut [4] (fun p W => ∃ hi, ResE W0 W p p1' (lim pn) p3' q1' (lim qn) q3' hi)
      case first =>
        clear k1 k2 k3 k4 k5 k6
        go_region_held3 (fun W => W.cell? ⟨w.heap.size, 0, none⟩ = some (.int .i64 s) ∧ W.cell? ⟨w.heap.size, 1, none⟩ = some (.slice a (lim m).length c) ∧ W.cell? ⟨w.heap.size, 2, none⟩ = some (.int .i64 x) ∧ W.cell? ⟨w.heap.size, 3, none⟩ = some (.int .i64 s') ∧ W.cell? ⟨w.heap.size, 4, none⟩ = some (.slice a' (lim m').length c') ∧ W.cell? ⟨w.heap.size, 5, none⟩ = some (.int .i64 x'))
          (exact SS.out _ (by with_reducible first | assumption | exact below_alloc (by assumption) _ | exact below_allocd (by assumption) _ | exact below_set6 (by assumption) (by omega) _ _ _ _ _ _))
          (first
          | (go_at_call 61; with_reducible refine (HM1.out _ (by with_reducible first | assumption | exact below_alloc (by assumption) _ | exact below_allocd (by assumption) _ | exact below_set6 (by assumption) (by omega) _ _ _ _ _ _)).mono ?_; rintro e v1 ⟨x1, f1, rfl, hc1, ho1, hbb1, hbz1⟩; have hsz1 := hbz1.size; have hsy1 := hbb1.size; (try simp at hsy1); have hk1 := fun g cs (h : BoxAt _ g 64 cs) => BoxAt.below h hbb1)
          | (go_at_call 61; with_reducible refine (HM2.out _ (by with_reducible first | assumption | exact below_alloc (by assumption) _ | exact below_allocd (by assumption) _ | exact below_set6 (by assumption) (by omega) _ _ _ _ _ _)).mono ?_; rintro e v2 ⟨x2, f2, rfl, hc2, ho2, hbb2, hbz2⟩; have hsz2 := hbz2.size; have hsy2 := hbb2.size; (try simp at hsy2); have ho12 := Own.below (by with_reducible first | exact ho1 | exact Own.alloc ho1 _) hbb2; (first | (with_reducible have hq := BoxAt.below (BoxAt.new v1 _ _) hbb2; obtain ⟨g1, g2, g3, g4, g5, g6, g7, g8, g9, g10, g11, g12⟩ := BoxAt.six12 hq) | (with_reducible have hq := BoxAt.below (hk1 _ _ (BoxAt.newd w1 _ _)) hbb2; obtain ⟨g1, g2, g3, g4, g5, g6, g7, g8, g9, g10, g11, g12⟩ := BoxAt.six12 hq) | skip)))
        all_goals
          go_wp2_with fail
          go_meet
          first
          | exact ⟨_, ResE.mk1 hbz2 ho12 (by first | omega | (simp; omega) | simp) hc1 ho2 (by first | omega | (simp; omega) | simp) hc2 rfl⟩
          | exact ⟨_, ResE.mk2 hq (by first | omega | (simp; done) | (simp; omega)) hbz2 ho12 (by first | omega | (simp; omega) | simp) hc1 ho2 (by first | omega | (simp; omega) | simp) hc2⟩
      case rest => as_aux_lemma =>
        obtain ⟨hi6, hres⟩ := hcut
        obtain ⟨g6, a6, c6, a7, c7, rfl, hg6, hh6, hx6, hc6, hc7, ho6, ho7⟩ := hres.ex
        obtain ⟨m1, m2, m3, m4, m5, m6⟩ := BoxAt.six hx6
        have HB6 := Lib.hid hres.bel
        clear hc6 hc7 hres k1 k2 k3 k4 k5 k6 hb hbd hsz0
        go_wp2_with fail
        refine (HV2.out _ _ _ _ _ HB6.out ho6 ho7).mono ?_
        rintro e w2 ⟨rfl, hbb2, hb2⟩
        have hx2 := hx6.below hbb2
        have HO6 := Lib.hid (ho6.below hbb2)
        have HO7 := Lib.hid (ho7.below hbb2)
        clear m1 m2 m3 m4 m5 m6 hx6 ho6 ho7 hbb2
        obtain ⟨m1, m2, m3, m4, m5, m6⟩ := hx2.six
        clear hx2
        go_wp2_with fail
        refine (HPL.out _ _ _ _ _ hb2 HO6.out HO7.out).mono ?_
        rintro e w3 ⟨a3, c3, rfl, hc3, ho3, hb3⟩
        clear m1 m2 m3 m4 m5 m6
        go_wp2_with fail
        refine (HLM.out _ _ _ hc3 ho3 hb3).mono ?_
        rintro e w4 ⟨a4, c4, rfl, hc4, ho4, hb4⟩
        have HC4 := Lib.hid hc4
        have HO4 := Lib.hid ho4
        clear hc3 ho3 hc4 ho4
        obtain ⟨q1, q2, q3, q4, q5, q6⟩ := SR.out _ hb4
        go_wp2_with fail
        refine bodyPost_ret (v := .tuple #[.agg #[.int .i64 r1, .slice a4 r2.length c4, .int .i64 r4], .int .i64 r3]) (by simp [results, Tryz.results38, go_sem, *]) rfl ?_
        exact retYC_end (g := w.heap.size + 1) (r := (r1, r2, r4, r3)) P3.out P4.out hb4 (by omega) (by omega) _ _ _ HO4.out HC4.out
end Go.Proofs.YtgppagmejhgmaaaGreatDoor
