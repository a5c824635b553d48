/-
  Contracts: tests and squares of exact complex numbers, by the program and by the model. Conditions: the limbs can be read; the library's table is as its initialiser lays it.
-/
import Derived.Test.YtpchcigpppdfiaaDoorEa
import Derived.Test.YtpchcigpppdfiaaDoorQh
import Derived.Deep.RegionHeld3
namespace Go.Proofs.YtpchcigpppdfiaaDoor
set_option linter.unusedVariables false
open Go Go.RowKit

theorem and_no {a b : Bool} (h : a = false) : (a && b) = false := by rw [h]; rfl

set_option maxHeartbeats 1000000 in
theorem iValidE (s : Int) (a : Option Addr) (xs : List Int) (c : Nat) (x : Int) (s' : Int) (a' : Option Addr) (xs' : List Int) (c' : Nat) (x' : Int) (w : World) (B : Nat) (hB : B ≤ w.heap.size) (hl : xs.length ≤ 9223372036854775807) (hl' : xs'.length ≤ 9223372036854775807) (hx : Ints w B a xs) (hx' : Ints w B a' xs') :
    Calls Tryd.prog 65 #[.agg #[.int .i64 s, .slice a xs.length c, .int .i64 x, .int .i64 s', .slice a' xs'.length c', .int .i64 x']] w (RetB (.bool (dyB s xs x && dyB s' xs' x')) w) := by
  have W0 := Lib.hid (one_box w 49 #[.int .i64 s, .slice a xs.length c, .int .i64 x, .int .i64 s', .slice a' xs'.length c', .int .i64 x'])
  have H1 := Lib.hid (show ∀ W, Below w.heap.size w W → Calls Tryd.prog 73 #[.agg #[.int .i64 s, .slice a xs.length c, .int .i64 x]] W (RetB (.bool (dyB s xs x)) W) from fun W hW => iIsDyadic s a xs c x W B (by have := hW.size; omega) hl (hx.below (hW.mono hB)))
  have H2 := Lib.hid (show ∀ W, Below w.heap.size w W → Calls Tryd.prog 73 #[.agg #[.int .i64 s', .slice a' xs'.length c', .int .i64 x']] W (RetB (.bool (dyB s' xs' x')) W) from fun W hW => iIsDyadic s' a' xs' c' x' W B (by have := hW.size; omega) hl' (hx'.below (hW.mono hB)))
  obtain ⟨k1, k2, k3, k4, k5, k6⟩ := W0.out.1.six
  clear hx hx' hl hl' hB
  cases h1 : dyB s xs x
  · rw [h1] at H1
    rw [and_no rfl]
    clear h1
    go_enter Tryd.func65, Tryd.ntmps65
    go_wp2_with fail
    refine (H1.out _ W0.out.2.1).mono ?_
    rintro e w1 ⟨rfl, hb⟩
    have HB := Lib.hid (show Below w.heap.size w w1 from W0.out.2.1.trans (hb.mono (by have := W0.out.2.2; omega)))
    clear hb k1 k2 k3 k4 k5 k6
    go_wp2_with fail
    go_ret
    exact ⟨rfl, HB.out⟩
  · rw [h1] at H1
    rw [Bool.true_and]
    clear h1
    obtain ⟨v, hv⟩ : ∃ v, v = dyB s' xs' x' := ⟨_, rfl⟩
    rw [← hv] at H2 ⊢
    clear hv
    go_enter Tryd.func65, Tryd.ntmps65
    go_wp2_with fail
    refine (H1.out _ W0.out.2.1).mono ?_
    rintro e w1 ⟨rfl, hb⟩
    have HB := Lib.hid (show Below w.heap.size w w1 from W0.out.2.1.trans (hb.mono (by have := W0.out.2.2; omega)))
    clear k1 k2 k3 k4 k5 k6
    obtain ⟨k1, k2, k3, k4, k5, k6⟩ := (W0.out.1.below hb).six
    clear hb
    go_wp2_with fail
    refine (H2.out _ HB.out).mono ?_
    rintro e w2 ⟨rfl, hb⟩
    have HB2 := Lib.hid (show Below w.heap.size w w2 from HB.out.trans (hb.mono HB.out.size))
    clear hb k1 k2 k3 k4 k5 k6
    go_wp2_with fail
    go_ret
    exact ⟨rfl, HB2.out⟩

set_option maxHeartbeats 1000000 in
theorem sPairE (s : Int) (a : Option Addr) (xs : List Int) (c : Nat) (x : Int) (s' : Int) (a' : Option Addr) (xs' : List Int) (c' : Nat) (x' : Int) (w : World) (B : Nat) (hB : B ≤ w.heap.size) (hl : xs.length ≤ 9223372036854775807) (hl' : xs'.length ≤ 9223372036854775807) (hx : Ints w B a xs) (hx' : Ints w B a' xs') :
    Calls Tryd.prog 60 #[.agg #[.int .i64 s, .slice a xs.length c, .int .i64 x, .int .i64 s', .slice a' xs'.length c', .int .i64 x']] w (RetB (.bool (dyB s xs x && dyB s' xs' x')) w) := by
  have W0 := Lib.hid (one_box w 49 #[.int .i64 s, .slice a xs.length c, .int .i64 x, .int .i64 s', .slice a' xs'.length c', .int .i64 x'])
  have H1 := Lib.hid (show ∀ W, Below w.heap.size w W → Calls Tryd.prog 61 #[.agg #[.int .i64 s, .slice a xs.length c, .int .i64 x]] W (RetB (.bool (dyB s xs x)) W) from fun W hW => sDy s a xs c x W B (by have := hW.size; omega) hl (hx.below (hW.mono hB)))
  have H2 := Lib.hid (show ∀ W, Below w.heap.size w W → Calls Tryd.prog 61 #[.agg #[.int .i64 s', .slice a' xs'.length c', .int .i64 x']] W (RetB (.bool (dyB s' xs' x')) W) from fun W hW => sDy s' a' xs' c' x' W B (by have := hW.size; omega) hl' (hx'.below (hW.mono hB)))
  obtain ⟨k1, k2, k3, k4, k5, k6⟩ := W0.out.1.six
  clear hx hx' hl hl' hB
  cases h1 : dyB s xs x
  · rw [h1] at H1
    rw [and_no rfl]
    clear h1
    go_enter Tryd.func60, Tryd.ntmps60
    go_wp2_with fail
    refine (H1.out _ W0.out.2.1).mono ?_
    rintro e w1 ⟨rfl, hb⟩
    have HB := Lib.hid (show Below w.heap.size w w1 from W0.out.2.1.trans (hb.mono (by have := W0.out.2.2; omega)))
    clear hb k1 k2 k3 k4 k5 k6
    go_wp2_with fail
    go_ret
    exact ⟨rfl, HB.out⟩
  · rw [h1] at H1
    rw [Bool.true_and]
    clear h1
    obtain ⟨v, hv⟩ : ∃ v, v = dyB s' xs' x' := ⟨_, rfl⟩
    rw [← hv] at H2 ⊢
    clear hv
    go_enter Tryd.func60, Tryd.ntmps60
    go_wp2_with fail
    refine (H1.out _ W0.out.2.1).mono ?_
    rintro e w1 ⟨rfl, hb⟩
    have HB := Lib.hid (show Below w.heap.size w w1 from W0.out.2.1.trans (hb.mono (by have := W0.out.2.2; omega)))
    clear k1 k2 k3 k4 k5 k6
    obtain ⟨k1, k2, k3, k4, k5, k6⟩ := (W0.out.1.below hb).six
    clear hb
    go_wp2_with fail
    refine (H2.out _ HB.out).mono ?_
    rintro e w2 ⟨rfl, hb⟩
    have HB2 := Lib.hid (show Below w.heap.size w w2 from HB.out.trans (hb.mono HB.out.size))
    clear hb k1 k2 k3 k4 k5 k6
    go_wp2_with fail
    go_ret
    exact ⟨rfl, HB2.out⟩

def zv (r : Int × List Int × Int) : Int := r.1 * (val (r.2.1.map Int.toNat) : Int)
/-- The sum of both parts' squares. -/
noncomputable def sqF (p q : Int × List Int × Int) : Int × List Int × Int × Int := @ite _ (dyB p.1 p.2.1 p.2.2 = true ∧ dyB q.1 q.2.1 q.2.2 = true) (Classical.propDecidable _) (fitY (addW (zv p) p.2.2 (zv q) q.2.2)) (0, [], 0, 3)
noncomputable def sqY (s : Int) (xs : List Int) (x : Int) (s' : Int) (xs' : List Int) (x' : Int) : Int × List Int × Int × Int :=
  @ite _ (dyB s xs x = true ∧ dyB s' xs' x' = true) (Classical.propDecidable _) (sqF (mulW (zv (s, xs, x)) x (zv (s, xs, x)) x) (mulW (zv (s', xs', x')) x' (zv (s', xs', x')) x')) (0, [], 0, 1)
theorem sqF_yes {p q : Int × List Int × Int} (h1 : dyB p.1 p.2.1 p.2.2 = true) (h2 : dyB q.1 q.2.1 q.2.2 = true) : sqF p q = fitY (addW (zv p) p.2.2 (zv q) q.2.2) := by unfold sqF; rw [if_pos ⟨h1, h2⟩]
theorem sqF_no {p q : Int × List Int × Int} (h : ¬ (dyB p.1 p.2.1 p.2.2 = true ∧ dyB q.1 q.2.1 q.2.2 = true)) : sqF p q = (0, [], 0, 3) := by unfold sqF; rw [if_neg h]
theorem sqF_len (p q : Int × List Int × Int) : (sqF p q).2.1.length ≤ 200 := by
  unfold sqF
  split
  · exact fitY_len _
  · simp
theorem sqY_yes {s : Int} {xs : List Int} {x : Int} {s' : Int} {xs' : List Int} {x' : Int} (h1 : dyB s xs x = true) (h2 : dyB s' xs' x' = true) :
    sqY s xs x s' xs' x' = sqF (mulW (zv (s, xs, x)) x (zv (s, xs, x)) x) (mulW (zv (s', xs', x')) x' (zv (s', xs', x')) x') := by unfold sqY; rw [if_pos ⟨h1, h2⟩]
theorem sqY_no {s : Int} {xs : List Int} {x : Int} {s' : Int} {xs' : List Int} {x' : Int} (h : ¬ (dyB s xs x = true ∧ dyB s' xs' x' = true)) : sqY s xs x s' xs' x' = (0, [], 0, 1) := by unfold sqY; rw [if_neg h]
theorem sqY_len (s : Int) (xs : List Int) (x : Int) (s' : Int) (xs' : List Int) (x' : Int) : (sqY s xs x s' xs' x').2.1.length ≤ 200 := by
  unfold sqY
  split
  · exact sqF_len _ _
  · simp
theorem zv_lim (s x : Int) (m : Nat) : zv (s, lim m, x) = s * (m : Int) := by unfold zv; simp only; rw [val_lim]
theorem both_no {a b : Bool} (h : ¬ (a = true ∧ b = true)) : (a && b) = false := by
  cases a <;> cases b <;> simp_all
/-- The form of a product. -/
theorem mulW_form {s x t y : Int} {m n : Nat} (hs : Sg s m) (ht : Sg t n) (hm : (lim m).length ≤ 200) (hn : (lim n).length ≤ 200) : ∃ r k z, mulW (s * (m : Int)) x (t * (n : Int)) y = (r, lim k, z) ∧ Sg r k ∧ (lim k).length ≤ 400 := by
  obtain ⟨r, k, z, h1, h2, h3, _⟩ := redZ_form (s * (m : Int) * (t * (n : Int))) (x + y)
  refine ⟨r, k, z, h1, h2, Nat.le_trans (lim_le_of_le h3) ?_⟩
  rw [Int.natAbs_mul, hs.abs, ht.abs]
  have := lim_mul_len m n
  omega
theorem dyB_exp {s x : Int} {xs : List Int} (h : dyB s xs x = true) : -5000 ≤ x ∧ x ≤ 5000 := ⟨(dyB_iff.1 h).2.1, (dyB_iff.1 h).2.2.1⟩
theorem dyB_len {s x : Int} {m : Nat} (h : dyB s (lim m) x = true) : (lim m).length ≤ 200 := by
  obtain ⟨n, e, h1, _⟩ := isDy_of (dyB_iff.1 h)
  rw [e]
  exact h1

theorem addW_form {s x t y : Int} {m n : Nat} (hs : Sg s m) (ht : Sg t n) (hm : (lim m).length ≤ 400) (hn : (lim n).length ≤ 400) (x1 : -5000 ≤ x) (x2 : x ≤ 5000) (y1 : -5000 ≤ y) (y2 : y ≤ 5000) : ∃ r k z, addW (s * (m : Int)) x (t * (n : Int)) y = (r, lim k, z) ∧ Sg r k ∧ (lim k).length ≤ 4000 := by
  obtain ⟨r, k, z, h1, h2, h3, _⟩ := redZ_form (shZ (s * (m : Int)) (x - min x y) + shZ (t * (n : Int)) (y - min x y)) (min x y)
  refine ⟨r, k, z, h1, h2, Nat.le_trans (lim_le_of_le h3) ?_⟩
  have a1 := shZ_up_len (z := s * (m : Int)) (k := x - min x y) (by omega)
  have a2 := shZ_up_len (z := t * (n : Int)) (k := y - min x y) (by omega)
  rw [hs.abs] at a1
  rw [ht.abs] at a2
  have a3 := Int.natAbs_add_le (shZ (s * (m : Int)) (x - min x y)) (shZ (t * (n : Int)) (y - min x y))
  have a4 := lim_add_len (shZ (s * (m : Int)) (x - min x y)).natAbs (shZ (t * (n : Int)) (y - min x y)).natAbs
  have a5 := lim_le_of_le a3
  omega

/-- A variable that holds an exact complex number of the call's own. -/
structure ResE (W0 W : World) (p : Value) (p1 : Int) (p2 : List Int) (p3 q1 : Int) (q2 : List Int) (q3 : Int) (hi : Nat) : Prop where
  ex : ∃ g a c b d, p = .pointer (some ⟨g, 0, none⟩) ∧ W0.heap.size ≤ g ∧ g < hi ∧ BoxAt W g 49 #[.int .i64 p1, .slice a p2.length c, .int .i64 p3, .int .i64 q1, .slice b q2.length d, .int .i64 q3] ∧ p2.length ≤ c ∧ q2.length ≤ d ∧ Own W W0.heap.size a p2 ∧ Own W W0.heap.size b q2
  bel : Below W0.heap.size W0 W
  size : hi ≤ W.heap.size
theorem ResE.mk1 {W0 W W' : World} {p1 p3 q1 q3 : Int} {p2 q2 : List Int} {a b : Option Addr} {c d : Nat} {lo lo' : Nat} (hb : Below W0.heap.size W0 W) (ho : Own W lo a p2) (hlo : W0.heap.size ≤ lo) (hc : p2.length ≤ c) (ho' : Own W lo' b q2) (hlo' : W0.heap.size ≤ lo') (hd : q2.length ≤ d) (hW : W' = W.alloc (.cells #[.int .i64 p1, .slice a p2.length c, .int .i64 p3, .int .i64 q1, .slice b q2.length d, .int .i64 q3] 49)) :
    ResE W0 W' (.pointer (some ⟨W.heap.size, 0, none⟩)) p1 p2 p3 q1 q2 q3 W'.heap.size := by
  subst hW
  exact ⟨⟨W.heap.size, a, c, b, d, rfl, hb.size, by simp, BoxAt.new _ _ _, hc, hd, (ho.mono hlo).alloc _, (ho'.mono hlo').alloc _⟩, hb.alloc hb.size _, Nat.le_refl _⟩
theorem own_boxE {w : World} {lo g : Nat} {a : Option Addr} {xs : List Int} {cs : Array Value} (h : Own w lo a xs) (hb : BoxAt w g 49 cs) (i : Nat) (u : Value) : Own (w.setCell ⟨g, i, none⟩ u) lo a xs := by
  rcases h with h | ⟨g', e, hg, hr⟩
  · exact .inl h
  · refine .inr ⟨g', e, hg, hr.far (p := ⟨g, i, none⟩) (fun hgg => ?_) u⟩
    obtain ⟨cur, hc, _⟩ := hr
    simp only at hgg
    subst hgg
    unfold BoxAt at hb
    rw [hb] at hc
    injection hc with hc
    injection hc with _ hc
    exact absurd hc (by decide)
theorem own_boxE6 {w : World} {lo g : Nat} {a : Option Addr} {xs : List Int} {cs : Array Value} (h : Own w lo a xs) (hb : BoxAt w g 49 cs) (u0 u1 u2 u3 u4 u5 : Value) :
    Own ((((((w.setCell ⟨g, 0, none⟩ u0).setCell ⟨g, 1, none⟩ u1).setCell ⟨g, 2, none⟩ u2).setCell ⟨g, 3, none⟩ u3).setCell ⟨g, 4, none⟩ u4).setCell ⟨g, 5, none⟩ u5) lo a xs := by
  have b1 := hb.set_ 0 u0
  have b2 := b1.set_ 1 u1
  have b3 := b2.set_ 2 u2
  have b4 := b3.set_ 3 u3
  have b5 := b4.set_ 4 u4
  exact own_boxE (own_boxE (own_boxE (own_boxE (own_boxE (own_boxE h hb 0 u0) b1 1 u1) b2 2 u2) b3 3 u3) b4 4 u4) b5 5 u5
theorem below_set6 {W0 W : World} {g : Nat} (h : Below W0.heap.size W0 W) (hg : W0.heap.size ≤ g) (a b c d e f : Value) : Below W0.heap.size W0 ((((((W.setCell ⟨g, 0, none⟩ a).setCell ⟨g, 1, none⟩ b).setCell ⟨g, 2, none⟩ c).setCell ⟨g, 3, none⟩ d).setCell ⟨g, 4, none⟩ e).setCell ⟨g, 5, none⟩ f) := Below.set6 h hg a b c d e f
theorem ResE.mk2 {W0 W : World} {g : Nat} {p1 p3 q1 q3 : Int} {p2 q2 : List Int} {a b : Option Addr} {c d : Nat} {lo lo' : Nat} {v0 v1 v2 v3 v4 v5 : Value} (hx : BoxAt W g 49 #[v0, v1, v2, v3, v4, v5]) (hg : W0.heap.size ≤ g) (hb : Below W0.heap.size W0 W) (ho : Own W lo a p2) (hlo : W0.heap.size ≤ lo) (hc : p2.length ≤ c) (ho' : Own W lo' b q2) (hlo' : W0.heap.size ≤ lo') (hd : q2.length ≤ d) :
    ResE W0 ((((((W.setCell ⟨g, 0, none⟩ (.int .i64 p1)).setCell ⟨g, 1, none⟩ (.slice a p2.length c)).setCell ⟨g, 2, none⟩ (.int .i64 p3)).setCell ⟨g, 3, none⟩ (.int .i64 q1)).setCell ⟨g, 4, none⟩ (.slice b q2.length d)).setCell ⟨g, 5, none⟩ (.int .i64 q3)) (.pointer (some ⟨g, 0, none⟩)) p1 p2 p3 q1 q2 q3 W.heap.size := by
  refine ⟨⟨g, a, c, b, d, rfl, hg, hx.lt, ?_, hc, hd, (own_boxE6 ho hx _ _ _ _ _ _).mono hlo, (own_boxE6 ho' hx _ _ _ _ _ _).mono hlo'⟩, below_set6 hb hg _ _ _ _ _ _, by simp [World.setCell]⟩
  have := (((((hx.set_ 0 (.int .i64 p1)).set_ 1 (.slice a p2.length c)).set_ 2 (.int .i64 p3)).set_ 3 (.int .i64 q1)).set_ 4 (.slice b q2.length d)).set_ 5 (.int .i64 q3)
  simpa using this

end Go.Proofs.YtpchcigpppdfiaaDoor
