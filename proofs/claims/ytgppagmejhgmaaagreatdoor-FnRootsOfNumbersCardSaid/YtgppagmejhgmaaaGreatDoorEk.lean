/-
  Contracts: sums of exact complex numbers, by the program and by the model. Conditions: the limbs can be read; the library's table is as its initialiser lays it. Contracts: sums of exact complex numbers, by the program and by the model: AddExacts. Conditions: the limbs can be read; the library's table is as its initialiser lays it. Contracts: sums of exact complex numbers by the model: l03Plus, AddExacts. Conditions: the limbs can be read. Contracts: products of exact complex numbers by the program: MultiplyExacts. Conditions: the limbs can be read; the library's table is as its initialiser lays it. Contracts: products of exact complex numbers by the model: l03Times, MultiplyExacts. Conditions: the limbs can be read.
-/
import Derived.Test.YtgppagmejhgmaaaGreatDoorEa
namespace Go.Proofs.YtgppagmejhgmaaaGreatDoor
set_option linter.unusedVariables false
open Go Go.RowKit

/-- An exact complex number and a code. -/
structure ExR where
  s1 : Int
  l1 : List Int
  x1 : Int
  s2 : Int
  l2 : List Int
  x2 : Int
  code : Int
def exZ (code : Int) : ExR := ⟨0, [], 0, 0, [], 0, code⟩
noncomputable def fitE (p q : Int × List Int × Int) : ExR := @ite _ (dyB p.1 p.2.1 p.2.2 = true ∧ dyB q.1 q.2.1 q.2.2 = true) (Classical.propDecidable _) ⟨p.1, p.2.1, p.2.2, q.1, q.2.1, q.2.2, 0⟩ (exZ 3)
theorem fitE_yes {p q : Int × List Int × Int} (h1 : dyB p.1 p.2.1 p.2.2 = true) (h2 : dyB q.1 q.2.1 q.2.2 = true) : fitE p q = ⟨p.1, p.2.1, p.2.2, q.1, q.2.1, q.2.2, 0⟩ := by unfold fitE; rw [if_pos ⟨h1, h2⟩]
theorem fitE_no {p q : Int × List Int × Int} (h : ¬ (dyB p.1 p.2.1 p.2.2 = true ∧ dyB q.1 q.2.1 q.2.2 = true)) : fitE p q = exZ 3 := by unfold fitE; rw [if_neg h]
/-- The call returned an exact complex number, in memory of its own, and a code. -/
def RetEP (r : ExR) (lo : Nat) (w : World) (e : Ending) (w' : World) : Prop := ∃ a c b d, e = .returned (.tuple #[.agg #[.int .i64 r.s1, .slice a r.l1.length c, .int .i64 r.x1, .int .i64 r.s2, .slice b r.l2.length d, .int .i64 r.x2], .int .i64 r.code]) ∧ r.l1.length ≤ c ∧ r.l2.length ≤ d ∧ Own w' lo a r.l1 ∧ Own w' lo b r.l2 ∧ Apart a b r.l1 r.l2 ∧ Below w.heap.size w w'
theorem retEC_zero {w W0 W : World} {k g lo : Nat} (code : Int) (P3 : Below w.heap.size w W0) (P4 : W0.heap.size = w.heap.size + k) (hb : Below W0.heap.size W0 W) (hg : w.heap.size ≤ g) (v0 v1 v2 v3 v4 v5 : Value) :
    RetEP (exZ code) lo w (.returned (.tuple #[.agg #[.int .i64 0, .slice none 0 0, .int .i64 0, .int .i64 0, .slice none 0 0, .int .i64 0], .int .i64 code])) ((((((W.setCell ⟨g, 0, none⟩ v0).setCell ⟨g, 1, none⟩ v1).setCell ⟨g, 2, none⟩ v2).setCell ⟨g, 3, none⟩ v3).setCell ⟨g, 4, none⟩ v4).setCell ⟨g, 5, none⟩ v5) :=
  ⟨none, 0, none, 0, rfl, Nat.le_refl _, Nat.le_refl _, Own.nil, Own.nil, .inl rfl, Below.set6 (P3.trans (hb.mono (by omega))) hg _ _ _ _ _ _⟩
theorem retEC_end {w W0 W : World} {k g lo : Nat} {r : ExR} {a b : Option Addr} {c d : Nat} (P3 : Below w.heap.size w W0) (P4 : W0.heap.size = w.heap.size + k) (hb : Below W0.heap.size W0 W) (hg : w.heap.size ≤ g) (v0 v1 v2 v3 v4 v5 : Value) (hbx : ∃ cs, BoxAt W g 64 cs) (ho : Own W lo a r.l1) (hp : Own W lo b r.l2) (hc : r.l1.length ≤ c) (hd : r.l2.length ≤ d) (hap : Apart a b r.l1 r.l2) :
    RetEP r lo w (.returned (.tuple #[.agg #[.int .i64 r.s1, .slice a r.l1.length c, .int .i64 r.x1, .int .i64 r.s2, .slice b r.l2.length d, .int .i64 r.x2], .int .i64 r.code])) ((((((W.setCell ⟨g, 0, none⟩ v0).setCell ⟨g, 1, none⟩ v1).setCell ⟨g, 2, none⟩ v2).setCell ⟨g, 3, none⟩ v3).setCell ⟨g, 4, none⟩ v4).setCell ⟨g, 5, none⟩ v5) := by
  obtain ⟨cs, hbx⟩ := hbx
  exact ⟨a, c, b, d, rfl, hc, hd, own_boxE6 ho hbx _ _ _ _ _ _, own_boxE6 hp hbx _ _ _ _ _ _, hap, Below.set6 (P3.trans (hb.mono (by omega))) hg _ _ _ _ _ _⟩

/-- What a function of two exact complex numbers answers that both are tested first. -/
noncomputable def exY (f : Int → Int → Int → Int → Int → Int → Int → Int → ExR) (s : Int) (xs : List Int) (x : Int) (s' : Int) (xs' : List Int) (x' : Int) (t : Int) (ys : List Int) (y : Int) (t' : Int) (ys' : List Int) (y' : Int) : ExR :=
  @ite _ ((dyB s xs x && dyB s' xs' x') = true ∧ (dyB t ys y && dyB t' ys' y') = true) (Classical.propDecidable _) (f (zv (s, xs, x)) x (zv (s', xs', x')) x' (zv (t, ys, y)) y (zv (t', ys', y')) y') (exZ 1)
theorem exY_yes {f : Int → Int → Int → Int → Int → Int → Int → Int → ExR} {s : Int} {xs : List Int} {x : Int} {s' : Int} {xs' : List Int} {x' : Int} {t : Int} {ys : List Int} {y : Int} {t' : Int} {ys' : List Int} {y' : Int} (h1 : (dyB s xs x && dyB s' xs' x') = true) (h2 : (dyB t ys y && dyB t' ys' y') = true) :
    exY f s xs x s' xs' x' t ys y t' ys' y' = f (zv (s, xs, x)) x (zv (s', xs', x')) x' (zv (t, ys, y)) y (zv (t', ys', y')) y' := by unfold exY; rw [if_pos ⟨h1, h2⟩]
theorem exY_no {f : Int → Int → Int → Int → Int → Int → Int → Int → ExR} {s : Int} {xs : List Int} {x : Int} {s' : Int} {xs' : List Int} {x' : Int} {t : Int} {ys : List Int} {y : Int} {t' : Int} {ys' : List Int} {y' : Int} (h : ¬ ((dyB s xs x && dyB s' xs' x') = true ∧ (dyB t ys y && dyB t' ys' y') = true)) :
    exY f s xs x s' xs' x' t ys y t' ys' y' = exZ 1 := by unfold exY; rw [if_neg h]
noncomputable def adF (z x z' x' u y u' y' : Int) : ExR := fitE (addW z x u y) (addW z' x' u' y')
theorem both_yes {a b : Bool} (h : (a && b) = true) : a = true ∧ b = true := by cases a <;> cases b <;> simp_all
theorem RetEP.alloc {r : ExR} {lo : Nat} {w W : World} {e : Ending} (h : RetEP r lo w e W) (o : Obj) : RetEP r lo w e (W.alloc o) := by
  obtain ⟨a, c, b, d, he, hc, hd, ho, hp, hap, hb⟩ := h
  exact ⟨a, c, b, d, he, hc, hd, ho.alloc o, hp.alloc o, hap, hb.alloc hb.size o⟩
theorem far6 {w : World} {g g' : Nat} {t : TypeId} {cs : Array Value} (h : BoxAt w g t cs) (hne : g ≠ g') (u0 u1 u2 u3 u4 u5 : Value) :
    BoxAt ((((((w.setCell ⟨g', 0, none⟩ u0).setCell ⟨g', 1, none⟩ u1).setCell ⟨g', 2, none⟩ u2).setCell ⟨g', 3, none⟩ u3).setCell ⟨g', 4, none⟩ u4).setCell ⟨g', 5, none⟩ u5) g t cs :=
  (((((h.far (p := ⟨g', 0, none⟩) hne u0).far (p := ⟨g', 1, none⟩) hne u1).far (p := ⟨g', 2, none⟩) hne u2).far (p := ⟨g', 3, none⟩) hne u3).far (p := ⟨g', 4, none⟩) hne u4).far (p := ⟨g', 5, none⟩) hne u5

/-- The call returned an exact complex number in memory of its own. -/
def RetEE (p1 : Int) (p2 : List Int) (p3 q1 : Int) (q2 : List Int) (q3 : Int) (w : World) (e : Ending) (w' : World) : Prop := ∃ a c b d, e = .returned (.agg #[.int .i64 p1, .slice a p2.length c, .int .i64 p3, .int .i64 q1, .slice b q2.length d, .int .i64 q3]) ∧ p2.length ≤ c ∧ q2.length ≤ d ∧ Own w' w.heap.size a p2 ∧ Own w' w.heap.size b q2 ∧ Apart a b p2 q2 ∧ Below w.heap.size w w'
noncomputable def muG (P Q U V : Int × List Int × Int) : ExR :=
  @ite _ ((dyB P.1 P.2.1 P.2.2 && dyB Q.1 Q.2.1 Q.2.2) = true ∧ (dyB U.1 U.2.1 U.2.2 && dyB V.1 V.2.1 V.2.2) = true) (Classical.propDecidable _) (fitE (addW (zv P) P.2.2 (-(zv Q)) Q.2.2) (addW (zv U) U.2.2 (zv V) V.2.2)) (exZ 3)
noncomputable def muF (z x z' x' u y u' y' : Int) : ExR := muG (mulW z x u y) (mulW z' x' u' y') (mulW z x u' y') (mulW z' x' u y)
theorem muG_yes {P Q U V : Int × List Int × Int} (h1 : (dyB P.1 P.2.1 P.2.2 && dyB Q.1 Q.2.1 Q.2.2) = true) (h2 : (dyB U.1 U.2.1 U.2.2 && dyB V.1 V.2.1 V.2.2) = true) : muG P Q U V = fitE (addW (zv P) P.2.2 (-(zv Q)) Q.2.2) (addW (zv U) U.2.2 (zv V) V.2.2) := by unfold muG; rw [if_pos ⟨h1, h2⟩]
theorem muG_no {P Q U V : Int × List Int × Int} (h : ¬ ((dyB P.1 P.2.1 P.2.2 && dyB Q.1 Q.2.1 Q.2.2) = true ∧ (dyB U.1 U.2.1 U.2.2 && dyB V.1 V.2.1 V.2.2) = true)) : muG P Q U V = exZ 3 := by unfold muG; rw [if_neg h]
theorem Sg.opp {s : Int} {n : Nat} (h : Sg s n) : Sg (-s) n := by unfold Sg at *; omega
theorem subW_form {s x t y : Int} {m n : Nat} (hs : Sg s m) (ht : Sg t n) (hm : (lim m).length ≤ 400) (hn : (lim n).length ≤ 400) (x1 : -5000 ≤ x) (x2 : x ≤ 5000) (y1 : -5000 ≤ y) (y2 : y ≤ 5000) : ∃ r k z, addW (s * (m : Int)) x (-(t * (n : Int))) y = (r, lim k, z) ∧ Sg r k ∧ (lim k).length ≤ 4000 := by
  have := addW_form (x := x) (y := y) hs ht.opp hm hn x1 x2 y1 y2
  rwa [Int.neg_mul] at this

end Go.Proofs.YtgppagmejhgmaaaGreatDoor
