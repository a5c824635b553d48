/-
  Contracts: sums of exact complex numbers, by the program and by the model. Conditions: the limbs can be read; the library's table is as its initialiser lays it. Contracts: sums of exact complex numbers, by the program and by the model: AddExacts. Conditions: the limbs can be read; the library's table is as its initialiser lays it. Contracts: sums of exact complex numbers by the model: l03Plus, AddExacts. Conditions: the limbs can be read. Contracts: products of exact complex numbers by the program: MultiplyExacts. Conditions: the limbs can be read; the library's table is as its initialiser lays it. Contracts: products of exact complex numbers by the model: l03Times, MultiplyExacts. Conditions: the limbs can be read.
-/
import Derived.Test.YtnnbfoemmgddeaaGreatDoorEa
namespace Go.Proofs.YtnnbfoemmgddeaaGreatDoor
set_option linter.unusedVariables false
open Go Go.RowKit

/-- An exact complex number and a code. -/
structure ExR where
  s1 : Int
  l1 : List Int
  x1 : Int
  s2 : Int
  l2 : List Int
  x2 : Int
  code : Int
def exZ (code : Int) : ExR := ⟨0, [], 0, 0, [], 0, code⟩
noncomputable def fitE (p q : Int × List Int × Int) : ExR := @ite _ (dyB p.1 p.2.1 p.2.2 = true ∧ dyB q.1 q.2.1 q.2.2 = true) (Classical.propDecidable _) ⟨p.1, p.2.1, p.2.2, q.1, q.2.1, q.2.2, 0⟩ (exZ 3)
theorem fitE_yes {p q : Int × List Int × Int} (h1 : dyB p.1 p.2.1 p.2.2 = true) (h2 : dyB q.1 q.2.1 q.2.2 = true) : fitE p q = ⟨p.1, p.2.1, p.2.2, q.1, q.2.1, q.2.2, 0⟩ := by unfold fitE; rw [if_pos ⟨h1, h2⟩]
theorem fitE_no {p q : Int × List Int × Int} (h : ¬ (dyB p.1 p.2.1 p.2.2 = true ∧ dyB q.1 q.2.1 q.2.2 = true)) : fitE p q = exZ 3 := by unfold fitE; rw [if_neg h]
/-- The call returned an exact complex number, in memory of its own, and a code. -/
def RetEP (r : ExR) (lo : Nat) (w : World) (e : Ending) (w' : World) : Prop := ∃ a c b d, e = .returned (.tuple #[.agg #[.int .i64 r.s1, .slice a r.l1.length c, .int .i64 r.x1, .int .i64 r.s2, .slice b r.l2.length d, .int .i64 r.x2], .int .i64 r.code]) ∧ r.l1.length ≤ c ∧ r.l2.length ≤ d ∧ Own w' lo a r.l1 ∧ Own w' lo b r.l2 ∧ Apart a b r.l1 r.l2 ∧ Below w.heap.size w w'
theorem retEC_zero {w W0 W : World} {k g lo : Nat} (code : Int) (P3 : Below w.heap.size w W0) (P4 : W0.heap.size = w.heap.size + k) (hb : Below W0.heap.size W0 W) (hg : w.heap.size ≤ g) (v0 v1 v2 v3 v4 v5 : Value) :
    RetEP (exZ code) lo w (.returned (.tuple #[.agg #[.int .i64 0, .slice none 0 0, .int .i64 0, .int .i64 0, .slice none 0 0, .int .i64 0], .int .i64 code])) ((((((W.setCell ⟨g, 0, none⟩ v0).setCell ⟨g, 1, none⟩ v1).setCell ⟨g, 2, none⟩ v2).setCell ⟨g, 3, none⟩ v3).setCell ⟨g, 4, none⟩ v4).setCell ⟨g, 5, none⟩ v5) :=
  ⟨none, 0, none, 0, rfl, Nat.le_refl _, Nat.le_refl _, Own.nil, Own.nil, .inl rfl, Below.set6 (P3.trans (hb.mono (by omega))) hg _ _ _ _ _ _⟩
theorem retEC_end {w W0 W : World} {k g lo : Nat} {r : ExR} {a b : Option Addr} {c d : Nat} (P3 : Below w.heap.size w W0) (P4 : W0.heap.size = w.heap.size + k) (hb : Below W0.heap.size W0 W) (hg : w.heap.size ≤ g) (v0 v1 v2 v3 v4 v5 : Value) (hbx : ∃ cs, BoxAt W g 33 cs) (ho : Own W lo a r.l1) (hp : Own W lo b r.l2) (hc : r.l1.length ≤ c) (hd : r.l2.length ≤ d) (hap : Apart a b r.l1 r.l2) :
    RetEP r lo w (.returned (.tuple #[.agg #[.int .i64 r.s1, .slice a r.l1.length c, .int .i64 r.x1, .int .i64 r.s2, .slice b r.l2.length d, .int .i64 r.x2], .int .i64 r.code])) ((((((W.setCell ⟨g, 0, none⟩ v0).setCell ⟨g, 1, none⟩ v1).setCell ⟨g, 2, none⟩ v2).setCell ⟨g, 3, none⟩ v3).setCell ⟨g, 4, none⟩ v4).setCell ⟨g, 5, none⟩ v5) := by
  obtain ⟨cs, hbx⟩ := hbx
  exact ⟨a, c, b, d, rfl, hc, hd, own_boxE6 ho hbx _ _ _ _ _ _, own_boxE6 hp hbx _ _ _ _ _ _, hap, Below.set6 (P3.trans (hb.mono (by omega))) hg _ _ _ _ _ _⟩

set_option maxRecDepth 100000 in
set_option maxHeartbeats 4000000 in
theorem iLimitE (p1 : Int) (p2 : List Int) (p3 q1 : Int) (q2 : List Int) (q3 : Int) (a b : Option Addr) (c d : Nat) (w : World) (lo : Nat) (hl : p2.length ≤ 9223372036854775807) (hl' : q2.length ≤ 9223372036854775807) (hc : p2.length ≤ c) (hd : q2.length ≤ d) (ho : Own w lo a p2) (hp : Own w lo b q2) (hap : Apart a b p2 q2) :
    Calls Tryz.prog 70 #[.agg #[.int .i64 p1, .slice a p2.length c, .int .i64 p3, .int .i64 q1, .slice b q2.length d, .int .i64 q3]] w (RetEP (fitE (p1, p2, p3) (q1, q2, q3)) lo w) := by
  obtain ⟨W0, hW0⟩ : ∃ W0 : World, (w.alloc (.cells #[.int .i64 p1, .slice a p2.length c, .int .i64 p3, .int .i64 q1, .slice b q2.length d, .int .i64 q3] 33)).alloc (.cells #[.int .i64 0, .slice none 0 0, .int .i64 0, .int .i64 0, .slice none 0 0, .int .i64 0] 33) = W0 := ⟨_, rfl⟩
  obtain ⟨b1, b2, b3, b4⟩ := two_boxT w 33 33 #[.int .i64 p1, .slice a p2.length c, .int .i64 p3, .int .i64 q1, .slice b q2.length d, .int .i64 q3] #[.int .i64 0, .slice none 0 0, .int .i64 0, .int .i64 0, .slice none 0 0, .int .i64 0]
  have oA := (ho.alloc (.cells #[.int .i64 p1, .slice a p2.length c, .int .i64 p3, .int .i64 q1, .slice b q2.length d, .int .i64 q3] 33)).alloc (.cells #[.int .i64 0, .slice none 0 0, .int .i64 0, .int .i64 0, .slice none 0 0, .int .i64 0] 33)
  have oB := (hp.alloc (.cells #[.int .i64 p1, .slice a p2.length c, .int .i64 p3, .int .i64 q1, .slice b q2.length d, .int .i64 q3] 33)).alloc (.cells #[.int .i64 0, .slice none 0 0, .int .i64 0, .int .i64 0, .slice none 0 0, .int .i64 0] 33)
  rw [hW0] at b1 b2 b3 b4 oA oB
  have HW0 := Lib.hid hW0
  have P3 := Lib.hid b3
  have P4 := Lib.hid b4
  have OA := Lib.hid oA
  have OB := Lib.hid oB
  have B1 := Lib.hid b1
  have B2 := Lib.hid b2
  have hT : Below W0.heap.size W0 W0 := Below.refl _ _
  have HV := Lib.hid ((iValidE p1 a p2 c p3 q1 b q2 d q3 W0 W0.heap.size (Nat.le_refl _) hl hl' oA.ints oB.ints))
  obtain ⟨k1, k2, k3, k4, k5, k6⟩ := b1.six
  have HC := Lib.hid hc
  have HD := Lib.hid hd
  have HAP := Lib.hid hap
  by_cases hv : dyB p1 p2 p3 = true ∧ dyB q1 q2 q3 = true
  · rw [fitE_yes hv.1 hv.2]
    rw [hv.1, hv.2] at HV
    clear b1 b2 b3 b4 oA oB hW0 ho hp hl hl' hc hd hap hv
    go_enter Tryz.func70, Tryz.ntmps70
    go_wp2_with fail
    rw [HW0.out]
    refine HV.out.mono ?_
    rintro e w1 ⟨rfl, hb⟩
    have hbx := B2.out.below hb
    clear k1 k2 k3 k4 k5 k6
    obtain ⟨k1, k2, k3, k4, k5, k6⟩ := (B1.out.below hb).six
    obtain ⟨q1', q2', q3', q4', q5', q6', q7', q8', q9', q10', q11', q12'⟩ := hbx.six12
    have HO1 := Lib.hid (OA.out.below hb)
    have HO2 := Lib.hid (OB.out.below hb)
    have HBX := Lib.hid hbx
    clear hbx
    go_wp2_with fail
    refine bodyPost_ret (v := .tuple #[.agg #[.int .i64 p1, .slice a p2.length c, .int .i64 p3, .int .i64 q1, .slice b q2.length d, .int .i64 q3], .int .i64 0]) (by simp [results, Tryz.results70, go_sem, *]) rfl ?_
    exact retEC_end (g := w.heap.size + 1) (r := ⟨p1, p2, p3, q1, q2, q3, 0⟩) P3.out P4.out hb (by omega) _ _ _ _ _ _ ⟨_, HBX.out⟩ HO1.out HO2.out HC.out HD.out HAP.out
  · rw [fitE_no hv]
    rw [both_no hv] at HV
    clear b1 b2 b3 b4 oA oB hW0 ho hp hl hl' hc hd hap hv
    go_enter Tryz.func70, Tryz.ntmps70
    go_wp2_with fail
    rw [HW0.out]
    refine HV.out.mono ?_
    rintro e w1 ⟨rfl, hb⟩
    have hbx := B2.out.below hb
    clear k1 k2 k3 k4 k5 k6
    obtain ⟨q1', q2', q3', q4', q5', q6', q7', q8', q9', q10', q11', q12'⟩ := hbx.six12
    clear hbx
    go_wp2_with fail
    refine bodyPost_ret (v := .tuple #[.agg #[.int .i64 0, .slice none 0 0, .int .i64 0, .int .i64 0, .slice none 0 0, .int .i64 0], .int .i64 3]) (by simp [results, Tryz.results70, go_sem, *]) rfl ?_
    exact retEC_zero (g := w.heap.size + 1) 3 P3.out P4.out hb (by omega) _ _ _ _ _ _

set_option maxRecDepth 100000 in
set_option maxHeartbeats 4000000 in
theorem sFitE (p1 : Int) (p2 : List Int) (p3 q1 : Int) (q2 : List Int) (q3 : Int) (a b : Option Addr) (c d : Nat) (w : World) (lo : Nat) (hl : p2.length ≤ 9223372036854775807) (hl' : q2.length ≤ 9223372036854775807) (hc : p2.length ≤ c) (hd : q2.length ≤ d) (ho : Own w lo a p2) (hp : Own w lo b q2) (hap : Apart a b p2 q2) :
    Calls Tryz.prog 79 #[.agg #[.int .i64 p1, .slice a p2.length c, .int .i64 p3, .int .i64 q1, .slice b q2.length d, .int .i64 q3]] w (RetEP (fitE (p1, p2, p3) (q1, q2, q3)) lo w) := by
  obtain ⟨W0, hW0⟩ : ∃ W0 : World, (w.alloc (.cells #[.int .i64 p1, .slice a p2.length c, .int .i64 p3, .int .i64 q1, .slice b q2.length d, .int .i64 q3] 33)).alloc (.cells #[.int .i64 0, .slice none 0 0, .int .i64 0, .int .i64 0, .slice none 0 0, .int .i64 0] 33) = W0 := ⟨_, rfl⟩
  obtain ⟨b1, b2, b3, b4⟩ := two_boxT w 33 33 #[.int .i64 p1, .slice a p2.length c, .int .i64 p3, .int .i64 q1, .slice b q2.length d, .int .i64 q3] #[.int .i64 0, .slice none 0 0, .int .i64 0, .int .i64 0, .slice none 0 0, .int .i64 0]
  have oA := (ho.alloc (.cells #[.int .i64 p1, .slice a p2.length c, .int .i64 p3, .int .i64 q1, .slice b q2.length d, .int .i64 q3] 33)).alloc (.cells #[.int .i64 0, .slice none 0 0, .int .i64 0, .int .i64 0, .slice none 0 0, .int .i64 0] 33)
  have oB := (hp.alloc (.cells #[.int .i64 p1, .slice a p2.length c, .int .i64 p3, .int .i64 q1, .slice b q2.length d, .int .i64 q3] 33)).alloc (.cells #[.int .i64 0, .slice none 0 0, .int .i64 0, .int .i64 0, .slice none 0 0, .int .i64 0] 33)
  rw [hW0] at b1 b2 b3 b4 oA oB
  have HW0 := Lib.hid hW0
  have P3 := Lib.hid b3
  have P4 := Lib.hid b4
  have OA := Lib.hid oA
  have OB := Lib.hid oB
  have B1 := Lib.hid b1
  have B2 := Lib.hid b2
  have hT : Below W0.heap.size W0 W0 := Below.refl _ _
  have HV := Lib.hid ((sPairE p1 a p2 c p3 q1 b q2 d q3 W0 W0.heap.size (Nat.le_refl _) hl hl' oA.ints oB.ints))
  obtain ⟨k1, k2, k3, k4, k5, k6⟩ := b1.six
  have HC := Lib.hid hc
  have HD := Lib.hid hd
  have HAP := Lib.hid hap
  by_cases hv : dyB p1 p2 p3 = true ∧ dyB q1 q2 q3 = true
  · rw [fitE_yes hv.1 hv.2]
    rw [hv.1, hv.2] at HV
    clear b1 b2 b3 b4 oA oB hW0 ho hp hl hl' hc hd hap hv
    go_enter Tryz.func79, Tryz.ntmps79
    go_wp2_with fail
    rw [HW0.out]
    refine HV.out.mono ?_
    rintro e w1 ⟨rfl, hb⟩
    have hbx := B2.out.below hb
    clear k1 k2 k3 k4 k5 k6
    obtain ⟨k1, k2, k3, k4, k5, k6⟩ := (B1.out.below hb).six
    obtain ⟨q1', q2', q3', q4', q5', q6', q7', q8', q9', q10', q11', q12'⟩ := hbx.six12
    have HO1 := Lib.hid (OA.out.below hb)
    have HO2 := Lib.hid (OB.out.below hb)
    have HBX := Lib.hid hbx
    clear hbx
    go_wp2_with fail
    refine bodyPost_ret (v := .tuple #[.agg #[.int .i64 p1, .slice a p2.length c, .int .i64 p3, .int .i64 q1, .slice b q2.length d, .int .i64 q3], .int .i64 0]) (by simp [results, Tryz.results79, go_sem, *]) rfl ?_
    exact retEC_end (g := w.heap.size + 1) (r := ⟨p1, p2, p3, q1, q2, q3, 0⟩) P3.out P4.out hb (by omega) _ _ _ _ _ _ ⟨_, HBX.out⟩ HO1.out HO2.out HC.out HD.out HAP.out
  · rw [fitE_no hv]
    rw [both_no hv] at HV
    clear b1 b2 b3 b4 oA oB hW0 ho hp hl hl' hc hd hap hv
    go_enter Tryz.func79, Tryz.ntmps79
    go_wp2_with fail
    rw [HW0.out]
    refine HV.out.mono ?_
    rintro e w1 ⟨rfl, hb⟩
    have hbx := B2.out.below hb
    clear k1 k2 k3 k4 k5 k6
    obtain ⟨q1', q2', q3', q4', q5', q6', q7', q8', q9', q10', q11', q12'⟩ := hbx.six12
    clear hbx
    go_wp2_with fail
    refine bodyPost_ret (v := .tuple #[.agg #[.int .i64 0, .slice none 0 0, .int .i64 0, .int .i64 0, .slice none 0 0, .int .i64 0], .int .i64 3]) (by simp [results, Tryz.results79, go_sem, *]) rfl ?_
    exact retEC_zero (g := w.heap.size + 1) 3 P3.out P4.out hb (by omega) _ _ _ _ _ _

/-- What a function of two exact complex numbers answers that both are tested first. -/
noncomputable def exY (f : Int → Int → Int → Int → Int → Int → Int → Int → ExR) (s : Int) (xs : List Int) (x : Int) (s' : Int) (xs' : List Int) (x' : Int) (t : Int) (ys : List Int) (y : Int) (t' : Int) (ys' : List Int) (y' : Int) : ExR :=
  @ite _ ((dyB s xs x && dyB s' xs' x') = true ∧ (dyB t ys y && dyB t' ys' y') = true) (Classical.propDecidable _) (f (zv (s, xs, x)) x (zv (s', xs', x')) x' (zv (t, ys, y)) y (zv (t', ys', y')) y') (exZ 1)
theorem exY_yes {f : Int → Int → Int → Int → Int → Int → Int → Int → ExR} {s : Int} {xs : List Int} {x : Int} {s' : Int} {xs' : List Int} {x' : Int} {t : Int} {ys : List Int} {y : Int} {t' : Int} {ys' : List Int} {y' : Int} (h1 : (dyB s xs x && dyB s' xs' x') = true) (h2 : (dyB t ys y && dyB t' ys' y') = true) :
    exY f s xs x s' xs' x' t ys y t' ys' y' = f (zv (s, xs, x)) x (zv (s', xs', x')) x' (zv (t, ys, y)) y (zv (t', ys', y')) y' := by unfold exY; rw [if_pos ⟨h1, h2⟩]
theorem exY_no {f : Int → Int → Int → Int → Int → Int → Int → Int → ExR} {s : Int} {xs : List Int} {x : Int} {s' : Int} {xs' : List Int} {x' : Int} {t : Int} {ys : List Int} {y : Int} {t' : Int} {ys' : List Int} {y' : Int} (h : ¬ ((dyB s xs x && dyB s' xs' x') = true ∧ (dyB t ys y && dyB t' ys' y') = true)) :
    exY f s xs x s' xs' x' t ys y t' ys' y' = exZ 1 := by unfold exY; rw [if_neg h]
noncomputable def adF (z x z' x' u y u' y' : Int) : ExR := fitE (addW z x u y) (addW z' x' u' y')
theorem both_yes {a b : Bool} (h : (a && b) = true) : a = true ∧ b = true := by cases a <;> cases b <;> simp_all
theorem RetEP.alloc {r : ExR} {lo : Nat} {w W : World} {e : Ending} (h : RetEP r lo w e W) (o : Obj) : RetEP r lo w e (W.alloc o) := by
  obtain ⟨a, c, b, d, he, hc, hd, ho, hp, hap, hb⟩ := h
  exact ⟨a, c, b, d, he, hc, hd, ho.alloc o, hp.alloc o, hap, hb.alloc hb.size o⟩
theorem far6 {w : World} {g g' : Nat} {t : TypeId} {cs : Array Value} (h : BoxAt w g t cs) (hne : g ≠ g') (u0 u1 u2 u3 u4 u5 : Value) :
    BoxAt ((((((w.setCell ⟨g', 0, none⟩ u0).setCell ⟨g', 1, none⟩ u1).setCell ⟨g', 2, none⟩ u2).setCell ⟨g', 3, none⟩ u3).setCell ⟨g', 4, none⟩ u4).setCell ⟨g', 5, none⟩ u5) g t cs :=
  (((((h.far (p := ⟨g', 0, none⟩) hne u0).far (p := ⟨g', 1, none⟩) hne u1).far (p := ⟨g', 2, none⟩) hne u2).far (p := ⟨g', 3, none⟩) hne u3).far (p := ⟨g', 4, none⟩) hne u4).far (p := ⟨g', 5, none⟩) hne u5

set_option maxRecDepth 100000 in
set_option maxHeartbeats 8000000 in
theorem iAddExacts (s : Int) (a : Option Addr) (xs : List Int) (c : Nat) (x : Int) (s' : Int) (a' : Option Addr) (xs' : List Int) (c' : Nat) (x' : Int) (t : Int) (b : Option Addr) (ys : List Int) (d : Nat) (y : Int) (t' : Int) (b' : Option Addr) (ys' : List Int) (d' : Nat) (y' : Int) (w : World) (B : Nat) (hB : B ≤ w.heap.size) (hx : Ints w B a xs) (hx' : Ints w B a' xs') (hy : Ints w B b ys) (hy' : Ints w B b' ys') (hl : xs.length ≤ 9223372036854775807) (hl' : xs'.length ≤ 9223372036854775807) (hk : ys.length ≤ 9223372036854775807) (hk' : ys'.length ≤ 9223372036854775807) (hTab : Tab w) :
    Calls Tryz.prog 11 #[.agg #[.int .i64 s, .slice a xs.length c, .int .i64 x, .int .i64 s', .slice a' xs'.length c', .int .i64 x'], .agg #[.int .i64 t, .slice b ys.length d, .int .i64 y, .int .i64 t', .slice b' ys'.length d', .int .i64 y']] w (RetEP (exY adF s xs x s' xs' x' t ys y t' ys' y') w.heap.size w) := by
  obtain ⟨W0, hW0⟩ : ∃ W0 : World, ((w.alloc (.cells #[.int .i64 s, .slice a xs.length c, .int .i64 x, .int .i64 s', .slice a' xs'.length c', .int .i64 x'] 33)).alloc (.cells #[.int .i64 t, .slice b ys.length d, .int .i64 y, .int .i64 t', .slice b' ys'.length d', .int .i64 y'] 33)).alloc (.cells #[.int .i64 0, .slice none 0 0, .int .i64 0, .int .i64 0, .slice none 0 0, .int .i64 0] 33) = W0 := ⟨_, rfl⟩
  obtain ⟨p1, p2, p5, p3, p4⟩ := three_boxT w 33 33 33 #[.int .i64 s, .slice a xs.length c, .int .i64 x, .int .i64 s', .slice a' xs'.length c', .int .i64 x'] #[.int .i64 t, .slice b ys.length d, .int .i64 y, .int .i64 t', .slice b' ys'.length d', .int .i64 y'] #[.int .i64 0, .slice none 0 0, .int .i64 0, .int .i64 0, .slice none 0 0, .int .i64 0]
  rw [hW0] at p1 p2 p3 p4 p5
  have HW0 := Lib.hid hW0
  have P3 := Lib.hid p3
  have P4 := Lib.hid p4
  have HTB := Lib.hid (show ∀ W, Below W0.heap.size W0 W → Tab W from fun W hW => (hTab.below p3).below hW)
  clear hTab
  have SS := Lib.hid (show ∀ W, Below W0.heap.size W0 W → (W.cell? ⟨w.heap.size, 0, none⟩ = some (.int .i64 s) ∧ W.cell? ⟨w.heap.size, 1, none⟩ = some (.slice a xs.length c) ∧ W.cell? ⟨w.heap.size, 2, none⟩ = some (.int .i64 x) ∧ W.cell? ⟨w.heap.size, 3, none⟩ = some (.int .i64 s') ∧ W.cell? ⟨w.heap.size, 4, none⟩ = some (.slice a' xs'.length c') ∧ W.cell? ⟨w.heap.size, 5, none⟩ = some (.int .i64 x') ∧ W.cell? ⟨w.heap.size + 1, 0, none⟩ = some (.int .i64 t) ∧ W.cell? ⟨w.heap.size + 1, 1, none⟩ = some (.slice b ys.length d) ∧ W.cell? ⟨w.heap.size + 1, 2, none⟩ = some (.int .i64 y) ∧ W.cell? ⟨w.heap.size + 1, 3, none⟩ = some (.int .i64 t') ∧ W.cell? ⟨w.heap.size + 1, 4, none⟩ = some (.slice b' ys'.length d') ∧ W.cell? ⟨w.heap.size + 1, 5, none⟩ = some (.int .i64 y')) from fun W hW => ⟨(p1.below hW).cell 0, (p1.below hW).cell 1, (p1.below hW).cell 2, (p1.below hW).cell 3, (p1.below hW).cell 4, (p1.below hW).cell 5, (p2.below hW).cell 0, (p2.below hW).cell 1, (p2.below hW).cell 2, (p2.below hW).cell 3, (p2.below hW).cell 4, (p2.below hW).cell 5⟩)
  have SR := Lib.hid (show ∀ W, Below W0.heap.size W0 W → BoxAt W (w.heap.size + 1 + 1) 33 #[.int .i64 0, .slice none 0 0, .int .i64 0, .int .i64 0, .slice none 0 0, .int .i64 0] from fun W hW => p5.below hW)
  have hT : Below W0.heap.size W0 W0 := Below.refl _ _
  have IX := Lib.hid (show ∀ W, Below W0.heap.size W0 W → Ints W B a xs ∧ Ints W B a' xs' ∧ Ints W B b ys ∧ Ints W B b' ys' ∧ B ≤ W.heap.size from fun W hW => ⟨hx.below ((p3.mono hB).trans (hW.mono (by omega))), hx'.below ((p3.mono hB).trans (hW.mono (by omega))), hy.below ((p3.mono hB).trans (hW.mono (by omega))), hy'.below ((p3.mono hB).trans (hW.mono (by omega))), by have := hW.size; omega⟩)
  have HV1 := Lib.hid (show ∀ W, Below W0.heap.size W0 W → Calls Tryz.prog 69 #[.agg #[.int .i64 s, .slice a xs.length c, .int .i64 x, .int .i64 s', .slice a' xs'.length c', .int .i64 x']] W fun e w' => e = .returned (.bool (dyB s xs x && dyB s' xs' x')) ∧ Below W0.heap.size W0 w' from
    fun W hW => (iValidE s a xs c x s' a' xs' c' x' W B (IX.out W hW).2.2.2.2 hl hl' (IX.out W hW).1 (IX.out W hW).2.1).mono fun e w' ⟨he, hb⟩ => ⟨he, hW.trans (hb.mono hW.size)⟩)
  have HV2 := Lib.hid (show ∀ W, Below W0.heap.size W0 W → Calls Tryz.prog 69 #[.agg #[.int .i64 t, .slice b ys.length d, .int .i64 y, .int .i64 t', .slice b' ys'.length d', .int .i64 y']] W fun e w' => e = .returned (.bool (dyB t ys y && dyB t' ys' y')) ∧ Below W0.heap.size W0 w' from
    fun W hW => (iValidE t b ys d y t' b' ys' d' y' W B (IX.out W hW).2.2.2.2 hk hk' (IX.out W hW).2.2.1 (IX.out W hW).2.2.2.1).mono fun e w' ⟨he, hb⟩ => ⟨he, hW.trans (hb.mono hW.size)⟩)
  obtain ⟨k1, k2, k3, k4, k5, k6, k7, k8, k9, k10, k11, k12⟩ := SS.out _ hT
  cases h1 : dyB s xs x && dyB s' xs' x'
  · rw [exY_no (fun h => by rw [h.1] at h1; cases h1)]
    rw [h1] at HV1
    clear p1 p2 p3 p4 p5 hx hx' hy hy' hW0 hB hl hl' hk hk' IX h1
    go_enter Tryz.func11, Tryz.ntmps11
    go_wp2_with fail
    rw [HW0.out]
    refine (HV1.out _ hT).mono ?_
    rintro e w1 ⟨rfl, hb⟩
    clear k1 k2 k3 k4 k5 k6 k7 k8 k9 k10 k11 k12
    obtain ⟨k1, k2, k3, k4, k5, k6, k7, k8, k9, k10, k11, k12⟩ := SS.out _ hb
    obtain ⟨q1', q2', q3', q4', q5', q6', q7', q8', q9', q10', q11', q12'⟩ := (SR.out _ hb).six12
    clear k1 k2 k3 k4 k5 k6 k7 k8 k9 k10 k11 k12
    go_wp2_with fail
    refine bodyPost_ret (v := .tuple #[.agg #[.int .i64 0, .slice none 0 0, .int .i64 0, .int .i64 0, .slice none 0 0, .int .i64 0], .int .i64 1]) (by simp [results, Tryz.results11, go_sem, *]) rfl ?_
    exact retEC_zero (g := w.heap.size + 1 + 1) 1 P3.out P4.out hb (by omega) _ _ _ _ _ _
  · cases h2 : dyB t ys y && dyB t' ys' y'
    · rw [exY_no (fun h => by rw [h.2] at h2; cases h2)]
      rw [h1] at HV1
      rw [h2] at HV2
      clear p1 p2 p3 p4 p5 hx hx' hy hy' hW0 hB hl hl' hk hk' IX h1 h2
      go_enter Tryz.func11, Tryz.ntmps11
      go_wp2_with fail
      rw [HW0.out]
      refine (HV1.out _ hT).mono ?_
      rintro e w1 ⟨rfl, hb⟩
      clear k1 k2 k3 k4 k5 k6 k7 k8 k9 k10 k11 k12
      obtain ⟨k1, k2, k3, k4, k5, k6, k7, k8, k9, k10, k11, k12⟩ := SS.out _ hb
      go_wp2_with fail
      refine (HV2.out _ hb).mono ?_
      rintro e w2 ⟨rfl, hb2⟩
      clear k1 k2 k3 k4 k5 k6 k7 k8 k9 k10 k11 k12
      obtain ⟨k1, k2, k3, k4, k5, k6, k7, k8, k9, k10, k11, k12⟩ := SS.out _ hb2
      obtain ⟨q1', q2', q3', q4', q5', q6', q7', q8', q9', q10', q11', q12'⟩ := (SR.out _ hb2).six12
      clear k1 k2 k3 k4 k5 k6 k7 k8 k9 k10 k11 k12
      go_wp2_with fail
      refine bodyPost_ret (v := .tuple #[.agg #[.int .i64 0, .slice none 0 0, .int .i64 0, .int .i64 0, .slice none 0 0, .int .i64 0], .int .i64 1]) (by simp [results, Tryz.results11, go_sem, *]) rfl ?_
      exact retEC_zero (g := w.heap.size + 1 + 1) 1 P3.out P4.out hb2 (by omega) _ _ _ _ _ _
    · rw [exY_yes h1 h2]
      obtain ⟨g1, g2⟩ := both_yes h1
      obtain ⟨g3, g4⟩ := both_yes h2
      obtain ⟨m, rfl, hm, sm, e1, e2⟩ := isDy_of (dyB_iff.1 g1)
      obtain ⟨m', rfl, hm', sm', e3, e4⟩ := isDy_of (dyB_iff.1 g2)
      obtain ⟨n, rfl, hn, sn, e5, e6⟩ := isDy_of (dyB_iff.1 g3)
      obtain ⟨n', rfl, hn', sn', e7, e8⟩ := isDy_of (dyB_iff.1 g4)
      rw [h1] at HV1
      rw [h2] at HV2
      rw [zv_lim, zv_lim, zv_lim, zv_lim, adF]
      obtain ⟨p1', pn, p3', hP, sp, lp⟩ := addW_form (x := x) (y := y) sm sn (show (lim m).length ≤ 400 by omega) (show (lim n).length ≤ 400 by omega) e1 e2 e5 e6
      obtain ⟨q1', qn, q3', hQ, sq, lq⟩ := addW_form (x := x') (y := y') sm' sn' (show (lim m').length ≤ 400 by omega) (show (lim n').length ≤ 400 by omega) e3 e4 e7 e8
      have HA1 := Lib.hid (show ∀ W, Below W0.heap.size W0 W → Calls Tryz.prog 71 #[.agg #[.int .i64 s, .slice a (lim m).length c, .int .i64 x], .agg #[.int .i64 t, .slice b (lim n).length d, .int .i64 y]] W fun e w' => ∃ a c, e = .returned (.agg #[.int .i64 p1', .slice a (lim pn).length c, .int .i64 p3']) ∧ (lim pn).length ≤ c ∧ Own w' W0.heap.size a (lim pn) ∧ Own w' W.heap.size a (lim pn) ∧ Below W.heap.size W w' ∧ Below W0.heap.size W0 w' from
        fun W hW => by
          have := iPlusD s a m c x t b n d y W B B (IX.out W hW).2.2.2.2 (IX.out W hW).2.2.2.2 (IX.out W hW).1 (IX.out W hW).2.2.1 sm sn (by omega) (by omega) (by omega) (by omega) (by omega) (by omega) (HTB.out W hW)
          rw [hP] at this
          exact this.mono fun e w' ⟨a, c, he, hc, ho, hb⟩ => ⟨a, c, he, hc, ho.mono hW.size, ho, hb, hW.trans (hb.mono hW.size)⟩)
      have HA2 := Lib.hid (show ∀ W, Below W0.heap.size W0 W → Calls Tryz.prog 71 #[.agg #[.int .i64 s', .slice a' (lim m').length c', .int .i64 x'], .agg #[.int .i64 t', .slice b' (lim n').length d', .int .i64 y']] W fun e w' => ∃ a c, e = .returned (.agg #[.int .i64 q1', .slice a (lim qn).length c, .int .i64 q3']) ∧ (lim qn).length ≤ c ∧ Own w' W0.heap.size a (lim qn) ∧ Own w' W.heap.size a (lim qn) ∧ Below W.heap.size W w' ∧ Below W0.heap.size W0 w' from
        fun W hW => by
          have := iPlusD s' a' m' c' x' t' b' n' d' y' W B B (IX.out W hW).2.2.2.2 (IX.out W hW).2.2.2.2 (IX.out W hW).2.1 (IX.out W hW).2.2.2.1 sm' sn' (by omega) (by omega) (by omega) (by omega) (by omega) (by omega) (HTB.out W hW)
          rw [hQ] at this
          exact this.mono fun e w' ⟨a, c, he, hc, ho, hb⟩ => ⟨a, c, he, hc, ho.mono hW.size, ho, hb, hW.trans (hb.mono hW.size)⟩)
      rw [hP, hQ]
      obtain ⟨⟨r1, r2, r3, r4, r5, r6, rc⟩, hr⟩ : ∃ r : ExR, r = fitE (p1', lim pn, p3') (q1', lim qn, q3') := ⟨_, rfl⟩
      have HLE := Lib.hid (show ∀ (a : Option Addr) (c : Nat) (b : Option Addr) (d : Nat) W, Below W0.heap.size W0 W → (lim pn).length ≤ c → (lim qn).length ≤ d → Own W W0.heap.size a (lim pn) → Own W W0.heap.size b (lim qn) → Apart a b (lim pn) (lim qn) → Calls Tryz.prog 70 #[.agg #[.int .i64 p1', .slice a (lim pn).length c, .int .i64 p3', .int .i64 q1', .slice b (lim qn).length d, .int .i64 q3']] W fun e w' => ∃ a c b d, e = .returned (.tuple #[.agg #[.int .i64 r1, .slice a r2.length c, .int .i64 r3, .int .i64 r4, .slice b r5.length d, .int .i64 r6], .int .i64 rc]) ∧ r2.length ≤ c ∧ r5.length ≤ d ∧ Own w' W0.heap.size a r2 ∧ Own w' W0.heap.size b r5 ∧ Apart a b r2 r5 ∧ Below W0.heap.size W0 w' from
        fun a c b d W hW hc hd ho hp hap => by
          have := iLimitE p1' (lim pn) p3' q1' (lim qn) q3' a b c d W W0.heap.size (by omega) (by omega) hc hd ho hp hap
          rw [← hr] at this
          exact this.mono fun e w' ⟨a, c, b, d, he, hc, hd, ho, hp, hap, hb⟩ => ⟨a, c, b, d, he, hc, hd, ho, hp, hap, hW.trans (hb.mono hW.size)⟩)
      rw [← hr]
      have ST := Lib.hid (show ∀ W u0 u1 u2 u3 u4 u5, Below W0.heap.size W0 W → (fun W : World => W.cell? ⟨w.heap.size, 0, none⟩ = some (.int .i64 s) ∧ W.cell? ⟨w.heap.size, 1, none⟩ = some (.slice a (lim m).length c) ∧ W.cell? ⟨w.heap.size, 2, none⟩ = some (.int .i64 x) ∧ W.cell? ⟨w.heap.size, 3, none⟩ = some (.int .i64 s') ∧ W.cell? ⟨w.heap.size, 4, none⟩ = some (.slice a' (lim m').length c') ∧ W.cell? ⟨w.heap.size, 5, none⟩ = some (.int .i64 x') ∧ W.cell? ⟨w.heap.size + 1, 0, none⟩ = some (.int .i64 t) ∧ W.cell? ⟨w.heap.size + 1, 1, none⟩ = some (.slice b (lim n).length d) ∧ W.cell? ⟨w.heap.size + 1, 2, none⟩ = some (.int .i64 y) ∧ W.cell? ⟨w.heap.size + 1, 3, none⟩ = some (.int .i64 t') ∧ W.cell? ⟨w.heap.size + 1, 4, none⟩ = some (.slice b' (lim n').length d') ∧ W.cell? ⟨w.heap.size + 1, 5, none⟩ = some (.int .i64 y')) ((((((W.setCell ⟨w.heap.size + 1 + 1, 0, none⟩ u0).setCell ⟨w.heap.size + 1 + 1, 1, none⟩ u1).setCell ⟨w.heap.size + 1 + 1, 2, none⟩ u2).setCell ⟨w.heap.size + 1 + 1, 3, none⟩ u3).setCell ⟨w.heap.size + 1 + 1, 4, none⟩ u4).setCell ⟨w.heap.size + 1 + 1, 5, none⟩ u5) from fun W u0 u1 u2 u3 u4 u5 hW => by
        have a1 := far6 (p1.below hW) (show w.heap.size ≠ w.heap.size + 1 + 1 by omega) u0 u1 u2 u3 u4 u5
        have a2 := far6 (p2.below hW) (show w.heap.size + 1 ≠ w.heap.size + 1 + 1 by omega) u0 u1 u2 u3 u4 u5
        exact ⟨a1.cell 0, a1.cell 1, a1.cell 2, a1.cell 3, a1.cell 4, a1.cell 5, a2.cell 0, a2.cell 1, a2.cell 2, a2.cell 3, a2.cell 4, a2.cell 5⟩)
      clear p1 p2 p3 p4 p5 hx hx' hy hy' hW0 hB hl hl' hk hk' IX g1 g2 g3 g4 h1 h2 hm hm' hn hn' sm sm' sn sn' e1 e2 e3 e4 e5 e6 e7 e8 hP hQ sp sq lp lq hr
      go_enter Tryz.func11, Tryz.ntmps11
      go_wp2_with fail
      rw [HW0.out]
      refine (HV1.out _ hT).mono ?_
      rintro e w1 ⟨rfl, hb⟩
      clear k1 k2 k3 k4 k5 k6 k7 k8 k9 k10 k11 k12
      obtain ⟨k1, k2, k3, k4, k5, k6, k7, k8, k9, k10, k11, k12⟩ := SS.out _ hb
      go_wp2_with fail
      refine (HV2.out _ hb).mono ?_
      rintro e w2 ⟨rfl, hb2⟩
      clear k1 k2 k3 k4 k5 k6 k7 k8 k9 k10 k11 k12
      obtain ⟨k1, k2, k3, k4, k5, k6, k7, k8, k9, k10, k11, k12⟩ := SS.out _ hb2
      have hbd := hb2.drew
      go_wp2_with fail
      go_region_held3 (fun W => W.cell? ⟨w.heap.size, 0, none⟩ = some (.int .i64 s) ∧ W.cell? ⟨w.heap.size, 1, none⟩ = some (.slice a (lim m).length c) ∧ W.cell? ⟨w.heap.size, 2, none⟩ = some (.int .i64 x) ∧ W.cell? ⟨w.heap.size, 3, none⟩ = some (.int .i64 s') ∧ W.cell? ⟨w.heap.size, 4, none⟩ = some (.slice a' (lim m').length c') ∧ W.cell? ⟨w.heap.size, 5, none⟩ = some (.int .i64 x') ∧ W.cell? ⟨w.heap.size + 1, 0, none⟩ = some (.int .i64 t) ∧ W.cell? ⟨w.heap.size + 1, 1, none⟩ = some (.slice b (lim n).length d) ∧ W.cell? ⟨w.heap.size + 1, 2, none⟩ = some (.int .i64 y) ∧ W.cell? ⟨w.heap.size + 1, 3, none⟩ = some (.int .i64 t') ∧ W.cell? ⟨w.heap.size + 1, 4, none⟩ = some (.slice b' (lim n').length d') ∧ W.cell? ⟨w.heap.size + 1, 5, none⟩ = some (.int .i64 y'))
        (with_reducible first | exact SS.out _ (by assumption) | exact ST.out _ _ _ _ _ _ _ (by assumption))
        (first
        | (go_at_call 71; with_reducible refine (HA1.out _ (by assumption)).mono ?_; rintro e v1 ⟨y1, f1, rfl, hc1, ho1, ho1', hbb1, hb1⟩)
        | (go_at_call 71; with_reducible refine (HA2.out _ (by assumption)).mono ?_; rintro e v2 ⟨y2, f2, rfl, hc2, ho2, ho2', hbb2, hb2'⟩; have hap := apart_of ho1 ho2'; have ho12 := Own.below ho1 hbb2)
        | (go_at_call 70; with_reducible refine (HLE.out _ _ _ _ _ (by assumption) hc1 hc2 ho12 ho2 hap).mono ?_; rintro e v3 ⟨y3, f3, y4, f4, rfl, hc3, hc4, ho3, ho4, hap3, hb3⟩; obtain ⟨z1, z2, z3, z4, z5, z6, z7, z8, z9, z10, z11, z12⟩ := (SR.out _ hb3).six12))
      all_goals
        have HBX := Lib.hid (SR.out _ hb3)
        go_wp2_with fail
        refine bodyPost_ret (v := .tuple #[.agg #[.int .i64 r1, .slice y3 r2.length f3, .int .i64 r3, .int .i64 r4, .slice y4 r5.length f4, .int .i64 r6], .int .i64 rc]) (by simp [results, Tryz.results11, go_sem, *]) rfl ?_
        exact retEC_end (g := w.heap.size + 1 + 1) (r := ⟨r1, r2, r3, r4, r5, r6, rc⟩) P3.out P4.out hb3 (by omega) _ _ _ _ _ _ ⟨_, HBX.out⟩ (ho3.mono (by have := P4.out; omega)) (ho4.mono (by have := P4.out; omega)) hc3 hc4 hap3

/-- The call returned an exact complex number in memory of its own. -/
def RetEE (p1 : Int) (p2 : List Int) (p3 q1 : Int) (q2 : List Int) (q3 : Int) (w : World) (e : Ending) (w' : World) : Prop := ∃ a c b d, e = .returned (.agg #[.int .i64 p1, .slice a p2.length c, .int .i64 p3, .int .i64 q1, .slice b q2.length d, .int .i64 q3]) ∧ p2.length ≤ c ∧ q2.length ≤ d ∧ Own w' w.heap.size a p2 ∧ Own w' w.heap.size b q2 ∧ Apart a b p2 q2 ∧ Below w.heap.size w w'
noncomputable def muG (P Q U V : Int × List Int × Int) : ExR :=
  @ite _ ((dyB P.1 P.2.1 P.2.2 && dyB Q.1 Q.2.1 Q.2.2) = true ∧ (dyB U.1 U.2.1 U.2.2 && dyB V.1 V.2.1 V.2.2) = true) (Classical.propDecidable _) (fitE (addW (zv P) P.2.2 (-(zv Q)) Q.2.2) (addW (zv U) U.2.2 (zv V) V.2.2)) (exZ 3)
noncomputable def muF (z x z' x' u y u' y' : Int) : ExR := muG (mulW z x u y) (mulW z' x' u' y') (mulW z x u' y') (mulW z' x' u y)
theorem muG_yes {P Q U V : Int × List Int × Int} (h1 : (dyB P.1 P.2.1 P.2.2 && dyB Q.1 Q.2.1 Q.2.2) = true) (h2 : (dyB U.1 U.2.1 U.2.2 && dyB V.1 V.2.1 V.2.2) = true) : muG P Q U V = fitE (addW (zv P) P.2.2 (-(zv Q)) Q.2.2) (addW (zv U) U.2.2 (zv V) V.2.2) := by unfold muG; rw [if_pos ⟨h1, h2⟩]
theorem muG_no {P Q U V : Int × List Int × Int} (h : ¬ ((dyB P.1 P.2.1 P.2.2 && dyB Q.1 Q.2.1 Q.2.2) = true ∧ (dyB U.1 U.2.1 U.2.2 && dyB V.1 V.2.1 V.2.2) = true)) : muG P Q U V = exZ 3 := by unfold muG; rw [if_neg h]
theorem Sg.opp {s : Int} {n : Nat} (h : Sg s n) : Sg (-s) n := by unfold Sg at *; omega
theorem subW_form {s x t y : Int} {m n : Nat} (hs : Sg s m) (ht : Sg t n) (hm : (lim m).length ≤ 400) (hn : (lim n).length ≤ 400) (x1 : -5000 ≤ x) (x2 : x ≤ 5000) (y1 : -5000 ≤ y) (y2 : y ≤ 5000) : ∃ r k z, addW (s * (m : Int)) x (-(t * (n : Int))) y = (r, lim k, z) ∧ Sg r k ∧ (lim k).length ≤ 4000 := by
  have := addW_form (x := x) (y := y) hs ht.opp hm hn x1 x2 y1 y2
  rwa [Int.neg_mul] at this

set_option maxRecDepth 100000 in
set_option maxHeartbeats 8000000 in
theorem iMultiplyExacts (s : Int) (a : Option Addr) (xs : List Int) (c : Nat) (x : Int) (s' : Int) (a' : Option Addr) (xs' : List Int) (c' : Nat) (x' : Int) (t : Int) (b : Option Addr) (ys : List Int) (d : Nat) (y : Int) (t' : Int) (b' : Option Addr) (ys' : List Int) (d' : Nat) (y' : Int) (w : World) (B : Nat) (hB : B ≤ w.heap.size) (hx : Ints w B a xs) (hx' : Ints w B a' xs') (hy : Ints w B b ys) (hy' : Ints w B b' ys') (hl : xs.length ≤ 9223372036854775807) (hl' : xs'.length ≤ 9223372036854775807) (hk : ys.length ≤ 9223372036854775807) (hk' : ys'.length ≤ 9223372036854775807) (hTab : Tab w) :
    Calls Tryz.prog 14 #[.agg #[.int .i64 s, .slice a xs.length c, .int .i64 x, .int .i64 s', .slice a' xs'.length c', .int .i64 x'], .agg #[.int .i64 t, .slice b ys.length d, .int .i64 y, .int .i64 t', .slice b' ys'.length d', .int .i64 y']] w (RetEP (exY muF s xs x s' xs' x' t ys y t' ys' y') w.heap.size w) := by
  obtain ⟨W0, hW0⟩ : ∃ W0 : World, ((w.alloc (.cells #[.int .i64 s, .slice a xs.length c, .int .i64 x, .int .i64 s', .slice a' xs'.length c', .int .i64 x'] 33)).alloc (.cells #[.int .i64 t, .slice b ys.length d, .int .i64 y, .int .i64 t', .slice b' ys'.length d', .int .i64 y'] 33)).alloc (.cells #[.int .i64 0, .slice none 0 0, .int .i64 0, .int .i64 0, .slice none 0 0, .int .i64 0] 33) = W0 := ⟨_, rfl⟩
  obtain ⟨p1, p2, p5, p3, p4⟩ := three_boxT w 33 33 33 #[.int .i64 s, .slice a xs.length c, .int .i64 x, .int .i64 s', .slice a' xs'.length c', .int .i64 x'] #[.int .i64 t, .slice b ys.length d, .int .i64 y, .int .i64 t', .slice b' ys'.length d', .int .i64 y'] #[.int .i64 0, .slice none 0 0, .int .i64 0, .int .i64 0, .slice none 0 0, .int .i64 0]
  rw [hW0] at p1 p2 p3 p4 p5
  have HW0 := Lib.hid hW0
  have P3 := Lib.hid p3
  have P4 := Lib.hid p4
  have HTB := Lib.hid (show ∀ W, Below W0.heap.size W0 W → Tab W from fun W hW => (hTab.below p3).below hW)
  clear hTab
  have SS := Lib.hid (show ∀ W, Below W0.heap.size W0 W → (W.cell? ⟨w.heap.size, 0, none⟩ = some (.int .i64 s) ∧ W.cell? ⟨w.heap.size, 1, none⟩ = some (.slice a xs.length c) ∧ W.cell? ⟨w.heap.size, 2, none⟩ = some (.int .i64 x) ∧ W.cell? ⟨w.heap.size, 3, none⟩ = some (.int .i64 s') ∧ W.cell? ⟨w.heap.size, 4, none⟩ = some (.slice a' xs'.length c') ∧ W.cell? ⟨w.heap.size, 5, none⟩ = some (.int .i64 x') ∧ W.cell? ⟨w.heap.size + 1, 0, none⟩ = some (.int .i64 t) ∧ W.cell? ⟨w.heap.size + 1, 1, none⟩ = some (.slice b ys.length d) ∧ W.cell? ⟨w.heap.size + 1, 2, none⟩ = some (.int .i64 y) ∧ W.cell? ⟨w.heap.size + 1, 3, none⟩ = some (.int .i64 t') ∧ W.cell? ⟨w.heap.size + 1, 4, none⟩ = some (.slice b' ys'.length d') ∧ W.cell? ⟨w.heap.size + 1, 5, none⟩ = some (.int .i64 y')) from fun W hW => ⟨(p1.below hW).cell 0, (p1.below hW).cell 1, (p1.below hW).cell 2, (p1.below hW).cell 3, (p1.below hW).cell 4, (p1.below hW).cell 5, (p2.below hW).cell 0, (p2.below hW).cell 1, (p2.below hW).cell 2, (p2.below hW).cell 3, (p2.below hW).cell 4, (p2.below hW).cell 5⟩)
  have SR := Lib.hid (show ∀ W, Below W0.heap.size W0 W → BoxAt W (w.heap.size + 1 + 1) 33 #[.int .i64 0, .slice none 0 0, .int .i64 0, .int .i64 0, .slice none 0 0, .int .i64 0] from fun W hW => p5.below hW)
  have hT : Below W0.heap.size W0 W0 := Below.refl _ _
  have IX := Lib.hid (show ∀ W, Below W0.heap.size W0 W → Ints W B a xs ∧ Ints W B a' xs' ∧ Ints W B b ys ∧ Ints W B b' ys' ∧ B ≤ W.heap.size from fun W hW => ⟨hx.below ((p3.mono hB).trans (hW.mono (by omega))), hx'.below ((p3.mono hB).trans (hW.mono (by omega))), hy.below ((p3.mono hB).trans (hW.mono (by omega))), hy'.below ((p3.mono hB).trans (hW.mono (by omega))), by have := hW.size; omega⟩)
  have HV1 := Lib.hid (show ∀ W, Below W0.heap.size W0 W → Calls Tryz.prog 69 #[.agg #[.int .i64 s, .slice a xs.length c, .int .i64 x, .int .i64 s', .slice a' xs'.length c', .int .i64 x']] W fun e w' => e = .returned (.bool (dyB s xs x && dyB s' xs' x')) ∧ Below W0.heap.size W0 w' from
    fun W hW => (iValidE s a xs c x s' a' xs' c' x' W B (IX.out W hW).2.2.2.2 hl hl' (IX.out W hW).1 (IX.out W hW).2.1).mono fun e w' ⟨he, hb⟩ => ⟨he, hW.trans (hb.mono hW.size)⟩)
  have HV2 := Lib.hid (show ∀ W, Below W0.heap.size W0 W → Calls Tryz.prog 69 #[.agg #[.int .i64 t, .slice b ys.length d, .int .i64 y, .int .i64 t', .slice b' ys'.length d', .int .i64 y']] W fun e w' => e = .returned (.bool (dyB t ys y && dyB t' ys' y')) ∧ Below W0.heap.size W0 w' from
    fun W hW => (iValidE t b ys d y t' b' ys' d' y' W B (IX.out W hW).2.2.2.2 hk hk' (IX.out W hW).2.2.1 (IX.out W hW).2.2.2.1).mono fun e w' ⟨he, hb⟩ => ⟨he, hW.trans (hb.mono hW.size)⟩)
  obtain ⟨k1, k2, k3, k4, k5, k6, k7, k8, k9, k10, k11, k12⟩ := SS.out _ hT
  cases h1 : dyB s xs x && dyB s' xs' x'
  · rw [exY_no (fun h => by rw [h.1] at h1; cases h1)]
    rw [h1] at HV1
    clear p1 p2 p3 p4 p5 hx hx' hy hy' hW0 hB hl hl' hk hk' IX h1
    go_enter Tryz.func14, Tryz.ntmps14
    go_wp2_with fail
    rw [HW0.out]
    refine (HV1.out _ hT).mono ?_
    rintro e w1 ⟨rfl, hb⟩
    clear k1 k2 k3 k4 k5 k6 k7 k8 k9 k10 k11 k12
    obtain ⟨k1, k2, k3, k4, k5, k6, k7, k8, k9, k10, k11, k12⟩ := SS.out _ hb
    obtain ⟨q1', q2', q3', q4', q5', q6', q7', q8', q9', q10', q11', q12'⟩ := (SR.out _ hb).six12
    clear k1 k2 k3 k4 k5 k6 k7 k8 k9 k10 k11 k12
    go_wp2_with fail
    refine bodyPost_ret (v := .tuple #[.agg #[.int .i64 0, .slice none 0 0, .int .i64 0, .int .i64 0, .slice none 0 0, .int .i64 0], .int .i64 1]) (by simp [results, Tryz.results14, go_sem, *]) rfl ?_
    exact retEC_zero (g := w.heap.size + 1 + 1) 1 P3.out P4.out hb (by omega) _ _ _ _ _ _
  · cases h2 : dyB t ys y && dyB t' ys' y'
    · rw [exY_no (fun h => by rw [h.2] at h2; cases h2)]
      rw [h1] at HV1
      rw [h2] at HV2
      clear p1 p2 p3 p4 p5 hx hx' hy hy' hW0 hB hl hl' hk hk' IX h1 h2
      go_enter Tryz.func14, Tryz.ntmps14
      go_wp2_with fail
      rw [HW0.out]
      refine (HV1.out _ hT).mono ?_
      rintro e w1 ⟨rfl, hb⟩
      clear k1 k2 k3 k4 k5 k6 k7 k8 k9 k10 k11 k12
      obtain ⟨k1, k2, k3, k4, k5, k6, k7, k8, k9, k10, k11, k12⟩ := SS.out _ hb
      go_wp2_with fail
      refine (HV2.out _ hb).mono ?_
      rintro e w2 ⟨rfl, hb2⟩
      clear k1 k2 k3 k4 k5 k6 k7 k8 k9 k10 k11 k12
      obtain ⟨k1, k2, k3, k4, k5, k6, k7, k8, k9, k10, k11, k12⟩ := SS.out _ hb2
      obtain ⟨q1', q2', q3', q4', q5', q6', q7', q8', q9', q10', q11', q12'⟩ := (SR.out _ hb2).six12
      clear k1 k2 k3 k4 k5 k6 k7 k8 k9 k10 k11 k12
      go_wp2_with fail
      refine bodyPost_ret (v := .tuple #[.agg #[.int .i64 0, .slice none 0 0, .int .i64 0, .int .i64 0, .slice none 0 0, .int .i64 0], .int .i64 1]) (by simp [results, Tryz.results14, go_sem, *]) rfl ?_
      exact retEC_zero (g := w.heap.size + 1 + 1) 1 P3.out P4.out hb2 (by omega) _ _ _ _ _ _
    · rw [exY_yes h1 h2]
      obtain ⟨g1, g2⟩ := both_yes h1
      obtain ⟨g3, g4⟩ := both_yes h2
      obtain ⟨m, rfl, hm, sm, e1, e2⟩ := isDy_of (dyB_iff.1 g1)
      obtain ⟨m', rfl, hm', sm', e3, e4⟩ := isDy_of (dyB_iff.1 g2)
      obtain ⟨n, rfl, hn, sn, e5, e6⟩ := isDy_of (dyB_iff.1 g3)
      obtain ⟨n', rfl, hn', sn', e7, e8⟩ := isDy_of (dyB_iff.1 g4)
      rw [h1] at HV1
      rw [h2] at HV2
      rw [zv_lim, zv_lim, zv_lim, zv_lim, muF]
      obtain ⟨p1', pn, p3', hP, sp, lp⟩ := mulW_form (x := x) (y := y) sm sn hm hn
      obtain ⟨q1', qn, q3', hQ, sq, lq⟩ := mulW_form (x := x') (y := y') sm' sn' hm' hn'
      obtain ⟨u1', un, u3', hU, su, lu⟩ := mulW_form (x := x) (y := y') sm sn' hm hn'
      obtain ⟨v1', vn, v3', hV, sv, lv⟩ := mulW_form (x := x') (y := y) sm' sn hm' hn
      rw [hP, hQ, hU, hV]
      have HM1 := Lib.hid (show ∀ W, Below W0.heap.size W0 W → Calls Tryz.prog 74 #[.agg #[.int .i64 s, .slice a (lim m).length c, .int .i64 x], .agg #[.int .i64 t, .slice b (lim n).length d, .int .i64 y]] W fun e w' => ∃ a c, e = .returned (.agg #[.int .i64 p1', .slice a (lim pn).length c, .int .i64 p3']) ∧ (lim pn).length ≤ c ∧ Own w' W.heap.size a (lim pn) ∧ Below W.heap.size W w' ∧ Below W0.heap.size W0 w' from
        fun W hW => by
          have := iTimesD s a m c x t b n d y W B B (IX.out W hW).2.2.2.2 (IX.out W hW).2.2.2.2 (IX.out W hW).1 (IX.out W hW).2.2.1 sm sn (by omega) (by omega) (by omega) (by omega) (by omega) (by omega) (HTB.out W hW)
          rw [hP] at this
          exact this.mono fun e w' ⟨a, c, he, hc, ho, hb⟩ => ⟨a, c, he, hc, ho, hb, hW.trans (hb.mono hW.size)⟩)
      have HM2 := Lib.hid (show ∀ W, Below W0.heap.size W0 W → Calls Tryz.prog 74 #[.agg #[.int .i64 s', .slice a' (lim m').length c', .int .i64 x'], .agg #[.int .i64 t', .slice b' (lim n').length d', .int .i64 y']] W fun e w' => ∃ a c, e = .returned (.agg #[.int .i64 q1', .slice a (lim qn).length c, .int .i64 q3']) ∧ (lim qn).length ≤ c ∧ Own w' W.heap.size a (lim qn) ∧ Below W.heap.size W w' ∧ Below W0.heap.size W0 w' from
        fun W hW => by
          have := iTimesD s' a' m' c' x' t' b' n' d' y' W B B (IX.out W hW).2.2.2.2 (IX.out W hW).2.2.2.2 (IX.out W hW).2.1 (IX.out W hW).2.2.2.1 sm' sn' (by omega) (by omega) (by omega) (by omega) (by omega) (by omega) (HTB.out W hW)
          rw [hQ] at this
          exact this.mono fun e w' ⟨a, c, he, hc, ho, hb⟩ => ⟨a, c, he, hc, ho, hb, hW.trans (hb.mono hW.size)⟩)
      have HM3 := Lib.hid (show ∀ W, Below W0.heap.size W0 W → Calls Tryz.prog 74 #[.agg #[.int .i64 s, .slice a (lim m).length c, .int .i64 x], .agg #[.int .i64 t', .slice b' (lim n').length d', .int .i64 y']] W fun e w' => ∃ a c, e = .returned (.agg #[.int .i64 u1', .slice a (lim un).length c, .int .i64 u3']) ∧ (lim un).length ≤ c ∧ Own w' W.heap.size a (lim un) ∧ Below W.heap.size W w' ∧ Below W0.heap.size W0 w' from
        fun W hW => by
          have := iTimesD s a m c x t' b' n' d' y' W B B (IX.out W hW).2.2.2.2 (IX.out W hW).2.2.2.2 (IX.out W hW).1 (IX.out W hW).2.2.2.1 sm sn' (by omega) (by omega) (by omega) (by omega) (by omega) (by omega) (HTB.out W hW)
          rw [hU] at this
          exact this.mono fun e w' ⟨a, c, he, hc, ho, hb⟩ => ⟨a, c, he, hc, ho, hb, hW.trans (hb.mono hW.size)⟩)
      have HM4 := Lib.hid (show ∀ W, Below W0.heap.size W0 W → Calls Tryz.prog 74 #[.agg #[.int .i64 s', .slice a' (lim m').length c', .int .i64 x'], .agg #[.int .i64 t, .slice b (lim n).length d, .int .i64 y]] W fun e w' => ∃ a c, e = .returned (.agg #[.int .i64 v1', .slice a (lim vn).length c, .int .i64 v3']) ∧ (lim vn).length ≤ c ∧ Own w' W.heap.size a (lim vn) ∧ Below W.heap.size W w' ∧ Below W0.heap.size W0 w' from
        fun W hW => by
          have := iTimesD s' a' m' c' x' t b n d y W B B (IX.out W hW).2.2.2.2 (IX.out W hW).2.2.2.2 (IX.out W hW).2.1 (IX.out W hW).2.2.1 sm' sn (by omega) (by omega) (by omega) (by omega) (by omega) (by omega) (HTB.out W hW)
          rw [hV] at this
          exact this.mono fun e w' ⟨a, c, he, hc, ho, hb⟩ => ⟨a, c, he, hc, ho, hb, hW.trans (hb.mono hW.size)⟩)
      have HVR := Lib.hid (show ∀ (a b : Option Addr) (c d : Nat) W, Below W0.heap.size W0 W → Own W W0.heap.size a (lim pn) → Own W W0.heap.size b (lim qn) → Calls Tryz.prog 69 #[.agg #[.int .i64 p1', .slice a (lim pn).length c, .int .i64 p3', .int .i64 q1', .slice b (lim qn).length d, .int .i64 q3']] W fun e w' => e = .returned (.bool (dyB p1' (lim pn) p3' && dyB q1' (lim qn) q3')) ∧ Below W.heap.size W w' ∧ Below W0.heap.size W0 w' from
        fun a b c d W hW ho hp => (iValidE p1' a (lim pn) c p3' q1' b (lim qn) d q3' W W.heap.size (Nat.le_refl _) (by omega) (by omega) ho.ints hp.ints).mono fun e w' ⟨he, hb⟩ => ⟨he, hb, hW.trans (hb.mono hW.size)⟩)
      have HVI := Lib.hid (show ∀ (a b : Option Addr) (c d : Nat) W, Below W0.heap.size W0 W → Own W W0.heap.size a (lim un) → Own W W0.heap.size b (lim vn) → Calls Tryz.prog 69 #[.agg #[.int .i64 u1', .slice a (lim un).length c, .int .i64 u3', .int .i64 v1', .slice b (lim vn).length d, .int .i64 v3']] W fun e w' => e = .returned (.bool (dyB u1' (lim un) u3' && dyB v1' (lim vn) v3')) ∧ Below W.heap.size W w' ∧ Below W0.heap.size W0 w' from
        fun a b c d W hW ho hp => (iValidE u1' a (lim un) c u3' v1' b (lim vn) d v3' W W.heap.size (Nat.le_refl _) (by omega) (by omega) ho.ints hp.ints).mono fun e w' ⟨he, hb⟩ => ⟨he, hb, hW.trans (hb.mono hW.size)⟩)
      obtain ⟨b3, h3⟩ : ∃ b3, (dyB p1' (lim pn) p3' && dyB q1' (lim qn) q3') = b3 := ⟨_, rfl⟩
      cases b3
      · rw [muG_no (P := (p1', lim pn, p3')) (Q := (q1', lim qn, q3')) (U := (u1', lim un, u3')) (V := (v1', lim vn, v3')) (fun h => by have h9 := h.1; simp only at h9; rw [h3] at h9; cases h9)]
        rw [h3] at HVR
        clear p1 p2 p3 p4 p5 hx hx' hy hy' hW0 hB hl hl' hk hk' IX g1 g2 g3 g4 h1 h2 hm hm' hn hn' sm sm' sn sn' e1 e2 e3 e4 e5 e6 e7 e8 hP hQ hU hV sp sq su sv lp lq lu lv h3
        go_enter Tryz.func14, Tryz.ntmps14
        go_wp2_with fail
        rw [HW0.out]
        refine (HV1.out _ hT).mono ?_
        rintro e w1 ⟨rfl, hb⟩
        clear k1 k2 k3 k4 k5 k6 k7 k8 k9 k10 k11 k12
        obtain ⟨k1, k2, k3, k4, k5, k6, k7, k8, k9, k10, k11, k12⟩ := SS.out _ hb
        go_wp2_with fail
        refine (HV2.out _ hb).mono ?_
        rintro e w2 ⟨rfl, hb2⟩
        clear k1 k2 k3 k4 k5 k6 k7 k8 k9 k10 k11 k12
        obtain ⟨k1, k2, k3, k4, k5, k6, k7, k8, k9, k10, k11, k12⟩ := SS.out _ hb2
        have hbd := hb2.drew
        have hsz0 := hb2.size
        go_wp2_with fail
        go_cut [6] (fun p W => ∃ hi, ResE W0 W p p1' (lim pn) p3' q1' (lim qn) q3' hi)
        case first =>
          clear k1 k2 k3 k4 k5 k6 k7 k8 k9 k10 k11 k12
          go_region_held3 (fun W => W.cell? ⟨w.heap.size, 0, none⟩ = some (.int .i64 s) ∧ W.cell? ⟨w.heap.size, 1, none⟩ = some (.slice a (lim m).length c) ∧ W.cell? ⟨w.heap.size, 2, none⟩ = some (.int .i64 x) ∧ W.cell? ⟨w.heap.size, 3, none⟩ = some (.int .i64 s') ∧ W.cell? ⟨w.heap.size, 4, none⟩ = some (.slice a' (lim m').length c') ∧ W.cell? ⟨w.heap.size, 5, none⟩ = some (.int .i64 x') ∧ W.cell? ⟨w.heap.size + 1, 0, none⟩ = some (.int .i64 t) ∧ W.cell? ⟨w.heap.size + 1, 1, none⟩ = some (.slice b (lim n).length d) ∧ W.cell? ⟨w.heap.size + 1, 2, none⟩ = some (.int .i64 y) ∧ W.cell? ⟨w.heap.size + 1, 3, none⟩ = some (.int .i64 t') ∧ W.cell? ⟨w.heap.size + 1, 4, none⟩ = some (.slice b' (lim n').length d') ∧ W.cell? ⟨w.heap.size + 1, 5, none⟩ = some (.int .i64 y'))
            (exact SS.out _ (by with_reducible first | assumption | exact below_alloc (by assumption) _ | exact below_allocd (by assumption) _ | exact below_set6 (by assumption) (by omega) _ _ _ _ _ _))
            (first
            | (go_at_call 74; with_reducible refine (HM1.out _ (by with_reducible first | assumption | exact below_alloc (by assumption) _ | exact below_allocd (by assumption) _ | exact below_set6 (by assumption) (by omega) _ _ _ _ _ _)).mono ?_; rintro e v1 ⟨x1, f1, rfl, hc1, ho1, hbb1, hbz1⟩; have hsz1 := hbz1.size; have hsy1 := hbb1.size; (try simp at hsy1); have hk1 := fun g cs (h : BoxAt _ g 33 cs) => BoxAt.below h hbb1)
            | (go_at_call 74; with_reducible refine (HM2.out _ (by with_reducible first | assumption | exact below_alloc (by assumption) _ | exact below_allocd (by assumption) _ | exact below_set6 (by assumption) (by omega) _ _ _ _ _ _)).mono ?_; rintro e v2 ⟨x2, f2, rfl, hc2, ho2, hbb2, hbz2⟩; have hsz2 := hbz2.size; have hsy2 := hbb2.size; (try simp at hsy2); have ho12 := Own.below (by with_reducible first | exact ho1 | exact Own.alloc ho1 _) hbb2; (first | (with_reducible have hq := BoxAt.below (BoxAt.new v1 _ _) hbb2; obtain ⟨g1, g2, g3, g4, g5, g6, g7, g8, g9, g10, g11, g12⟩ := BoxAt.six12 hq) | (with_reducible have hq := BoxAt.below (hk1 _ _ (BoxAt.newd w2 _ _)) hbb2; obtain ⟨g1, g2, g3, g4, g5, g6, g7, g8, g9, g10, g11, g12⟩ := BoxAt.six12 hq) | skip)))
          all_goals
            go_wp2_with fail
            go_meet
            first
            | exact ⟨_, ResE.mk1 hbz2 ho12 (by first | omega | (simp; omega) | simp) hc1 ho2 (by first | omega | (simp; omega) | simp) hc2 rfl⟩
            | exact ⟨_, ResE.mk2 hq (by first | omega | (simp; done) | (simp; omega)) hbz2 ho12 (by first | omega | (simp; omega) | simp) hc1 ho2 (by first | omega | (simp; omega) | simp) hc2⟩
        case rest =>
          obtain ⟨hi6, hres⟩ := hcut
          obtain ⟨g6, a6, c6, b6, d6, rfl, hg6, hh6, hx6, hc6, hd6, ho6, hp6⟩ := hres.ex
          have SS6 := Lib.hid (show ∀ W, Below wc.heap.size wc W → (W.cell? ⟨w.heap.size, 0, none⟩ = some (.int .i64 s) ∧ W.cell? ⟨w.heap.size, 1, none⟩ = some (.slice a (lim m).length c) ∧ W.cell? ⟨w.heap.size, 2, none⟩ = some (.int .i64 x) ∧ W.cell? ⟨w.heap.size, 3, none⟩ = some (.int .i64 s') ∧ W.cell? ⟨w.heap.size, 4, none⟩ = some (.slice a' (lim m').length c') ∧ W.cell? ⟨w.heap.size, 5, none⟩ = some (.int .i64 x') ∧ W.cell? ⟨w.heap.size + 1, 0, none⟩ = some (.int .i64 t) ∧ W.cell? ⟨w.heap.size + 1, 1, none⟩ = some (.slice b (lim n).length d) ∧ W.cell? ⟨w.heap.size + 1, 2, none⟩ = some (.int .i64 y) ∧ W.cell? ⟨w.heap.size + 1, 3, none⟩ = some (.int .i64 t') ∧ W.cell? ⟨w.heap.size + 1, 4, none⟩ = some (.slice b' (lim n').length d') ∧ W.cell? ⟨w.heap.size + 1, 5, none⟩ = some (.int .i64 y')) from fun W hW => SS.out _ (hres.bel.trans (hW.mono hres.bel.size)))
          have HN3 := Lib.hid (show ∀ W, Below wc.heap.size wc W → Calls Tryz.prog 74 #[.agg #[.int .i64 s, .slice a (lim m).length c, .int .i64 x], .agg #[.int .i64 t', .slice b' (lim n').length d', .int .i64 y']] W fun e w' => ∃ a c, e = .returned (.agg #[.int .i64 u1', .slice a (lim un).length c, .int .i64 u3']) ∧ (lim un).length ≤ c ∧ Own w' W.heap.size a (lim un) ∧ Below W.heap.size W w' ∧ Below wc.heap.size wc w' from
            fun W hW => (HM3.out W (hres.bel.trans (hW.mono hres.bel.size))).mono fun e w' ⟨a, c, he, hc, ho, hb, _⟩ => ⟨a, c, he, hc, ho, hb, hW.trans (hb.mono hW.size)⟩)
          have HN4 := Lib.hid (show ∀ W, Below wc.heap.size wc W → Calls Tryz.prog 74 #[.agg #[.int .i64 s', .slice a' (lim m').length c', .int .i64 x'], .agg #[.int .i64 t, .slice b (lim n).length d, .int .i64 y]] W fun e w' => ∃ a c, e = .returned (.agg #[.int .i64 v1', .slice a (lim vn).length c, .int .i64 v3']) ∧ (lim vn).length ≤ c ∧ Own w' W.heap.size a (lim vn) ∧ Below W.heap.size W w' ∧ Below wc.heap.size wc w' from
            fun W hW => (HM4.out W (hres.bel.trans (hW.mono hres.bel.size))).mono fun e w' ⟨a, c, he, hc, ho, hb, _⟩ => ⟨a, c, he, hc, ho, hb, hW.trans (hb.mono hW.size)⟩)
          have X6 := Lib.hid hx6
          have O6 := Lib.hid ho6
          have Q6 := Lib.hid hp6
          have U6 := Lib.hid hres.bel
          have hT6 : Below wc.heap.size wc wc := Below.refl _ _
          have hT6d := hT6.drew
          clear hres hx6 ho6 hp6 hb2 hbd hsz0
          clear k1 k2 k3 k4 k5 k6 k7 k8 k9 k10 k11 k12
          obtain ⟨k1, k2, k3, k4, k5, k6, k7, k8, k9, k10, k11, k12⟩ := SS6.out _ hT6
          go_wp2_with fail
          go_cut [7] (fun p W => ∃ hi, ResE wc W p u1' (lim un) u3' v1' (lim vn) v3' hi)
          case first =>
            clear k1 k2 k3 k4 k5 k6 k7 k8 k9 k10 k11 k12
            go_region_held3 (fun W => W.cell? ⟨w.heap.size, 0, none⟩ = some (.int .i64 s) ∧ W.cell? ⟨w.heap.size, 1, none⟩ = some (.slice a (lim m).length c) ∧ W.cell? ⟨w.heap.size, 2, none⟩ = some (.int .i64 x) ∧ W.cell? ⟨w.heap.size, 3, none⟩ = some (.int .i64 s') ∧ W.cell? ⟨w.heap.size, 4, none⟩ = some (.slice a' (lim m').length c') ∧ W.cell? ⟨w.heap.size, 5, none⟩ = some (.int .i64 x') ∧ W.cell? ⟨w.heap.size + 1, 0, none⟩ = some (.int .i64 t) ∧ W.cell? ⟨w.heap.size + 1, 1, none⟩ = some (.slice b (lim n).length d) ∧ W.cell? ⟨w.heap.size + 1, 2, none⟩ = some (.int .i64 y) ∧ W.cell? ⟨w.heap.size + 1, 3, none⟩ = some (.int .i64 t') ∧ W.cell? ⟨w.heap.size + 1, 4, none⟩ = some (.slice b' (lim n').length d') ∧ W.cell? ⟨w.heap.size + 1, 5, none⟩ = some (.int .i64 y'))
              (exact SS6.out _ (by with_reducible first | assumption | exact below_alloc (by assumption) _ | exact below_allocd (by assumption) _ | exact below_set6 (by assumption) (by omega) _ _ _ _ _ _))
              (first
              | (go_at_call 74; with_reducible refine (HN3.out _ (by with_reducible first | assumption | exact below_alloc (by assumption) _ | exact below_allocd (by assumption) _ | exact below_set6 (by assumption) (by omega) _ _ _ _ _ _)).mono ?_; rintro e v1 ⟨x1, f1, rfl, hc1, ho1, hbb1, hbz1⟩; have hsz1 := hbz1.size; have hsy1 := hbb1.size; (try simp at hsy1); have hk1 := fun g cs (h : BoxAt _ g 33 cs) => BoxAt.below h hbb1)
              | (go_at_call 74; with_reducible refine (HN4.out _ (by with_reducible first | assumption | exact below_alloc (by assumption) _ | exact below_allocd (by assumption) _ | exact below_set6 (by assumption) (by omega) _ _ _ _ _ _)).mono ?_; rintro e v2 ⟨x2, f2, rfl, hc2, ho2, hbb2, hbz2⟩; have hsz2 := hbz2.size; have hsy2 := hbb2.size; (try simp at hsy2); have ho12 := Own.below (by with_reducible first | exact ho1 | exact Own.alloc ho1 _) hbb2; (first | (with_reducible have hq := BoxAt.below (BoxAt.new v1 _ _) hbb2; obtain ⟨g1, g2, g3, g4, g5, g6, g7, g8, g9, g10, g11, g12⟩ := BoxAt.six12 hq) | (with_reducible have hq := BoxAt.below (hk1 _ _ (BoxAt.newd wc _ _)) hbb2; obtain ⟨g1, g2, g3, g4, g5, g6, g7, g8, g9, g10, g11, g12⟩ := BoxAt.six12 hq) | skip)))
            all_goals
              go_wp2_with fail
              go_meet
              first
              | exact ⟨_, ResE.mk1 hbz2 ho12 (by first | omega | (simp; omega) | simp) hc1 ho2 (by first | omega | (simp; omega) | simp) hc2 rfl⟩
              | exact ⟨_, ResE.mk2 hq (by first | omega | (simp; done) | (simp; omega)) hbz2 ho12 (by first | omega | (simp; omega) | simp) hc1 ho2 (by first | omega | (simp; omega) | simp) hc2⟩
          case rest =>
            obtain ⟨hi7, hres⟩ := hcut
            obtain ⟨g7, a7, c7, b7, d7, rfl, hg7, hh7, hx7, hc7, hd7, ho7, hp7⟩ := hres.ex
            have hU7 := hres.bel
            have hb3 := U6.out.trans (hU7.mono U6.out.size)
            have hx6 := X6.out.below hU7
            have HO6 := O6.out.below hU7
            have HQ6 := Q6.out.below hU7
            have HO7 := ho7.mono U6.out.size
            have HQ7 := hp7.mono U6.out.size
            have hz6 := hx6.lt
            clear hres ho7 hp7 hU7
            clear k1 k2 k3 k4 k5 k6 k7 k8 k9 k10 k11 k12
            obtain ⟨m1, m2, m3, m4, m5, m6⟩ := hx6.six
            go_wp2_with fail
            refine (HVR.out _ _ _ _ _ hb3 HO6 HQ6).mono ?_
            rintro e w3 ⟨rfl, hbb, hb4⟩
            clear m1 m2 m3 m4 m5 m6
            obtain ⟨q1', q2', q3', q4', q5', q6', q7', q8', q9', q10', q11', q12'⟩ := (SR.out _ hb4).six12
            go_wp2_with fail
            refine bodyPost_ret (v := .tuple #[.agg #[.int .i64 0, .slice none 0 0, .int .i64 0, .int .i64 0, .slice none 0 0, .int .i64 0], .int .i64 3]) (by simp [results, Tryz.results14, go_sem, *]) rfl ?_
            exact retEC_zero (g := w.heap.size + 1 + 1) 3 P3.out P4.out hb4 (by omega) _ _ _ _ _ _
      · obtain ⟨b4, h4⟩ : ∃ b4, (dyB u1' (lim un) u3' && dyB v1' (lim vn) v3') = b4 := ⟨_, rfl⟩
        cases b4
        · rw [muG_no (P := (p1', lim pn, p3')) (Q := (q1', lim qn, q3')) (U := (u1', lim un, u3')) (V := (v1', lim vn, v3')) (fun h => by have h9 := h.2; simp only at h9; rw [h4] at h9; cases h9)]
          rw [h3] at HVR
          rw [h4] at HVI
          clear p1 p2 p3 p4 p5 hx hx' hy hy' hW0 hB hl hl' hk hk' IX g1 g2 g3 g4 h1 h2 hm hm' hn hn' sm sm' sn sn' e1 e2 e3 e4 e5 e6 e7 e8 hP hQ hU hV sp sq su sv lp lq lu lv h3 h4
          go_enter Tryz.func14, Tryz.ntmps14
          go_wp2_with fail
          rw [HW0.out]
          refine (HV1.out _ hT).mono ?_
          rintro e w1 ⟨rfl, hb⟩
          clear k1 k2 k3 k4 k5 k6 k7 k8 k9 k10 k11 k12
          obtain ⟨k1, k2, k3, k4, k5, k6, k7, k8, k9, k10, k11, k12⟩ := SS.out _ hb
          go_wp2_with fail
          refine (HV2.out _ hb).mono ?_
          rintro e w2 ⟨rfl, hb2⟩
          clear k1 k2 k3 k4 k5 k6 k7 k8 k9 k10 k11 k12
          obtain ⟨k1, k2, k3, k4, k5, k6, k7, k8, k9, k10, k11, k12⟩ := SS.out _ hb2
          have hbd := hb2.drew
          have hsz0 := hb2.size
          go_wp2_with fail
          go_cut [6] (fun p W => ∃ hi, ResE W0 W p p1' (lim pn) p3' q1' (lim qn) q3' hi)
          case first =>
            clear k1 k2 k3 k4 k5 k6 k7 k8 k9 k10 k11 k12
            go_region_held3 (fun W => W.cell? ⟨w.heap.size, 0, none⟩ = some (.int .i64 s) ∧ W.cell? ⟨w.heap.size, 1, none⟩ = some (.slice a (lim m).length c) ∧ W.cell? ⟨w.heap.size, 2, none⟩ = some (.int .i64 x) ∧ W.cell? ⟨w.heap.size, 3, none⟩ = some (.int .i64 s') ∧ W.cell? ⟨w.heap.size, 4, none⟩ = some (.slice a' (lim m').length c') ∧ W.cell? ⟨w.heap.size, 5, none⟩ = some (.int .i64 x') ∧ W.cell? ⟨w.heap.size + 1, 0, none⟩ = some (.int .i64 t) ∧ W.cell? ⟨w.heap.size + 1, 1, none⟩ = some (.slice b (lim n).length d) ∧ W.cell? ⟨w.heap.size + 1, 2, none⟩ = some (.int .i64 y) ∧ W.cell? ⟨w.heap.size + 1, 3, none⟩ = some (.int .i64 t') ∧ W.cell? ⟨w.heap.size + 1, 4, none⟩ = some (.slice b' (lim n').length d') ∧ W.cell? ⟨w.heap.size + 1, 5, none⟩ = some (.int .i64 y'))
              (exact SS.out _ (by with_reducible first | assumption | exact below_alloc (by assumption) _ | exact below_allocd (by assumption) _ | exact below_set6 (by assumption) (by omega) _ _ _ _ _ _))
              (first
              | (go_at_call 74; with_reducible refine (HM1.out _ (by with_reducible first | assumption | exact below_alloc (by assumption) _ | exact below_allocd (by assumption) _ | exact below_set6 (by assumption) (by omega) _ _ _ _ _ _)).mono ?_; rintro e v1 ⟨x1, f1, rfl, hc1, ho1, hbb1, hbz1⟩; have hsz1 := hbz1.size; have hsy1 := hbb1.size; (try simp at hsy1); have hk1 := fun g cs (h : BoxAt _ g 33 cs) => BoxAt.below h hbb1)
              | (go_at_call 74; with_reducible refine (HM2.out _ (by with_reducible first | assumption | exact below_alloc (by assumption) _ | exact below_allocd (by assumption) _ | exact below_set6 (by assumption) (by omega) _ _ _ _ _ _)).mono ?_; rintro e v2 ⟨x2, f2, rfl, hc2, ho2, hbb2, hbz2⟩; have hsz2 := hbz2.size; have hsy2 := hbb2.size; (try simp at hsy2); have ho12 := Own.below (by with_reducible first | exact ho1 | exact Own.alloc ho1 _) hbb2; (first | (with_reducible have hq := BoxAt.below (BoxAt.new v1 _ _) hbb2; obtain ⟨g1, g2, g3, g4, g5, g6, g7, g8, g9, g10, g11, g12⟩ := BoxAt.six12 hq) | (with_reducible have hq := BoxAt.below (hk1 _ _ (BoxAt.newd w2 _ _)) hbb2; obtain ⟨g1, g2, g3, g4, g5, g6, g7, g8, g9, g10, g11, g12⟩ := BoxAt.six12 hq) | skip)))
            all_goals
              go_wp2_with fail
              go_meet
              first
              | exact ⟨_, ResE.mk1 hbz2 ho12 (by first | omega | (simp; omega) | simp) hc1 ho2 (by first | omega | (simp; omega) | simp) hc2 rfl⟩
              | exact ⟨_, ResE.mk2 hq (by first | omega | (simp; done) | (simp; omega)) hbz2 ho12 (by first | omega | (simp; omega) | simp) hc1 ho2 (by first | omega | (simp; omega) | simp) hc2⟩
          case rest =>
            obtain ⟨hi6, hres⟩ := hcut
            obtain ⟨g6, a6, c6, b6, d6, rfl, hg6, hh6, hx6, hc6, hd6, ho6, hp6⟩ := hres.ex
            have SS6 := Lib.hid (show ∀ W, Below wc.heap.size wc W → (W.cell? ⟨w.heap.size, 0, none⟩ = some (.int .i64 s) ∧ W.cell? ⟨w.heap.size, 1, none⟩ = some (.slice a (lim m).length c) ∧ W.cell? ⟨w.heap.size, 2, none⟩ = some (.int .i64 x) ∧ W.cell? ⟨w.heap.size, 3, none⟩ = some (.int .i64 s') ∧ W.cell? ⟨w.heap.size, 4, none⟩ = some (.slice a' (lim m').length c') ∧ W.cell? ⟨w.heap.size, 5, none⟩ = some (.int .i64 x') ∧ W.cell? ⟨w.heap.size + 1, 0, none⟩ = some (.int .i64 t) ∧ W.cell? ⟨w.heap.size + 1, 1, none⟩ = some (.slice b (lim n).length d) ∧ W.cell? ⟨w.heap.size + 1, 2, none⟩ = some (.int .i64 y) ∧ W.cell? ⟨w.heap.size + 1, 3, none⟩ = some (.int .i64 t') ∧ W.cell? ⟨w.heap.size + 1, 4, none⟩ = some (.slice b' (lim n').length d') ∧ W.cell? ⟨w.heap.size + 1, 5, none⟩ = some (.int .i64 y')) from fun W hW => SS.out _ (hres.bel.trans (hW.mono hres.bel.size)))
            have HN3 := Lib.hid (show ∀ W, Below wc.heap.size wc W → Calls Tryz.prog 74 #[.agg #[.int .i64 s, .slice a (lim m).length c, .int .i64 x], .agg #[.int .i64 t', .slice b' (lim n').length d', .int .i64 y']] W fun e w' => ∃ a c, e = .returned (.agg #[.int .i64 u1', .slice a (lim un).length c, .int .i64 u3']) ∧ (lim un).length ≤ c ∧ Own w' W.heap.size a (lim un) ∧ Below W.heap.size W w' ∧ Below wc.heap.size wc w' from
              fun W hW => (HM3.out W (hres.bel.trans (hW.mono hres.bel.size))).mono fun e w' ⟨a, c, he, hc, ho, hb, _⟩ => ⟨a, c, he, hc, ho, hb, hW.trans (hb.mono hW.size)⟩)
            have HN4 := Lib.hid (show ∀ W, Below wc.heap.size wc W → Calls Tryz.prog 74 #[.agg #[.int .i64 s', .slice a' (lim m').length c', .int .i64 x'], .agg #[.int .i64 t, .slice b (lim n).length d, .int .i64 y]] W fun e w' => ∃ a c, e = .returned (.agg #[.int .i64 v1', .slice a (lim vn).length c, .int .i64 v3']) ∧ (lim vn).length ≤ c ∧ Own w' W.heap.size a (lim vn) ∧ Below W.heap.size W w' ∧ Below wc.heap.size wc w' from
              fun W hW => (HM4.out W (hres.bel.trans (hW.mono hres.bel.size))).mono fun e w' ⟨a, c, he, hc, ho, hb, _⟩ => ⟨a, c, he, hc, ho, hb, hW.trans (hb.mono hW.size)⟩)
            have X6 := Lib.hid hx6
            have O6 := Lib.hid ho6
            have Q6 := Lib.hid hp6
            have U6 := Lib.hid hres.bel
            have hT6 : Below wc.heap.size wc wc := Below.refl _ _
            have hT6d := hT6.drew
            clear hres hx6 ho6 hp6 hb2 hbd hsz0
            clear k1 k2 k3 k4 k5 k6 k7 k8 k9 k10 k11 k12
            obtain ⟨k1, k2, k3, k4, k5, k6, k7, k8, k9, k10, k11, k12⟩ := SS6.out _ hT6
            go_wp2_with fail
            go_cut [7] (fun p W => ∃ hi, ResE wc W p u1' (lim un) u3' v1' (lim vn) v3' hi)
            case first =>
              clear k1 k2 k3 k4 k5 k6 k7 k8 k9 k10 k11 k12
              go_region_held3 (fun W => W.cell? ⟨w.heap.size, 0, none⟩ = some (.int .i64 s) ∧ W.cell? ⟨w.heap.size, 1, none⟩ = some (.slice a (lim m).length c) ∧ W.cell? ⟨w.heap.size, 2, none⟩ = some (.int .i64 x) ∧ W.cell? ⟨w.heap.size, 3, none⟩ = some (.int .i64 s') ∧ W.cell? ⟨w.heap.size, 4, none⟩ = some (.slice a' (lim m').length c') ∧ W.cell? ⟨w.heap.size, 5, none⟩ = some (.int .i64 x') ∧ W.cell? ⟨w.heap.size + 1, 0, none⟩ = some (.int .i64 t) ∧ W.cell? ⟨w.heap.size + 1, 1, none⟩ = some (.slice b (lim n).length d) ∧ W.cell? ⟨w.heap.size + 1, 2, none⟩ = some (.int .i64 y) ∧ W.cell? ⟨w.heap.size + 1, 3, none⟩ = some (.int .i64 t') ∧ W.cell? ⟨w.heap.size + 1, 4, none⟩ = some (.slice b' (lim n').length d') ∧ W.cell? ⟨w.heap.size + 1, 5, none⟩ = some (.int .i64 y'))
                (exact SS6.out _ (by with_reducible first | assumption | exact below_alloc (by assumption) _ | exact below_allocd (by assumption) _ | exact below_set6 (by assumption) (by omega) _ _ _ _ _ _))
                (first
                | (go_at_call 74; with_reducible refine (HN3.out _ (by with_reducible first | assumption | exact below_alloc (by assumption) _ | exact below_allocd (by assumption) _ | exact below_set6 (by assumption) (by omega) _ _ _ _ _ _)).mono ?_; rintro e v1 ⟨x1, f1, rfl, hc1, ho1, hbb1, hbz1⟩; have hsz1 := hbz1.size; have hsy1 := hbb1.size; (try simp at hsy1); have hk1 := fun g cs (h : BoxAt _ g 33 cs) => BoxAt.below h hbb1)
                | (go_at_call 74; with_reducible refine (HN4.out _ (by with_reducible first | assumption | exact below_alloc (by assumption) _ | exact below_allocd (by assumption) _ | exact below_set6 (by assumption) (by omega) _ _ _ _ _ _)).mono ?_; rintro e v2 ⟨x2, f2, rfl, hc2, ho2, hbb2, hbz2⟩; have hsz2 := hbz2.size; have hsy2 := hbb2.size; (try simp at hsy2); have ho12 := Own.below (by with_reducible first | exact ho1 | exact Own.alloc ho1 _) hbb2; (first | (with_reducible have hq := BoxAt.below (BoxAt.new v1 _ _) hbb2; obtain ⟨g1, g2, g3, g4, g5, g6, g7, g8, g9, g10, g11, g12⟩ := BoxAt.six12 hq) | (with_reducible have hq := BoxAt.below (hk1 _ _ (BoxAt.newd wc _ _)) hbb2; obtain ⟨g1, g2, g3, g4, g5, g6, g7, g8, g9, g10, g11, g12⟩ := BoxAt.six12 hq) | skip)))
              all_goals
                go_wp2_with fail
                go_meet
                first
                | exact ⟨_, ResE.mk1 hbz2 ho12 (by first | omega | (simp; omega) | simp) hc1 ho2 (by first | omega | (simp; omega) | simp) hc2 rfl⟩
                | exact ⟨_, ResE.mk2 hq (by first | omega | (simp; done) | (simp; omega)) hbz2 ho12 (by first | omega | (simp; omega) | simp) hc1 ho2 (by first | omega | (simp; omega) | simp) hc2⟩
            case rest =>
              obtain ⟨hi7, hres⟩ := hcut
              obtain ⟨g7, a7, c7, b7, d7, rfl, hg7, hh7, hx7, hc7, hd7, ho7, hp7⟩ := hres.ex
              have hU7 := hres.bel
              have hb3 := U6.out.trans (hU7.mono U6.out.size)
              have hx6 := X6.out.below hU7
              have HO6 := O6.out.below hU7
              have HQ6 := Q6.out.below hU7
              have HO7 := ho7.mono U6.out.size
              have HQ7 := hp7.mono U6.out.size
              have hz6 := hx6.lt
              clear hres ho7 hp7 hU7
              clear k1 k2 k3 k4 k5 k6 k7 k8 k9 k10 k11 k12
              obtain ⟨m1, m2, m3, m4, m5, m6⟩ := hx6.six
              go_wp2_with fail
              refine (HVR.out _ _ _ _ _ hb3 HO6 HQ6).mono ?_
              rintro e w3 ⟨rfl, hbb, hb4⟩
              clear m1 m2 m3 m4 m5 m6
              have hx6' := hx6.below hbb
              have HO6' := HO6.below hbb
              have HQ6' := HQ6.below hbb
              have hx7' := hx7.below hbb
              have HO7' := HO7.below hbb
              have HQ7' := HQ7.below hbb
              clear hx6 HO6 HQ6 hx7 HO7 HQ7 hbb
              obtain ⟨m1, m2, m3, m4, m5, m6⟩ := hx7'.six
              go_wp2_with fail
              refine (HVI.out _ _ _ _ _ hb4 HO7' HQ7').mono ?_
              rintro e w5 ⟨rfl, hbb, hb5⟩
              clear m1 m2 m3 m4 m5 m6
              obtain ⟨q1', q2', q3', q4', q5', q6', q7', q8', q9', q10', q11', q12'⟩ := (SR.out _ hb5).six12
              go_wp2_with fail
              refine bodyPost_ret (v := .tuple #[.agg #[.int .i64 0, .slice none 0 0, .int .i64 0, .int .i64 0, .slice none 0 0, .int .i64 0], .int .i64 3]) (by simp [results, Tryz.results14, go_sem, *]) rfl ?_
              exact retEC_zero (g := w.heap.size + 1 + 1) 3 P3.out P4.out hb5 (by omega) _ _ _ _ _ _
        · rw [h3] at HVR
          rw [h4] at HVI
          obtain ⟨r1_, r2_⟩ := both_yes h3
          obtain ⟨r3_, r4_⟩ := both_yes h4
          have y1 := dyB_exp r1_
          have y2 := dyB_exp r2_
          have y3 := dyB_exp r3_
          have y4 := dyB_exp r4_
          obtain ⟨d1', dn, d3', hD, sd, ld⟩ := subW_form (x := p3') (y := q3') sp sq lp lq (by omega) (by omega) (by omega) (by omega)
          obtain ⟨e1', en, e3', hE, se, le⟩ := addW_form (x := u3') (y := v3') su sv lu lv (by omega) (by omega) (by omega) (by omega)
          have HD1 := Lib.hid (show ∀ (a b : Option Addr) (c d : Nat) W, Own W W0.heap.size a (lim pn) → Own W W0.heap.size b (lim qn) → Below W0.heap.size W0 W → Calls Tryz.prog 75 #[.agg #[.int .i64 p1', .slice a (lim pn).length c, .int .i64 p3'], .agg #[.int .i64 q1', .slice b (lim qn).length d, .int .i64 q3']] W fun e w' => ∃ a c, e = .returned (.agg #[.int .i64 d1', .slice a (lim dn).length c, .int .i64 d3']) ∧ (lim dn).length ≤ c ∧ Own w' W.heap.size a (lim dn) ∧ Below W.heap.size W w' from
            fun a b c d W ho hp hW => by
              have := iMinusD p1' a pn c p3' q1' b qn d q3' W _ _ (Nat.le_refl _) (Nat.le_refl _) ho.ints hp.ints sp sq lp lq (by omega) (by omega) (by omega) (by omega) (HTB.out W hW)
              rw [hD] at this
              exact this.mono fun e w' ⟨a, c, he, hc, ho, hb⟩ => ⟨a, c, he, hc, ho, hb⟩)
          have HD2 := Lib.hid (show ∀ (a b : Option Addr) (c d : Nat) W, Own W W0.heap.size a (lim un) → Own W W0.heap.size b (lim vn) → Below W0.heap.size W0 W → Calls Tryz.prog 71 #[.agg #[.int .i64 u1', .slice a (lim un).length c, .int .i64 u3'], .agg #[.int .i64 v1', .slice b (lim vn).length d, .int .i64 v3']] W fun e w' => ∃ a c, e = .returned (.agg #[.int .i64 e1', .slice a (lim en).length c, .int .i64 e3']) ∧ (lim en).length ≤ c ∧ Own w' W.heap.size a (lim en) ∧ Below W.heap.size W w' from
            fun a b c d W ho hp hW => by
              have := iPlusD u1' a un c u3' v1' b vn d v3' W _ _ (Nat.le_refl _) (Nat.le_refl _) ho.ints hp.ints su sv lu lv (by omega) (by omega) (by omega) (by omega) (HTB.out W hW)
              rw [hE] at this
              exact this.mono fun e w' ⟨a, c, he, hc, ho, hb⟩ => ⟨a, c, he, hc, ho, hb⟩)
          rw [muG_yes (P := (p1', lim pn, p3')) (Q := (q1', lim qn, q3')) (U := (u1', lim un, u3')) (V := (v1', lim vn, v3')) h3 h4]
          simp only [zv_lim]
          rw [hD, hE]
          obtain ⟨⟨r1, r2, r3, r4, r5, r6, rc⟩, hr⟩ : ∃ r : ExR, r = fitE (d1', lim dn, d3') (e1', lim en, e3') := ⟨_, rfl⟩
          have HLE := Lib.hid (show ∀ (a : Option Addr) (c : Nat) (b : Option Addr) (d : Nat) W lo, W0.heap.size ≤ lo → Below W0.heap.size W0 W → (lim dn).length ≤ c → (lim en).length ≤ d → Own W lo a (lim dn) → Own W lo b (lim en) → Apart a b (lim dn) (lim en) → Calls Tryz.prog 70 #[.agg #[.int .i64 d1', .slice a (lim dn).length c, .int .i64 d3', .int .i64 e1', .slice b (lim en).length d, .int .i64 e3']] W fun e w' => ∃ a c b d, e = .returned (.tuple #[.agg #[.int .i64 r1, .slice a r2.length c, .int .i64 r3, .int .i64 r4, .slice b r5.length d, .int .i64 r6], .int .i64 rc]) ∧ r2.length ≤ c ∧ r5.length ≤ d ∧ Own w' W0.heap.size a r2 ∧ Own w' W0.heap.size b r5 ∧ Apart a b r2 r5 ∧ Below W.heap.size W w' ∧ Below W0.heap.size W0 w' from
            fun a c b d W lo hlo hW hc hd ho hp hap => by
              have := iLimitE d1' (lim dn) d3' e1' (lim en) e3' a b c d W W0.heap.size (by omega) (by omega) hc hd (ho.mono hlo) (hp.mono hlo) hap
              rw [← hr] at this
              exact this.mono fun e w' ⟨a, c, b, d, he, hc, hd, ho, hp, hap, hb⟩ => ⟨a, c, b, d, he, hc, hd, ho, hp, hap, hb, hW.trans (hb.mono hW.size)⟩)
          rw [← hr]
          clear p1 p2 p3 p4 p5 hx hx' hy hy' hW0 hB hl hl' hk hk' IX g1 g2 g3 g4 h1 h2 hm hm' hn hn' sm sm' sn sn' e1 e2 e3 e4 e5 e6 e7 e8 hP hQ hU hV sp sq su sv lp lq lu lv h3 h4 r1_ r2_ r3_ r4_ y1 y2 y3 y4 hD hE sd ld se le hr
          go_enter Tryz.func14, Tryz.ntmps14
          go_wp2_with fail
          rw [HW0.out]
          refine (HV1.out _ hT).mono ?_
          rintro e w1 ⟨rfl, hb⟩
          clear k1 k2 k3 k4 k5 k6 k7 k8 k9 k10 k11 k12
          obtain ⟨k1, k2, k3, k4, k5, k6, k7, k8, k9, k10, k11, k12⟩ := SS.out _ hb
          go_wp2_with fail
          refine (HV2.out _ hb).mono ?_
          rintro e w2 ⟨rfl, hb2⟩
          clear k1 k2 k3 k4 k5 k6 k7 k8 k9 k10 k11 k12
          obtain ⟨k1, k2, k3, k4, k5, k6, k7, k8, k9, k10, k11, k12⟩ := SS.out _ hb2
          have hbd := hb2.drew
          have hsz0 := hb2.size
          go_wp2_with fail
          go_cut [6] (fun p W => ∃ hi, ResE W0 W p p1' (lim pn) p3' q1' (lim qn) q3' hi)
          case first =>
            clear k1 k2 k3 k4 k5 k6 k7 k8 k9 k10 k11 k12
            go_region_held3 (fun W => W.cell? ⟨w.heap.size, 0, none⟩ = some (.int .i64 s) ∧ W.cell? ⟨w.heap.size, 1, none⟩ = some (.slice a (lim m).length c) ∧ W.cell? ⟨w.heap.size, 2, none⟩ = some (.int .i64 x) ∧ W.cell? ⟨w.heap.size, 3, none⟩ = some (.int .i64 s') ∧ W.cell? ⟨w.heap.size, 4, none⟩ = some (.slice a' (lim m').length c') ∧ W.cell? ⟨w.heap.size, 5, none⟩ = some (.int .i64 x') ∧ W.cell? ⟨w.heap.size + 1, 0, none⟩ = some (.int .i64 t) ∧ W.cell? ⟨w.heap.size + 1, 1, none⟩ = some (.slice b (lim n).length d) ∧ W.cell? ⟨w.heap.size + 1, 2, none⟩ = some (.int .i64 y) ∧ W.cell? ⟨w.heap.size + 1, 3, none⟩ = some (.int .i64 t') ∧ W.cell? ⟨w.heap.size + 1, 4, none⟩ = some (.slice b' (lim n').length d') ∧ W.cell? ⟨w.heap.size + 1, 5, none⟩ = some (.int .i64 y'))
              (exact SS.out _ (by with_reducible first | assumption | exact below_alloc (by assumption) _ | exact below_allocd (by assumption) _ | exact below_set6 (by assumption) (by omega) _ _ _ _ _ _))
              (first
              | (go_at_call 74; with_reducible refine (HM1.out _ (by with_reducible first | assumption | exact below_alloc (by assumption) _ | exact below_allocd (by assumption) _ | exact below_set6 (by assumption) (by omega) _ _ _ _ _ _)).mono ?_; rintro e v1 ⟨x1, f1, rfl, hc1, ho1, hbb1, hbz1⟩; have hsz1 := hbz1.size; have hsy1 := hbb1.size; (try simp at hsy1); have hk1 := fun g cs (h : BoxAt _ g 33 cs) => BoxAt.below h hbb1)
              | (go_at_call 74; with_reducible refine (HM2.out _ (by with_reducible first | assumption | exact below_alloc (by assumption) _ | exact below_allocd (by assumption) _ | exact below_set6 (by assumption) (by omega) _ _ _ _ _ _)).mono ?_; rintro e v2 ⟨x2, f2, rfl, hc2, ho2, hbb2, hbz2⟩; have hsz2 := hbz2.size; have hsy2 := hbb2.size; (try simp at hsy2); have ho12 := Own.below (by with_reducible first | exact ho1 | exact Own.alloc ho1 _) hbb2; (first | (with_reducible have hq := BoxAt.below (BoxAt.new v1 _ _) hbb2; obtain ⟨g1, g2, g3, g4, g5, g6, g7, g8, g9, g10, g11, g12⟩ := BoxAt.six12 hq) | (with_reducible have hq := BoxAt.below (hk1 _ _ (BoxAt.newd w2 _ _)) hbb2; obtain ⟨g1, g2, g3, g4, g5, g6, g7, g8, g9, g10, g11, g12⟩ := BoxAt.six12 hq) | skip)))
            all_goals
              go_wp2_with fail
              go_meet
              first
              | exact ⟨_, ResE.mk1 hbz2 ho12 (by first | omega | (simp; omega) | simp) hc1 ho2 (by first | omega | (simp; omega) | simp) hc2 rfl⟩
              | exact ⟨_, ResE.mk2 hq (by first | omega | (simp; done) | (simp; omega)) hbz2 ho12 (by first | omega | (simp; omega) | simp) hc1 ho2 (by first | omega | (simp; omega) | simp) hc2⟩
          case rest =>
            obtain ⟨hi6, hres⟩ := hcut
            obtain ⟨g6, a6, c6, b6, d6, rfl, hg6, hh6, hx6, hc6, hd6, ho6, hp6⟩ := hres.ex
            have SS6 := Lib.hid (show ∀ W, Below wc.heap.size wc W → (W.cell? ⟨w.heap.size, 0, none⟩ = some (.int .i64 s) ∧ W.cell? ⟨w.heap.size, 1, none⟩ = some (.slice a (lim m).length c) ∧ W.cell? ⟨w.heap.size, 2, none⟩ = some (.int .i64 x) ∧ W.cell? ⟨w.heap.size, 3, none⟩ = some (.int .i64 s') ∧ W.cell? ⟨w.heap.size, 4, none⟩ = some (.slice a' (lim m').length c') ∧ W.cell? ⟨w.heap.size, 5, none⟩ = some (.int .i64 x') ∧ W.cell? ⟨w.heap.size + 1, 0, none⟩ = some (.int .i64 t) ∧ W.cell? ⟨w.heap.size + 1, 1, none⟩ = some (.slice b (lim n).length d) ∧ W.cell? ⟨w.heap.size + 1, 2, none⟩ = some (.int .i64 y) ∧ W.cell? ⟨w.heap.size + 1, 3, none⟩ = some (.int .i64 t') ∧ W.cell? ⟨w.heap.size + 1, 4, none⟩ = some (.slice b' (lim n').length d') ∧ W.cell? ⟨w.heap.size + 1, 5, none⟩ = some (.int .i64 y')) from fun W hW => SS.out _ (hres.bel.trans (hW.mono hres.bel.size)))
            have HN3 := Lib.hid (show ∀ W, Below wc.heap.size wc W → Calls Tryz.prog 74 #[.agg #[.int .i64 s, .slice a (lim m).length c, .int .i64 x], .agg #[.int .i64 t', .slice b' (lim n').length d', .int .i64 y']] W fun e w' => ∃ a c, e = .returned (.agg #[.int .i64 u1', .slice a (lim un).length c, .int .i64 u3']) ∧ (lim un).length ≤ c ∧ Own w' W.heap.size a (lim un) ∧ Below W.heap.size W w' ∧ Below wc.heap.size wc w' from
              fun W hW => (HM3.out W (hres.bel.trans (hW.mono hres.bel.size))).mono fun e w' ⟨a, c, he, hc, ho, hb, _⟩ => ⟨a, c, he, hc, ho, hb, hW.trans (hb.mono hW.size)⟩)
            have HN4 := Lib.hid (show ∀ W, Below wc.heap.size wc W → Calls Tryz.prog 74 #[.agg #[.int .i64 s', .slice a' (lim m').length c', .int .i64 x'], .agg #[.int .i64 t, .slice b (lim n).length d, .int .i64 y]] W fun e w' => ∃ a c, e = .returned (.agg #[.int .i64 v1', .slice a (lim vn).length c, .int .i64 v3']) ∧ (lim vn).length ≤ c ∧ Own w' W.heap.size a (lim vn) ∧ Below W.heap.size W w' ∧ Below wc.heap.size wc w' from
              fun W hW => (HM4.out W (hres.bel.trans (hW.mono hres.bel.size))).mono fun e w' ⟨a, c, he, hc, ho, hb, _⟩ => ⟨a, c, he, hc, ho, hb, hW.trans (hb.mono hW.size)⟩)
            have X6 := Lib.hid hx6
            have O6 := Lib.hid ho6
            have Q6 := Lib.hid hp6
            have U6 := Lib.hid hres.bel
            have hT6 : Below wc.heap.size wc wc := Below.refl _ _
            have hT6d := hT6.drew
            clear hres hx6 ho6 hp6 hb2 hbd hsz0
            clear k1 k2 k3 k4 k5 k6 k7 k8 k9 k10 k11 k12
            obtain ⟨k1, k2, k3, k4, k5, k6, k7, k8, k9, k10, k11, k12⟩ := SS6.out _ hT6
            go_wp2_with fail
            go_cut [7] (fun p W => ∃ hi, ResE wc W p u1' (lim un) u3' v1' (lim vn) v3' hi)
            case first =>
              clear k1 k2 k3 k4 k5 k6 k7 k8 k9 k10 k11 k12
              go_region_held3 (fun W => W.cell? ⟨w.heap.size, 0, none⟩ = some (.int .i64 s) ∧ W.cell? ⟨w.heap.size, 1, none⟩ = some (.slice a (lim m).length c) ∧ W.cell? ⟨w.heap.size, 2, none⟩ = some (.int .i64 x) ∧ W.cell? ⟨w.heap.size, 3, none⟩ = some (.int .i64 s') ∧ W.cell? ⟨w.heap.size, 4, none⟩ = some (.slice a' (lim m').length c') ∧ W.cell? ⟨w.heap.size, 5, none⟩ = some (.int .i64 x') ∧ W.cell? ⟨w.heap.size + 1, 0, none⟩ = some (.int .i64 t) ∧ W.cell? ⟨w.heap.size + 1, 1, none⟩ = some (.slice b (lim n).length d) ∧ W.cell? ⟨w.heap.size + 1, 2, none⟩ = some (.int .i64 y) ∧ W.cell? ⟨w.heap.size + 1, 3, none⟩ = some (.int .i64 t') ∧ W.cell? ⟨w.heap.size + 1, 4, none⟩ = some (.slice b' (lim n').length d') ∧ W.cell? ⟨w.heap.size + 1, 5, none⟩ = some (.int .i64 y'))
                (exact SS6.out _ (by with_reducible first | assumption | exact below_alloc (by assumption) _ | exact below_allocd (by assumption) _ | exact below_set6 (by assumption) (by omega) _ _ _ _ _ _))
                (first
                | (go_at_call 74; with_reducible refine (HN3.out _ (by with_reducible first | assumption | exact below_alloc (by assumption) _ | exact below_allocd (by assumption) _ | exact below_set6 (by assumption) (by omega) _ _ _ _ _ _)).mono ?_; rintro e v1 ⟨x1, f1, rfl, hc1, ho1, hbb1, hbz1⟩; have hsz1 := hbz1.size; have hsy1 := hbb1.size; (try simp at hsy1); have hk1 := fun g cs (h : BoxAt _ g 33 cs) => BoxAt.below h hbb1)
                | (go_at_call 74; with_reducible refine (HN4.out _ (by with_reducible first | assumption | exact below_alloc (by assumption) _ | exact below_allocd (by assumption) _ | exact below_set6 (by assumption) (by omega) _ _ _ _ _ _)).mono ?_; rintro e v2 ⟨x2, f2, rfl, hc2, ho2, hbb2, hbz2⟩; have hsz2 := hbz2.size; have hsy2 := hbb2.size; (try simp at hsy2); have ho12 := Own.below (by with_reducible first | exact ho1 | exact Own.alloc ho1 _) hbb2; (first | (with_reducible have hq := BoxAt.below (BoxAt.new v1 _ _) hbb2; obtain ⟨g1, g2, g3, g4, g5, g6, g7, g8, g9, g10, g11, g12⟩ := BoxAt.six12 hq) | (with_reducible have hq := BoxAt.below (hk1 _ _ (BoxAt.newd wc _ _)) hbb2; obtain ⟨g1, g2, g3, g4, g5, g6, g7, g8, g9, g10, g11, g12⟩ := BoxAt.six12 hq) | skip)))
              all_goals
                go_wp2_with fail
                go_meet
                first
                | exact ⟨_, ResE.mk1 hbz2 ho12 (by first | omega | (simp; omega) | simp) hc1 ho2 (by first | omega | (simp; omega) | simp) hc2 rfl⟩
                | exact ⟨_, ResE.mk2 hq (by first | omega | (simp; done) | (simp; omega)) hbz2 ho12 (by first | omega | (simp; omega) | simp) hc1 ho2 (by first | omega | (simp; omega) | simp) hc2⟩
            case rest =>
              obtain ⟨hi7, hres⟩ := hcut
              obtain ⟨g7, a7, c7, b7, d7, rfl, hg7, hh7, hx7, hc7, hd7, ho7, hp7⟩ := hres.ex
              have hU7 := hres.bel
              have hb3 := U6.out.trans (hU7.mono U6.out.size)
              have hx6 := X6.out.below hU7
              have HO6 := O6.out.below hU7
              have HQ6 := Q6.out.below hU7
              have HO7 := ho7.mono U6.out.size
              have HQ7 := hp7.mono U6.out.size
              have hz6 := hx6.lt
              clear hres ho7 hp7 hU7
              clear k1 k2 k3 k4 k5 k6 k7 k8 k9 k10 k11 k12
              obtain ⟨m1, m2, m3, m4, m5, m6⟩ := hx6.six
              go_wp2_with fail
              refine (HVR.out _ _ _ _ _ hb3 HO6 HQ6).mono ?_
              rintro e w3 ⟨rfl, hbb, hb4⟩
              clear m1 m2 m3 m4 m5 m6
              have hx6' := hx6.below hbb
              have HO6' := HO6.below hbb
              have HQ6' := HQ6.below hbb
              have hx7' := hx7.below hbb
              have HO7' := HO7.below hbb
              have HQ7' := HQ7.below hbb
              clear hx6 HO6 HQ6 hx7 HO7 HQ7 hbb
              obtain ⟨m1, m2, m3, m4, m5, m6⟩ := hx7'.six
              go_wp2_with fail
              refine (HVI.out _ _ _ _ _ hb4 HO7' HQ7').mono ?_
              rintro e w5 ⟨rfl, hbb, hb5⟩
              clear m1 m2 m3 m4 m5 m6
              have hx6 := hx6'.below hbb
              have hx7 := hx7'.below hbb
              have HO6 := HO6'.below hbb
              have HQ6 := HQ6'.below hbb
              have HO7 := HO7'.below hbb
              have HQ7 := HQ7'.below hbb
              have U5 := Lib.hid hb5
              have hne6 : g6 ≠ w.heap.size + 1 + 1 := by have := P4.out; omega
              have hne7 : g7 ≠ w.heap.size + 1 + 1 := by have := P4.out; have := U6.out.size; omega
              have S5 := Lib.hid (show ∀ W, Below w5.heap.size w5 W → (W.cell? ⟨g6, 0, none⟩ = some (.int .i64 p1') ∧ W.cell? ⟨g6, 1, none⟩ = some (.slice a6 (lim pn).length c6) ∧ W.cell? ⟨g6, 2, none⟩ = some (.int .i64 p3') ∧ W.cell? ⟨g6, 3, none⟩ = some (.int .i64 q1') ∧ W.cell? ⟨g6, 4, none⟩ = some (.slice b6 (lim qn).length d6) ∧ W.cell? ⟨g6, 5, none⟩ = some (.int .i64 q3') ∧ W.cell? ⟨g7, 0, none⟩ = some (.int .i64 u1') ∧ W.cell? ⟨g7, 1, none⟩ = some (.slice a7 (lim un).length c7) ∧ W.cell? ⟨g7, 2, none⟩ = some (.int .i64 u3') ∧ W.cell? ⟨g7, 3, none⟩ = some (.int .i64 v1') ∧ W.cell? ⟨g7, 4, none⟩ = some (.slice b7 (lim vn).length d7) ∧ W.cell? ⟨g7, 5, none⟩ = some (.int .i64 v3')) from fun W hW => by
                have a1 := hx6.below hW
                have a2 := hx7.below hW
                exact ⟨a1.cell 0, a1.cell 1, a1.cell 2, a1.cell 3, a1.cell 4, a1.cell 5, a2.cell 0, a2.cell 1, a2.cell 2, a2.cell 3, a2.cell 4, a2.cell 5⟩)
              have T5 := Lib.hid (show ∀ W u0 u1 u2 u3 u4 u5, Below w5.heap.size w5 W → (fun W : World => W.cell? ⟨g6, 0, none⟩ = some (.int .i64 p1') ∧ W.cell? ⟨g6, 1, none⟩ = some (.slice a6 (lim pn).length c6) ∧ W.cell? ⟨g6, 2, none⟩ = some (.int .i64 p3') ∧ W.cell? ⟨g6, 3, none⟩ = some (.int .i64 q1') ∧ W.cell? ⟨g6, 4, none⟩ = some (.slice b6 (lim qn).length d6) ∧ W.cell? ⟨g6, 5, none⟩ = some (.int .i64 q3') ∧ W.cell? ⟨g7, 0, none⟩ = some (.int .i64 u1') ∧ W.cell? ⟨g7, 1, none⟩ = some (.slice a7 (lim un).length c7) ∧ W.cell? ⟨g7, 2, none⟩ = some (.int .i64 u3') ∧ W.cell? ⟨g7, 3, none⟩ = some (.int .i64 v1') ∧ W.cell? ⟨g7, 4, none⟩ = some (.slice b7 (lim vn).length d7) ∧ W.cell? ⟨g7, 5, none⟩ = some (.int .i64 v3')) ((((((W.setCell ⟨w.heap.size + 1 + 1, 0, none⟩ u0).setCell ⟨w.heap.size + 1 + 1, 1, none⟩ u1).setCell ⟨w.heap.size + 1 + 1, 2, none⟩ u2).setCell ⟨w.heap.size + 1 + 1, 3, none⟩ u3).setCell ⟨w.heap.size + 1 + 1, 4, none⟩ u4).setCell ⟨w.heap.size + 1 + 1, 5, none⟩ u5) from fun W u0 u1 u2 u3 u4 u5 hW => by
                have a1 := far6 (hx6.below hW) hne6 u0 u1 u2 u3 u4 u5
                have a2 := far6 (hx7.below hW) hne7 u0 u1 u2 u3 u4 u5
                exact ⟨a1.cell 0, a1.cell 1, a1.cell 2, a1.cell 3, a1.cell 4, a1.cell 5, a2.cell 0, a2.cell 1, a2.cell 2, a2.cell 3, a2.cell 4, a2.cell 5⟩)
              have HA1 := Lib.hid (show ∀ W, Below w5.heap.size w5 W → Calls Tryz.prog 75 #[.agg #[.int .i64 p1', .slice a6 (lim pn).length c6, .int .i64 p3'], .agg #[.int .i64 q1', .slice b6 (lim qn).length d6, .int .i64 q3']] W fun e w' => ∃ a c, e = .returned (.agg #[.int .i64 d1', .slice a (lim dn).length c, .int .i64 d3']) ∧ (lim dn).length ≤ c ∧ Own w' w5.heap.size a (lim dn) ∧ Own w' W.heap.size a (lim dn) ∧ Below W.heap.size W w' ∧ Below w5.heap.size w5 w' from
                fun W hW => (HD1.out a6 b6 c6 d6 W (HO6.below hW) (HQ6.below hW) (U5.out.trans (hW.mono U5.out.size))).mono fun e w' ⟨a, c, he, hc, ho, hb⟩ => ⟨a, c, he, hc, ho.mono hW.size, ho, hb, hW.trans (hb.mono hW.size)⟩)
              have HA2 := Lib.hid (show ∀ W, Below w5.heap.size w5 W → Calls Tryz.prog 71 #[.agg #[.int .i64 u1', .slice a7 (lim un).length c7, .int .i64 u3'], .agg #[.int .i64 v1', .slice b7 (lim vn).length d7, .int .i64 v3']] W fun e w' => ∃ a c, e = .returned (.agg #[.int .i64 e1', .slice a (lim en).length c, .int .i64 e3']) ∧ (lim en).length ≤ c ∧ Own w' w5.heap.size a (lim en) ∧ Own w' W.heap.size a (lim en) ∧ Below W.heap.size W w' ∧ Below w5.heap.size w5 w' from
                fun W hW => (HD2.out a7 b7 c7 d7 W (HO7.below hW) (HQ7.below hW) (U5.out.trans (hW.mono U5.out.size))).mono fun e w' ⟨a, c, he, hc, ho, hb⟩ => ⟨a, c, he, hc, ho.mono hW.size, ho, hb, hW.trans (hb.mono hW.size)⟩)
              have HL5 := Lib.hid (show ∀ (a : Option Addr) (c : Nat) (b : Option Addr) (d : Nat) W, Below w5.heap.size w5 W → (lim dn).length ≤ c → (lim en).length ≤ d → Own W w5.heap.size a (lim dn) → Own W w5.heap.size b (lim en) → Apart a b (lim dn) (lim en) → Calls Tryz.prog 70 #[.agg #[.int .i64 d1', .slice a (lim dn).length c, .int .i64 d3', .int .i64 e1', .slice b (lim en).length d, .int .i64 e3']] W fun e w' => ∃ a c b d, e = .returned (.tuple #[.agg #[.int .i64 r1, .slice a r2.length c, .int .i64 r3, .int .i64 r4, .slice b r5.length d, .int .i64 r6], .int .i64 rc]) ∧ r2.length ≤ c ∧ r5.length ≤ d ∧ Own w' W0.heap.size a r2 ∧ Own w' W0.heap.size b r5 ∧ Apart a b r2 r5 ∧ Below w5.heap.size w5 w' from
                fun a c b d W hW hc hd ho hp hap => (HLE.out a c b d W _ U5.out.size (U5.out.trans (hW.mono U5.out.size)) hc hd ho hp hap).mono fun e w' ⟨a, c, b, d, he, hc, hd, ho, hp, hap, hb, _⟩ => ⟨a, c, b, d, he, hc, hd, ho, hp, hap, hW.trans (hb.mono hW.size)⟩)
              have hT5 : Below w5.heap.size w5 w5 := Below.refl _ _
              have hT5d := hT5.drew
              clear hx6 hx7 HO6 HQ6 HO7 HQ7 hx6' HO6' HQ6' hx7' HO7' HQ7' hbb hb5 hb4 hb3 HD1 HD2 HLE HVR HVI HN3 HN4 X6 O6 Q6 SS6 hT6 hT6d hne6 hne7
              go_wp2_with fail
              go_region_held3 (fun W => W.cell? ⟨g6, 0, none⟩ = some (.int .i64 p1') ∧ W.cell? ⟨g6, 1, none⟩ = some (.slice a6 (lim pn).length c6) ∧ W.cell? ⟨g6, 2, none⟩ = some (.int .i64 p3') ∧ W.cell? ⟨g6, 3, none⟩ = some (.int .i64 q1') ∧ W.cell? ⟨g6, 4, none⟩ = some (.slice b6 (lim qn).length d6) ∧ W.cell? ⟨g6, 5, none⟩ = some (.int .i64 q3') ∧ W.cell? ⟨g7, 0, none⟩ = some (.int .i64 u1') ∧ W.cell? ⟨g7, 1, none⟩ = some (.slice a7 (lim un).length c7) ∧ W.cell? ⟨g7, 2, none⟩ = some (.int .i64 u3') ∧ W.cell? ⟨g7, 3, none⟩ = some (.int .i64 v1') ∧ W.cell? ⟨g7, 4, none⟩ = some (.slice b7 (lim vn).length d7) ∧ W.cell? ⟨g7, 5, none⟩ = some (.int .i64 v3'))
                (with_reducible first | exact S5.out _ (by assumption) | exact T5.out _ _ _ _ _ _ _ (by assumption))
                (first
                | (go_at_call 75; with_reducible refine (HA1.out _ (by assumption)).mono ?_; rintro e v1 ⟨y1, f1, rfl, hc1, ho1, ho1', hbb1, hb1⟩)
                | (go_at_call 71; with_reducible refine (HA2.out _ (by assumption)).mono ?_; rintro e v2 ⟨y2, f2, rfl, hc2, ho2, ho2', hbb2, hb2'⟩; have hap := apart_of ho1 ho2'; have ho12 := Own.below ho1 hbb2)
                | (go_at_call 70; with_reducible refine (HL5.out _ _ _ _ _ (by assumption) hc1 hc2 ho12 ho2 hap).mono ?_; rintro e v3 ⟨y3, f3, y4, f4, rfl, hc3, hc4, ho3, ho4, hap3, hb9⟩; have hb3 := U5.out.trans (hb9.mono U5.out.size); obtain ⟨z1, z2, z3, z4, z5, z6, z7, z8, z9, z10, z11, z12⟩ := (SR.out _ hb3).six12))
              all_goals
                have HBX := Lib.hid (SR.out _ hb3)
                go_wp2_with fail
                refine bodyPost_ret (v := .tuple #[.agg #[.int .i64 r1, .slice y3 r2.length f3, .int .i64 r3, .int .i64 r4, .slice y4 r5.length f4, .int .i64 r6], .int .i64 rc]) (by simp [results, Tryz.results14, go_sem, *]) rfl ?_
                exact retEC_end (g := w.heap.size + 1 + 1) (r := ⟨r1, r2, r3, r4, r5, r6, rc⟩) P3.out P4.out hb3 (by omega) _ _ _ _ _ _ ⟨_, HBX.out⟩ (ho3.mono (by have := P4.out; omega)) (ho4.mono (by have := P4.out; omega)) hc3 hc4 hap3

set_option maxRecDepth 100000 in
set_option maxHeartbeats 8000000 in
theorem sTimes3 (s : Int) (a : Option Addr) (m c : Nat) (x : Int) (s' : Int) (a' : Option Addr) (m' c' : Nat) (x' : Int) (t : Int) (b : Option Addr) (n d : Nat) (y : Int) (t' : Int) (b' : Option Addr) (n' d' : Nat) (y' : Int) (p1' : Int) (pn : Nat) (p3' q1' : Int) (qn : Nat) (q3' u1' : Int) (un : Nat) (u3' v1' : Int) (vn : Nat) (v3' d1' : Int) (dn : Nat) (d3' e1' : Int) (en : Nat) (e3' : Int) (w : World) (B : Nat) (hB : B ≤ w.heap.size) (hx : Ints w B a (lim m)) (hx' : Ints w B a' (lim m')) (hy : Ints w B b (lim n)) (hy' : Ints w B b' (lim n')) (sm : Sg s m) (sm' : Sg s' m') (sn : Sg t n) (sn' : Sg t' n') (hm : (lim m).length ≤ 200) (hm' : (lim m').length ≤ 200) (hn : (lim n).length ≤ 200) (hn' : (lim n').length ≤ 200) (e1 : -5000 ≤ x) (e2 : x ≤ 5000) (e3 : -5000 ≤ x') (e4 : x' ≤ 5000) (e5 : -5000 ≤ y) (e6 : y ≤ 5000) (e7 : -5000 ≤ y') (e8 : y' ≤ 5000) (k1 : (lim m).length ≤ c) (k2 : (lim m').length ≤ c') (k3 : (lim n).length ≤ d) (k4 : (lim n').length ≤ d')
    (hP : mulW (s * (m : Int)) x (t * (n : Int)) y = (p1', lim pn, p3')) (hQ : mulW (s' * (m' : Int)) x' (t' * (n' : Int)) y' = (q1', lim qn, q3')) (hU : mulW (s * (m : Int)) x (t' * (n' : Int)) y' = (u1', lim un, u3')) (hV : mulW (s' * (m' : Int)) x' (t * (n : Int)) y = (v1', lim vn, v3')) (sp : Sg p1' pn) (sq : Sg q1' qn) (su : Sg u1' un) (sv : Sg v1' vn) (lp : (lim pn).length ≤ 400) (lq : (lim qn).length ≤ 400) (lu : (lim un).length ≤ 400) (lv : (lim vn).length ≤ 400) (y1 : -5000 ≤ p3' ∧ p3' ≤ 5000) (y2 : -5000 ≤ q3' ∧ q3' ≤ 5000) (y3 : -5000 ≤ u3' ∧ u3' ≤ 5000) (y4 : -5000 ≤ v3' ∧ v3' ≤ 5000) (hD : addW (p1' * (pn : Int)) p3' (-(q1' * (qn : Int))) q3' = (d1', lim dn, d3')) (hE : addW (u1' * (un : Int)) u3' (v1' * (vn : Int)) v3' = (e1', lim en, e3')) :
    Calls Tryz.prog 80 #[.agg #[.int .i64 s, .slice a (lim m).length c, .int .i64 x, .int .i64 s', .slice a' (lim m').length c', .int .i64 x'], .agg #[.int .i64 t, .slice b (lim n).length d, .int .i64 y, .int .i64 t', .slice b' (lim n').length d', .int .i64 y']] w (RetEE d1' (lim dn) d3' e1' (lim en) e3' w) := by
  obtain ⟨W0, hW0⟩ : ∃ W0 : World, ((w.alloc (.cells #[.int .i64 s, .slice a (lim m).length c, .int .i64 x, .int .i64 s', .slice a' (lim m').length c', .int .i64 x'] 33)).alloc (.cells #[.int .i64 t, .slice b (lim n).length d, .int .i64 y, .int .i64 t', .slice b' (lim n').length d', .int .i64 y'] 33)).alloc (.cells #[.int .i64 0, .slice none 0 0, .int .i64 0, .int .i64 0, .slice none 0 0, .int .i64 0] 33) = W0 := ⟨_, rfl⟩
  obtain ⟨p1, p2, p5, p3, p4⟩ := three_boxT w 33 33 33 #[.int .i64 s, .slice a (lim m).length c, .int .i64 x, .int .i64 s', .slice a' (lim m').length c', .int .i64 x'] #[.int .i64 t, .slice b (lim n).length d, .int .i64 y, .int .i64 t', .slice b' (lim n').length d', .int .i64 y'] #[.int .i64 0, .slice none 0 0, .int .i64 0, .int .i64 0, .slice none 0 0, .int .i64 0]
  rw [hW0] at p1 p2 p3 p4 p5
  have HW0 := Lib.hid hW0
  have P3 := Lib.hid p3
  have P4 := Lib.hid p4
  have BX1 := Lib.hid p1
  have BX2 := Lib.hid p2
  have SS := Lib.hid (show ∀ W, Below W0.heap.size W0 W → (W.cell? ⟨w.heap.size, 0, none⟩ = some (.int .i64 s) ∧ W.cell? ⟨w.heap.size, 1, none⟩ = some (.slice a (lim m).length c) ∧ W.cell? ⟨w.heap.size, 2, none⟩ = some (.int .i64 x) ∧ W.cell? ⟨w.heap.size, 3, none⟩ = some (.int .i64 s') ∧ W.cell? ⟨w.heap.size, 4, none⟩ = some (.slice a' (lim m').length c') ∧ W.cell? ⟨w.heap.size, 5, none⟩ = some (.int .i64 x') ∧ W.cell? ⟨w.heap.size + 1, 0, none⟩ = some (.int .i64 t) ∧ W.cell? ⟨w.heap.size + 1, 1, none⟩ = some (.slice b (lim n).length d) ∧ W.cell? ⟨w.heap.size + 1, 2, none⟩ = some (.int .i64 y) ∧ W.cell? ⟨w.heap.size + 1, 3, none⟩ = some (.int .i64 t') ∧ W.cell? ⟨w.heap.size + 1, 4, none⟩ = some (.slice b' (lim n').length d') ∧ W.cell? ⟨w.heap.size + 1, 5, none⟩ = some (.int .i64 y')) from fun W hW => by
    have k1 := p1.below hW
    have k2 := p2.below hW
    exact ⟨k1.cell 0, k1.cell 1, k1.cell 2, k1.cell 3, k1.cell 4, k1.cell 5, k2.cell 0, k2.cell 1, k2.cell 2, k2.cell 3, k2.cell 4, k2.cell 5⟩)
  have SR := Lib.hid (show ∀ W, Below W0.heap.size W0 W → BoxAt W (w.heap.size + 1 + 1) 33 #[.int .i64 0, .slice none 0 0, .int .i64 0, .int .i64 0, .slice none 0 0, .int .i64 0] from fun W hW => p5.below hW)
  have hT : Below W0.heap.size W0 W0 := Below.refl _ _
  have IX := Lib.hid (show ∀ W, Below W0.heap.size W0 W → Ints W B a (lim m) ∧ Ints W B a' (lim m') ∧ Ints W B b (lim n) ∧ Ints W B b' (lim n') ∧ B ≤ W.heap.size from fun W hW => ⟨hx.below ((p3.mono hB).trans (hW.mono (by omega))), hx'.below ((p3.mono hB).trans (hW.mono (by omega))), hy.below ((p3.mono hB).trans (hW.mono (by omega))), hy'.below ((p3.mono hB).trans (hW.mono (by omega))), by have := hW.size; omega⟩)
  have HM1 := Lib.hid (show ∀ W, Below W0.heap.size W0 W → Calls Tryz.prog 78 #[.agg #[.int .i64 s, .slice a (lim m).length c, .int .i64 x], .agg #[.int .i64 t, .slice b (lim n).length d, .int .i64 y]] W fun e w' => ∃ a c, e = .returned (.agg #[.int .i64 p1', .slice a (lim pn).length c, .int .i64 p3']) ∧ (lim pn).length ≤ c ∧ Own w' W.heap.size a (lim pn) ∧ Below W.heap.size W w' ∧ Below W0.heap.size W0 w' from
    fun W hW => by
      have := sMul3 s a m c x t b n d y W B B (IX.out W hW).2.2.2.2 (IX.out W hW).2.2.2.2 (IX.out W hW).1 (IX.out W hW).2.2.1 sm sn (by omega) (by omega) (by omega) (by omega) (by omega) (by omega)
      rw [hP] at this
      exact this.mono fun e w' ⟨a, c, he, hc, ho, hb⟩ => ⟨a, c, he, hc, ho, hb, hW.trans (hb.mono hW.size)⟩)
  have HM2 := Lib.hid (show ∀ W, Below W0.heap.size W0 W → Calls Tryz.prog 78 #[.agg #[.int .i64 s', .slice a' (lim m').length c', .int .i64 x'], .agg #[.int .i64 t', .slice b' (lim n').length d', .int .i64 y']] W fun e w' => ∃ a c, e = .returned (.agg #[.int .i64 q1', .slice a (lim qn).length c, .int .i64 q3']) ∧ (lim qn).length ≤ c ∧ Own w' W.heap.size a (lim qn) ∧ Below W.heap.size W w' ∧ Below W0.heap.size W0 w' from
    fun W hW => by
      have := sMul3 s' a' m' c' x' t' b' n' d' y' W B B (IX.out W hW).2.2.2.2 (IX.out W hW).2.2.2.2 (IX.out W hW).2.1 (IX.out W hW).2.2.2.1 sm' sn' (by omega) (by omega) (by omega) (by omega) (by omega) (by omega)
      rw [hQ] at this
      exact this.mono fun e w' ⟨a, c, he, hc, ho, hb⟩ => ⟨a, c, he, hc, ho, hb, hW.trans (hb.mono hW.size)⟩)
  have HM3 := Lib.hid (show ∀ W, Below W0.heap.size W0 W → Calls Tryz.prog 78 #[.agg #[.int .i64 s, .slice a (lim m).length c, .int .i64 x], .agg #[.int .i64 t', .slice b' (lim n').length d', .int .i64 y']] W fun e w' => ∃ a c, e = .returned (.agg #[.int .i64 u1', .slice a (lim un).length c, .int .i64 u3']) ∧ (lim un).length ≤ c ∧ Own w' W.heap.size a (lim un) ∧ Below W.heap.size W w' ∧ Below W0.heap.size W0 w' from
    fun W hW => by
      have := sMul3 s a m c x t' b' n' d' y' W B B (IX.out W hW).2.2.2.2 (IX.out W hW).2.2.2.2 (IX.out W hW).1 (IX.out W hW).2.2.2.1 sm sn' (by omega) (by omega) (by omega) (by omega) (by omega) (by omega)
      rw [hU] at this
      exact this.mono fun e w' ⟨a, c, he, hc, ho, hb⟩ => ⟨a, c, he, hc, ho, hb, hW.trans (hb.mono hW.size)⟩)
  have HM4 := Lib.hid (show ∀ W, Below W0.heap.size W0 W → Calls Tryz.prog 78 #[.agg #[.int .i64 s', .slice a' (lim m').length c', .int .i64 x'], .agg #[.int .i64 t, .slice b (lim n).length d, .int .i64 y]] W fun e w' => ∃ a c, e = .returned (.agg #[.int .i64 v1', .slice a (lim vn).length c, .int .i64 v3']) ∧ (lim vn).length ≤ c ∧ Own w' W.heap.size a (lim vn) ∧ Below W.heap.size W w' ∧ Below W0.heap.size W0 w' from
    fun W hW => by
      have := sMul3 s' a' m' c' x' t b n d y W B B (IX.out W hW).2.2.2.2 (IX.out W hW).2.2.2.2 (IX.out W hW).2.1 (IX.out W hW).2.2.1 sm' sn (by omega) (by omega) (by omega) (by omega) (by omega) (by omega)
      rw [hV] at this
      exact this.mono fun e w' ⟨a, c, he, hc, ho, hb⟩ => ⟨a, c, he, hc, ho, hb, hW.trans (hb.mono hW.size)⟩)
  have HD1 := Lib.hid (show ∀ (a b : Option Addr) (c d : Nat) W lo lo', Own W lo a (lim pn) → Own W lo' b (lim qn) → (lim pn).length ≤ c → (lim qn).length ≤ d → Calls Tryz.prog 146 #[.agg #[.int .i64 p1', .slice a (lim pn).length c, .int .i64 p3'], .agg #[.int .i64 q1', .slice b (lim qn).length d, .int .i64 q3']] W fun e w' => ∃ a c, e = .returned (.agg #[.int .i64 d1', .slice a (lim dn).length c, .int .i64 d3']) ∧ (lim dn).length ≤ c ∧ Own w' W.heap.size a (lim dn) ∧ Below W.heap.size W w' from
    fun a b c d W lo lo' ho hp h1 h2 => by
      have := sSub3 p1' a pn c p3' q1' b qn d q3' W _ _ (Nat.le_refl _) (Nat.le_refl _) ho.ints hp.ints sp sq lp lq (by omega) (by omega) (by omega) (by omega) h1 h2
      rw [hD] at this
      exact this.mono fun e w' ⟨a, c, he, hc, ho, hb⟩ => ⟨a, c, he, hc, ho, hb⟩)
  have HD2 := Lib.hid (show ∀ (a b : Option Addr) (c d : Nat) W lo lo', Own W lo a (lim un) → Own W lo' b (lim vn) → (lim un).length ≤ c → (lim vn).length ≤ d → Calls Tryz.prog 147 #[.agg #[.int .i64 u1', .slice a (lim un).length c, .int .i64 u3'], .agg #[.int .i64 v1', .slice b (lim vn).length d, .int .i64 v3']] W fun e w' => ∃ a c, e = .returned (.agg #[.int .i64 e1', .slice a (lim en).length c, .int .i64 e3']) ∧ (lim en).length ≤ c ∧ Own w' W.heap.size a (lim en) ∧ Below W.heap.size W w' from
    fun a b c d W lo lo' ho hp h1 h2 => by
      have := sAdd3 u1' a un c u3' v1' b vn d v3' W _ _ (Nat.le_refl _) (Nat.le_refl _) ho.ints hp.ints su sv lu lv (by omega) (by omega) (by omega) (by omega) h1 h2
      rw [hE] at this
      exact this.mono fun e w' ⟨a, c, he, hc, ho, hb⟩ => ⟨a, c, he, hc, ho, hb⟩)
  have HS1 := Lib.hid (show ∀ (a b : Option Addr) (c d : Nat) W lo lo', Below W0.heap.size W0 W → Own W lo a (lim pn) → Own W lo' b (lim qn) → (lim pn).length ≤ c → (lim qn).length ≤ d → Calls Tryz.prog 146 #[.agg #[.int .i64 p1', .slice a (lim pn).length c, .int .i64 p3'], .agg #[.int .i64 q1', .slice b (lim qn).length d, .int .i64 q3']] W fun e w' => ∃ a c, e = .returned (.agg #[.int .i64 d1', .slice a (lim dn).length c, .int .i64 d3']) ∧ (lim dn).length ≤ c ∧ Own w' W.heap.size a (lim dn) ∧ Below W.heap.size W w' ∧ Below W0.heap.size W0 w' from
    fun a b c d W lo lo' hW ho hp h1 h2 => (HD1.out a b c d W lo lo' ho hp h1 h2).mono fun e w' ⟨a, c, he, hc, ho, hb⟩ => ⟨a, c, he, hc, ho, hb, hW.trans (hb.mono hW.size)⟩)
  clear p1 p2 p3 p4 p5 hx hx' hy hy' hW0 hB IX sm sm' sn sn' hm hm' hn hn' e1 e2 e3 e4 e5 e6 e7 e8 hP hQ hU hV sp sq su sv lp lq lu lv y1 y2 y3 y4 hD hE k1 k2 k3 k4 HD1
  obtain ⟨k1, k2, k3, k4, k5, k6, k7, k8, k9, k10, k11, k12⟩ := SS.out _ hT
  go_enter Tryz.func80, Tryz.ntmps80
  go_wp2_with fail
  rw [HW0.out]
  have hsz0 := hT.size
  have hTd := hT.drew
  go_cut [5] (fun p W => ∃ hi, ResY W0 W p d1' (lim dn) d3' hi)
  case first =>
    clear k1 k2 k3 k4 k5 k6 k7 k8 k9 k10 k11 k12
    go_region_held3 (fun W => W.cell? ⟨w.heap.size, 0, none⟩ = some (.int .i64 s) ∧ W.cell? ⟨w.heap.size, 1, none⟩ = some (.slice a (lim m).length c) ∧ W.cell? ⟨w.heap.size, 2, none⟩ = some (.int .i64 x) ∧ W.cell? ⟨w.heap.size, 3, none⟩ = some (.int .i64 s') ∧ W.cell? ⟨w.heap.size, 4, none⟩ = some (.slice a' (lim m').length c') ∧ W.cell? ⟨w.heap.size, 5, none⟩ = some (.int .i64 x') ∧ W.cell? ⟨w.heap.size + 1, 0, none⟩ = some (.int .i64 t) ∧ W.cell? ⟨w.heap.size + 1, 1, none⟩ = some (.slice b (lim n).length d) ∧ W.cell? ⟨w.heap.size + 1, 2, none⟩ = some (.int .i64 y) ∧ W.cell? ⟨w.heap.size + 1, 3, none⟩ = some (.int .i64 t') ∧ W.cell? ⟨w.heap.size + 1, 4, none⟩ = some (.slice b' (lim n').length d') ∧ W.cell? ⟨w.heap.size + 1, 5, none⟩ = some (.int .i64 y'))
      (exact SS.out _ (by with_reducible first | assumption | exact below_alloc (by assumption) _ | exact below_allocd (by assumption) _ | exact below_set3 (by assumption) (by omega) _ _ _))
      (first
      | (go_at_call 78; with_reducible refine (HM1.out _ (by with_reducible first | assumption | exact below_alloc (by assumption) _ | exact below_allocd (by assumption) _ | exact below_set3 (by assumption) (by omega) _ _ _)).mono ?_; rintro e v1 ⟨x1, f1, rfl, hc1, ho1, hbb1, hbz1⟩; have hsz1 := hbz1.size; have hsy1 := hbb1.size; (try simp at hsy1); have hk1 := fun g cs (h : BoxAt _ g 31 cs) => BoxAt.below h hbb1)
      | (go_at_call 78; with_reducible refine (HM2.out _ (by with_reducible first | assumption | exact below_alloc (by assumption) _ | exact below_allocd (by assumption) _ | exact below_set3 (by assumption) (by omega) _ _ _)).mono ?_; rintro e v2 ⟨x2, f2, rfl, hc2, ho2, hbb2, hbz2⟩; have hsz2 := hbz2.size; have hsy2 := hbb2.size; (try simp at hsy2); have hk2 := fun g cs (h : BoxAt _ g 31 cs) => BoxAt.below h hbb2; have ho12 := Own.below (by with_reducible first | exact ho1 | exact Own.alloc ho1 _) hbb2)
      | (go_at_call 146; with_reducible refine (HS1.out _ _ _ _ _ _ _ (by with_reducible first | assumption | exact below_alloc (by assumption) _ | exact below_allocd (by assumption) _ | exact below_set3 (by assumption) (by omega) _ _ _) (by with_reducible first | exact ho12 | exact Own.alloc ho12 _) (by with_reducible first | exact ho2 | exact Own.alloc ho2 _) hc1 hc2).mono ?_; rintro e v3 ⟨x3, f3, rfl, hc3, ho3, hbb3, hbz3⟩; have hsz3 := hbz3.size; have hsy3 := hbb3.size; (try simp at hsy3); (first | (with_reducible have hq := BoxAt.below (BoxAt.new v2 _ _) hbb3; obtain ⟨g1, g2, g3, g4, g5, g6⟩ := BoxAt.tri6 hq) | (with_reducible have hq := BoxAt.below (hk2 _ _ (BoxAt.new v1 _ _)) hbb3; obtain ⟨g1, g2, g3, g4, g5, g6⟩ := BoxAt.tri6 hq) | (with_reducible have hq := BoxAt.below (hk2 _ _ (hk1 _ _ (BoxAt.newd W0 _ _))) hbb3; obtain ⟨g1, g2, g3, g4, g5, g6⟩ := BoxAt.tri6 hq) | skip)))
    all_goals
      go_wp2_with fail
      go_meet
      with_reducible first
      | exact ⟨_, ResY.mk1 hbz3 ho3 (by first | omega | (simp; omega) | simp) hc3 rfl⟩
      | exact ⟨_, ResY.mk2 hq (by first | omega | (simp; done) | (simp; omega)) hbz3 ho3 (by first | omega | (simp; done) | (simp; omega)) hc3⟩
  case rest =>
    obtain ⟨hi6, hres⟩ := hcut
    obtain ⟨g6, a6, c6, rfl, hg6, hh6, hx6, hc6, ho6⟩ := hres.ex
    have hne6 : g6 ≠ w.heap.size + 1 + 1 := by have := P4.out; omega
    have SS6 := Lib.hid (show ∀ W, Below wc.heap.size wc W → (W.cell? ⟨w.heap.size, 0, none⟩ = some (.int .i64 s) ∧ W.cell? ⟨w.heap.size, 1, none⟩ = some (.slice a (lim m).length c) ∧ W.cell? ⟨w.heap.size, 2, none⟩ = some (.int .i64 x) ∧ W.cell? ⟨w.heap.size, 3, none⟩ = some (.int .i64 s') ∧ W.cell? ⟨w.heap.size, 4, none⟩ = some (.slice a' (lim m').length c') ∧ W.cell? ⟨w.heap.size, 5, none⟩ = some (.int .i64 x') ∧ W.cell? ⟨w.heap.size + 1, 0, none⟩ = some (.int .i64 t) ∧ W.cell? ⟨w.heap.size + 1, 1, none⟩ = some (.slice b (lim n).length d) ∧ W.cell? ⟨w.heap.size + 1, 2, none⟩ = some (.int .i64 y) ∧ W.cell? ⟨w.heap.size + 1, 3, none⟩ = some (.int .i64 t') ∧ W.cell? ⟨w.heap.size + 1, 4, none⟩ = some (.slice b' (lim n').length d') ∧ W.cell? ⟨w.heap.size + 1, 5, none⟩ = some (.int .i64 y') ∧ W.cell? ⟨g6, 0, none⟩ = some (.int .i64 d1') ∧ W.cell? ⟨g6, 1, none⟩ = some (.slice a6 (lim dn).length c6) ∧ W.cell? ⟨g6, 2, none⟩ = some (.int .i64 d3')) from fun W hW => by
      have h0 := hres.bel.trans (hW.mono hres.bel.size)
      have k1 := BX1.out.below h0
      have k2 := BX2.out.below h0
      have k3 := hx6.below hW
      exact ⟨k1.cell 0, k1.cell 1, k1.cell 2, k1.cell 3, k1.cell 4, k1.cell 5, k2.cell 0, k2.cell 1, k2.cell 2, k2.cell 3, k2.cell 4, k2.cell 5, k3.cell 0, k3.cell 1, k3.cell 2⟩)
    have ST6 := Lib.hid (show ∀ W u0 u1 u2 u3 u4 u5, Below wc.heap.size wc W → (fun W : World => W.cell? ⟨w.heap.size, 0, none⟩ = some (.int .i64 s) ∧ W.cell? ⟨w.heap.size, 1, none⟩ = some (.slice a (lim m).length c) ∧ W.cell? ⟨w.heap.size, 2, none⟩ = some (.int .i64 x) ∧ W.cell? ⟨w.heap.size, 3, none⟩ = some (.int .i64 s') ∧ W.cell? ⟨w.heap.size, 4, none⟩ = some (.slice a' (lim m').length c') ∧ W.cell? ⟨w.heap.size, 5, none⟩ = some (.int .i64 x') ∧ W.cell? ⟨w.heap.size + 1, 0, none⟩ = some (.int .i64 t) ∧ W.cell? ⟨w.heap.size + 1, 1, none⟩ = some (.slice b (lim n).length d) ∧ W.cell? ⟨w.heap.size + 1, 2, none⟩ = some (.int .i64 y) ∧ W.cell? ⟨w.heap.size + 1, 3, none⟩ = some (.int .i64 t') ∧ W.cell? ⟨w.heap.size + 1, 4, none⟩ = some (.slice b' (lim n').length d') ∧ W.cell? ⟨w.heap.size + 1, 5, none⟩ = some (.int .i64 y') ∧ W.cell? ⟨g6, 0, none⟩ = some (.int .i64 d1') ∧ W.cell? ⟨g6, 1, none⟩ = some (.slice a6 (lim dn).length c6) ∧ W.cell? ⟨g6, 2, none⟩ = some (.int .i64 d3')) ((((((W.setCell ⟨w.heap.size + 1 + 1, 0, none⟩ u0).setCell ⟨w.heap.size + 1 + 1, 1, none⟩ u1).setCell ⟨w.heap.size + 1 + 1, 2, none⟩ u2).setCell ⟨w.heap.size + 1 + 1, 3, none⟩ u3).setCell ⟨w.heap.size + 1 + 1, 4, none⟩ u4).setCell ⟨w.heap.size + 1 + 1, 5, none⟩ u5) from fun W u0 u1 u2 u3 u4 u5 hW => by
      have h0 := hres.bel.trans (hW.mono hres.bel.size)
      have k1 := far6 (BX1.out.below h0) (show w.heap.size ≠ w.heap.size + 1 + 1 by omega) u0 u1 u2 u3 u4 u5
      have k2 := far6 (BX2.out.below h0) (show w.heap.size + 1 ≠ w.heap.size + 1 + 1 by omega) u0 u1 u2 u3 u4 u5
      have k3 := far6 (hx6.below hW) hne6 u0 u1 u2 u3 u4 u5
      exact ⟨k1.cell 0, k1.cell 1, k1.cell 2, k1.cell 3, k1.cell 4, k1.cell 5, k2.cell 0, k2.cell 1, k2.cell 2, k2.cell 3, k2.cell 4, k2.cell 5, k3.cell 0, k3.cell 1, k3.cell 2⟩)
    have HN3 := Lib.hid (show ∀ W, Below wc.heap.size wc W → Calls Tryz.prog 78 #[.agg #[.int .i64 s, .slice a (lim m).length c, .int .i64 x], .agg #[.int .i64 t', .slice b' (lim n').length d', .int .i64 y']] W fun e w' => ∃ a c, e = .returned (.agg #[.int .i64 u1', .slice a (lim un).length c, .int .i64 u3']) ∧ (lim un).length ≤ c ∧ Own w' W.heap.size a (lim un) ∧ Below W.heap.size W w' ∧ Below wc.heap.size wc w' from
      fun W hW => (HM3.out W (hres.bel.trans (hW.mono hres.bel.size))).mono fun e w' ⟨a, c, he, hc, ho, hb, _⟩ => ⟨a, c, he, hc, ho, hb, hW.trans (hb.mono hW.size)⟩)
    have HN4 := Lib.hid (show ∀ W, Below wc.heap.size wc W → Calls Tryz.prog 78 #[.agg #[.int .i64 s', .slice a' (lim m').length c', .int .i64 x'], .agg #[.int .i64 t, .slice b (lim n).length d, .int .i64 y]] W fun e w' => ∃ a c, e = .returned (.agg #[.int .i64 v1', .slice a (lim vn).length c, .int .i64 v3']) ∧ (lim vn).length ≤ c ∧ Own w' W.heap.size a (lim vn) ∧ Below W.heap.size W w' ∧ Below wc.heap.size wc w' from
      fun W hW => (HM4.out W (hres.bel.trans (hW.mono hres.bel.size))).mono fun e w' ⟨a, c, he, hc, ho, hb, _⟩ => ⟨a, c, he, hc, ho, hb, hW.trans (hb.mono hW.size)⟩)
    have HA2 := Lib.hid (show ∀ (a b : Option Addr) (c d : Nat) W lo lo', Below wc.heap.size wc W → Own W lo a (lim un) → Own W lo' b (lim vn) → (lim un).length ≤ c → (lim vn).length ≤ d → Calls Tryz.prog 147 #[.agg #[.int .i64 u1', .slice a (lim un).length c, .int .i64 u3'], .agg #[.int .i64 v1', .slice b (lim vn).length d, .int .i64 v3']] W fun e w' => ∃ a c, e = .returned (.agg #[.int .i64 e1', .slice a (lim en).length c, .int .i64 e3']) ∧ (lim en).length ≤ c ∧ Own w' wc.heap.size a (lim en) ∧ Below wc.heap.size wc w' from
      fun a b c d W lo lo' hW ho hp h1 h2 => (HD2.out a b c d W lo lo' ho hp h1 h2).mono fun e w' ⟨a, c, he, hc, ho, hb⟩ => ⟨a, c, he, hc, ho.mono hW.size, hW.trans (hb.mono hW.size)⟩)
    have O6 := Lib.hid (Own2.own ho6)
    have U6 := Lib.hid hres.bel
    have HC6 := Lib.hid hc6
    have hT6 : Below wc.heap.size wc wc := Below.refl _ _
    have hT6d := hT6.drew
    clear hres hx6 ho6 hc6 HM1 HM2 HM3 HM4 HS1 HD2 hne6 BX1 BX2
    clear k1 k2 k3 k4 k5 k6 k7 k8 k9 k10 k11 k12
    obtain ⟨k1, k2, k3, k4, k5, k6, k7, k8, k9, k10, k11, k12, k13, k14, k15⟩ := SS6.out _ hT6
    go_wp2_with fail
    go_region_held3 (fun W => W.cell? ⟨w.heap.size, 0, none⟩ = some (.int .i64 s) ∧ W.cell? ⟨w.heap.size, 1, none⟩ = some (.slice a (lim m).length c) ∧ W.cell? ⟨w.heap.size, 2, none⟩ = some (.int .i64 x) ∧ W.cell? ⟨w.heap.size, 3, none⟩ = some (.int .i64 s') ∧ W.cell? ⟨w.heap.size, 4, none⟩ = some (.slice a' (lim m').length c') ∧ W.cell? ⟨w.heap.size, 5, none⟩ = some (.int .i64 x') ∧ W.cell? ⟨w.heap.size + 1, 0, none⟩ = some (.int .i64 t) ∧ W.cell? ⟨w.heap.size + 1, 1, none⟩ = some (.slice b (lim n).length d) ∧ W.cell? ⟨w.heap.size + 1, 2, none⟩ = some (.int .i64 y) ∧ W.cell? ⟨w.heap.size + 1, 3, none⟩ = some (.int .i64 t') ∧ W.cell? ⟨w.heap.size + 1, 4, none⟩ = some (.slice b' (lim n').length d') ∧ W.cell? ⟨w.heap.size + 1, 5, none⟩ = some (.int .i64 y') ∧ W.cell? ⟨g6, 0, none⟩ = some (.int .i64 d1') ∧ W.cell? ⟨g6, 1, none⟩ = some (.slice a6 (lim dn).length c6) ∧ W.cell? ⟨g6, 2, none⟩ = some (.int .i64 d3'))
      (with_reducible first | exact SS6.out _ (by assumption) | exact ST6.out _ _ _ _ _ _ _ (by assumption))
      (first
      | (go_at_call 78; with_reducible refine (HN3.out _ (by assumption)).mono ?_; rintro e v1 ⟨y1, f1, rfl, hc1, ho1, hbb1, hb1⟩)
      | (go_at_call 78; with_reducible refine (HN4.out _ (by assumption)).mono ?_; rintro e v2 ⟨y2, f2, rfl, hc2, ho2, hbb2, hb2⟩; have ho12 := Own.below ho1 hbb2)
      | (go_at_call 147; with_reducible refine (HA2.out _ _ _ _ _ _ _ (by assumption) ho12 ho2 hc1 hc2).mono ?_; rintro e v3 ⟨y3, f3, rfl, hc3, ho3, hb3⟩; have hb9 := U6.out.trans (hb3.mono U6.out.size); obtain ⟨z1, z2, z3, z4, z5, z6, z7, z8, z9, z10, z11, z12⟩ := (SR.out _ hb9).six12))
    all_goals
      have HBX := Lib.hid (SR.out _ hb9)
      have HAP := Lib.hid (apart_of O6.out ho3)
      have O9 := O6.out.below hb3
      go_wp2_with fail
      refine bodyPost_ret (v := .agg #[.int .i64 d1', .slice a6 (lim dn).length c6, .int .i64 d3', .int .i64 e1', .slice y3 (lim en).length f3, .int .i64 e3']) (by simp [results, Tryz.results80, go_sem, *]) rfl ?_
      exact ⟨_, _, _, _, rfl, HC6.out, hc3, own_boxE6 (O9.mono (by have := P4.out; omega)) HBX.out _ _ _ _ _ _, own_boxE6 (ho3.mono (by have := P4.out; have := U6.out.size; omega)) HBX.out _ _ _ _ _ _, HAP.out, Below.set6 (P3.out.trans (hb9.mono (by have := P4.out; omega))) (by omega) _ _ _ _ _ _⟩

set_option maxRecDepth 100000 in
set_option maxHeartbeats 8000000 in
theorem sMultiplyExacts (s : Int) (a : Option Addr) (xs : List Int) (c : Nat) (x : Int) (s' : Int) (a' : Option Addr) (xs' : List Int) (c' : Nat) (x' : Int) (t : Int) (b : Option Addr) (ys : List Int) (d : Nat) (y : Int) (t' : Int) (b' : Option Addr) (ys' : List Int) (d' : Nat) (y' : Int) (w : World) (B : Nat) (hB : B ≤ w.heap.size) (hx : Ints w B a xs) (hx' : Ints w B a' xs') (hy : Ints w B b ys) (hy' : Ints w B b' ys') (hl : xs.length ≤ 9223372036854775807) (hl' : xs'.length ≤ 9223372036854775807) (hk : ys.length ≤ 9223372036854775807) (hk' : ys'.length ≤ 9223372036854775807) (kc : xs.length ≤ c) (kc' : xs'.length ≤ c') (kd : ys.length ≤ d) (kd' : ys'.length ≤ d') :
    Calls Tryz.prog 15 #[.agg #[.int .i64 s, .slice a xs.length c, .int .i64 x, .int .i64 s', .slice a' xs'.length c', .int .i64 x'], .agg #[.int .i64 t, .slice b ys.length d, .int .i64 y, .int .i64 t', .slice b' ys'.length d', .int .i64 y']] w (RetEP (exY muF s xs x s' xs' x' t ys y t' ys' y') w.heap.size w) := by
  obtain ⟨W0, hW0⟩ : ∃ W0 : World, ((w.alloc (.cells #[.int .i64 s, .slice a xs.length c, .int .i64 x, .int .i64 s', .slice a' xs'.length c', .int .i64 x'] 33)).alloc (.cells #[.int .i64 t, .slice b ys.length d, .int .i64 y, .int .i64 t', .slice b' ys'.length d', .int .i64 y'] 33)).alloc (.cells #[.int .i64 0, .slice none 0 0, .int .i64 0, .int .i64 0, .slice none 0 0, .int .i64 0] 33) = W0 := ⟨_, rfl⟩
  obtain ⟨p1, p2, p5, p3, p4⟩ := three_boxT w 33 33 33 #[.int .i64 s, .slice a xs.length c, .int .i64 x, .int .i64 s', .slice a' xs'.length c', .int .i64 x'] #[.int .i64 t, .slice b ys.length d, .int .i64 y, .int .i64 t', .slice b' ys'.length d', .int .i64 y'] #[.int .i64 0, .slice none 0 0, .int .i64 0, .int .i64 0, .slice none 0 0, .int .i64 0]
  rw [hW0] at p1 p2 p3 p4 p5
  have HW0 := Lib.hid hW0
  have P3 := Lib.hid p3
  have P4 := Lib.hid p4
  have SS := Lib.hid (show ∀ W, Below W0.heap.size W0 W → (W.cell? ⟨w.heap.size, 0, none⟩ = some (.int .i64 s) ∧ W.cell? ⟨w.heap.size, 1, none⟩ = some (.slice a xs.length c) ∧ W.cell? ⟨w.heap.size, 2, none⟩ = some (.int .i64 x) ∧ W.cell? ⟨w.heap.size, 3, none⟩ = some (.int .i64 s') ∧ W.cell? ⟨w.heap.size, 4, none⟩ = some (.slice a' xs'.length c') ∧ W.cell? ⟨w.heap.size, 5, none⟩ = some (.int .i64 x') ∧ W.cell? ⟨w.heap.size + 1, 0, none⟩ = some (.int .i64 t) ∧ W.cell? ⟨w.heap.size + 1, 1, none⟩ = some (.slice b ys.length d) ∧ W.cell? ⟨w.heap.size + 1, 2, none⟩ = some (.int .i64 y) ∧ W.cell? ⟨w.heap.size + 1, 3, none⟩ = some (.int .i64 t') ∧ W.cell? ⟨w.heap.size + 1, 4, none⟩ = some (.slice b' ys'.length d') ∧ W.cell? ⟨w.heap.size + 1, 5, none⟩ = some (.int .i64 y')) from fun W hW => ⟨(p1.below hW).cell 0, (p1.below hW).cell 1, (p1.below hW).cell 2, (p1.below hW).cell 3, (p1.below hW).cell 4, (p1.below hW).cell 5, (p2.below hW).cell 0, (p2.below hW).cell 1, (p2.below hW).cell 2, (p2.below hW).cell 3, (p2.below hW).cell 4, (p2.below hW).cell 5⟩)
  have SR := Lib.hid (show ∀ W, Below W0.heap.size W0 W → BoxAt W (w.heap.size + 1 + 1) 33 #[.int .i64 0, .slice none 0 0, .int .i64 0, .int .i64 0, .slice none 0 0, .int .i64 0] from fun W hW => p5.below hW)
  have hT : Below W0.heap.size W0 W0 := Below.refl _ _
  have IX := Lib.hid (show ∀ W, Below W0.heap.size W0 W → Ints W B a xs ∧ Ints W B a' xs' ∧ Ints W B b ys ∧ Ints W B b' ys' ∧ B ≤ W.heap.size from fun W hW => ⟨hx.below ((p3.mono hB).trans (hW.mono (by omega))), hx'.below ((p3.mono hB).trans (hW.mono (by omega))), hy.below ((p3.mono hB).trans (hW.mono (by omega))), hy'.below ((p3.mono hB).trans (hW.mono (by omega))), by have := hW.size; omega⟩)
  have HV1 := Lib.hid (show ∀ W, Below W0.heap.size W0 W → Calls Tryz.prog 76 #[.agg #[.int .i64 s, .slice a xs.length c, .int .i64 x, .int .i64 s', .slice a' xs'.length c', .int .i64 x']] W fun e w' => e = .returned (.bool (dyB s xs x && dyB s' xs' x')) ∧ Below W0.heap.size W0 w' from
    fun W hW => (sPairE s a xs c x s' a' xs' c' x' W B (IX.out W hW).2.2.2.2 hl hl' (IX.out W hW).1 (IX.out W hW).2.1).mono fun e w' ⟨he, hb⟩ => ⟨he, hW.trans (hb.mono hW.size)⟩)
  have HV2 := Lib.hid (show ∀ W, Below W0.heap.size W0 W → Calls Tryz.prog 76 #[.agg #[.int .i64 t, .slice b ys.length d, .int .i64 y, .int .i64 t', .slice b' ys'.length d', .int .i64 y']] W fun e w' => e = .returned (.bool (dyB t ys y && dyB t' ys' y')) ∧ Below W0.heap.size W0 w' from
    fun W hW => (sPairE t b ys d y t' b' ys' d' y' W B (IX.out W hW).2.2.2.2 hk hk' (IX.out W hW).2.2.1 (IX.out W hW).2.2.2.1).mono fun e w' ⟨he, hb⟩ => ⟨he, hW.trans (hb.mono hW.size)⟩)
  obtain ⟨k1, k2, k3, k4, k5, k6, k7, k8, k9, k10, k11, k12⟩ := SS.out _ hT
  cases h1 : dyB s xs x && dyB s' xs' x'
  · rw [exY_no (fun h => by rw [h.1] at h1; cases h1)]
    rw [h1] at HV1
    clear p1 p2 p3 p4 p5 hx hx' hy hy' hW0 hB hl hl' hk hk' IX kc kc' kd kd' h1
    go_enter Tryz.func15, Tryz.ntmps15
    go_wp2_with fail
    rw [HW0.out]
    refine (HV1.out _ hT).mono ?_
    rintro e w1 ⟨rfl, hb⟩
    clear k1 k2 k3 k4 k5 k6 k7 k8 k9 k10 k11 k12
    obtain ⟨k1, k2, k3, k4, k5, k6, k7, k8, k9, k10, k11, k12⟩ := SS.out _ hb
    obtain ⟨q1', q2', q3', q4', q5', q6', q7', q8', q9', q10', q11', q12'⟩ := (SR.out _ hb).six12
    clear k1 k2 k3 k4 k5 k6 k7 k8 k9 k10 k11 k12
    go_wp2_with fail
    refine bodyPost_ret (v := .tuple #[.agg #[.int .i64 0, .slice none 0 0, .int .i64 0, .int .i64 0, .slice none 0 0, .int .i64 0], .int .i64 1]) (by simp [results, Tryz.results15, go_sem, *]) rfl ?_
    exact retEC_zero (g := w.heap.size + 1 + 1) 1 P3.out P4.out hb (by omega) _ _ _ _ _ _
  · cases h2 : dyB t ys y && dyB t' ys' y'
    · rw [exY_no (fun h => by rw [h.2] at h2; cases h2)]
      rw [h1] at HV1
      rw [h2] at HV2
      clear p1 p2 p3 p4 p5 hx hx' hy hy' hW0 hB hl hl' hk hk' IX kc kc' kd kd' h1 h2
      go_enter Tryz.func15, Tryz.ntmps15
      go_wp2_with fail
      rw [HW0.out]
      refine (HV1.out _ hT).mono ?_
      rintro e w1 ⟨rfl, hb⟩
      clear k1 k2 k3 k4 k5 k6 k7 k8 k9 k10 k11 k12
      obtain ⟨k1, k2, k3, k4, k5, k6, k7, k8, k9, k10, k11, k12⟩ := SS.out _ hb
      go_wp2_with fail
      refine (HV2.out _ hb).mono ?_
      rintro e w2 ⟨rfl, hb2⟩
      clear k1 k2 k3 k4 k5 k6 k7 k8 k9 k10 k11 k12
      obtain ⟨k1, k2, k3, k4, k5, k6, k7, k8, k9, k10, k11, k12⟩ := SS.out _ hb2
      obtain ⟨q1', q2', q3', q4', q5', q6', q7', q8', q9', q10', q11', q12'⟩ := (SR.out _ hb2).six12
      clear k1 k2 k3 k4 k5 k6 k7 k8 k9 k10 k11 k12
      go_wp2_with fail
      refine bodyPost_ret (v := .tuple #[.agg #[.int .i64 0, .slice none 0 0, .int .i64 0, .int .i64 0, .slice none 0 0, .int .i64 0], .int .i64 1]) (by simp [results, Tryz.results15, go_sem, *]) rfl ?_
      exact retEC_zero (g := w.heap.size + 1 + 1) 1 P3.out P4.out hb2 (by omega) _ _ _ _ _ _
    · rw [exY_yes h1 h2]
      obtain ⟨g1, g2⟩ := both_yes h1
      obtain ⟨g3, g4⟩ := both_yes h2
      obtain ⟨m, rfl, hm, sm, e1, e2⟩ := isDy_of (dyB_iff.1 g1)
      obtain ⟨m', rfl, hm', sm', e3, e4⟩ := isDy_of (dyB_iff.1 g2)
      obtain ⟨n, rfl, hn, sn, e5, e6⟩ := isDy_of (dyB_iff.1 g3)
      obtain ⟨n', rfl, hn', sn', e7, e8⟩ := isDy_of (dyB_iff.1 g4)
      rw [h1] at HV1
      rw [h2] at HV2
      rw [zv_lim, zv_lim, zv_lim, zv_lim, muF]
      obtain ⟨p1', pn, p3', hP, sp, lp⟩ := mulW_form (x := x) (y := y) sm sn hm hn
      obtain ⟨q1', qn, q3', hQ, sq, lq⟩ := mulW_form (x := x') (y := y') sm' sn' hm' hn'
      obtain ⟨u1', un, u3', hU, su, lu⟩ := mulW_form (x := x) (y := y') sm sn' hm hn'
      obtain ⟨v1', vn, v3', hV, sv, lv⟩ := mulW_form (x := x') (y := y) sm' sn hm' hn
      rw [hP, hQ, hU, hV]
      have HM1 := Lib.hid (show ∀ W, Below W0.heap.size W0 W → Calls Tryz.prog 78 #[.agg #[.int .i64 s, .slice a (lim m).length c, .int .i64 x], .agg #[.int .i64 t, .slice b (lim n).length d, .int .i64 y]] W fun e w' => ∃ a c, e = .returned (.agg #[.int .i64 p1', .slice a (lim pn).length c, .int .i64 p3']) ∧ (lim pn).length ≤ c ∧ Own w' W.heap.size a (lim pn) ∧ Below W.heap.size W w' ∧ Below W0.heap.size W0 w' from
        fun W hW => by
          have := sMul3 s a m c x t b n d y W B B (IX.out W hW).2.2.2.2 (IX.out W hW).2.2.2.2 (IX.out W hW).1 (IX.out W hW).2.2.1 sm sn (by omega) (by omega) (by omega) (by omega) (by omega) (by omega)
          rw [hP] at this
          exact this.mono fun e w' ⟨a, c, he, hc, ho, hb⟩ => ⟨a, c, he, hc, ho, hb, hW.trans (hb.mono hW.size)⟩)
      have HM2 := Lib.hid (show ∀ W, Below W0.heap.size W0 W → Calls Tryz.prog 78 #[.agg #[.int .i64 s', .slice a' (lim m').length c', .int .i64 x'], .agg #[.int .i64 t', .slice b' (lim n').length d', .int .i64 y']] W fun e w' => ∃ a c, e = .returned (.agg #[.int .i64 q1', .slice a (lim qn).length c, .int .i64 q3']) ∧ (lim qn).length ≤ c ∧ Own w' W.heap.size a (lim qn) ∧ Below W.heap.size W w' ∧ Below W0.heap.size W0 w' from
        fun W hW => by
          have := sMul3 s' a' m' c' x' t' b' n' d' y' W B B (IX.out W hW).2.2.2.2 (IX.out W hW).2.2.2.2 (IX.out W hW).2.1 (IX.out W hW).2.2.2.1 sm' sn' (by omega) (by omega) (by omega) (by omega) (by omega) (by omega)
          rw [hQ] at this
          exact this.mono fun e w' ⟨a, c, he, hc, ho, hb⟩ => ⟨a, c, he, hc, ho, hb, hW.trans (hb.mono hW.size)⟩)
      have HM3 := Lib.hid (show ∀ W, Below W0.heap.size W0 W → Calls Tryz.prog 78 #[.agg #[.int .i64 s, .slice a (lim m).length c, .int .i64 x], .agg #[.int .i64 t', .slice b' (lim n').length d', .int .i64 y']] W fun e w' => ∃ a c, e = .returned (.agg #[.int .i64 u1', .slice a (lim un).length c, .int .i64 u3']) ∧ (lim un).length ≤ c ∧ Own w' W.heap.size a (lim un) ∧ Below W.heap.size W w' ∧ Below W0.heap.size W0 w' from
        fun W hW => by
          have := sMul3 s a m c x t' b' n' d' y' W B B (IX.out W hW).2.2.2.2 (IX.out W hW).2.2.2.2 (IX.out W hW).1 (IX.out W hW).2.2.2.1 sm sn' (by omega) (by omega) (by omega) (by omega) (by omega) (by omega)
          rw [hU] at this
          exact this.mono fun e w' ⟨a, c, he, hc, ho, hb⟩ => ⟨a, c, he, hc, ho, hb, hW.trans (hb.mono hW.size)⟩)
      have HM4 := Lib.hid (show ∀ W, Below W0.heap.size W0 W → Calls Tryz.prog 78 #[.agg #[.int .i64 s', .slice a' (lim m').length c', .int .i64 x'], .agg #[.int .i64 t, .slice b (lim n).length d, .int .i64 y]] W fun e w' => ∃ a c, e = .returned (.agg #[.int .i64 v1', .slice a (lim vn).length c, .int .i64 v3']) ∧ (lim vn).length ≤ c ∧ Own w' W.heap.size a (lim vn) ∧ Below W.heap.size W w' ∧ Below W0.heap.size W0 w' from
        fun W hW => by
          have := sMul3 s' a' m' c' x' t b n d y W B B (IX.out W hW).2.2.2.2 (IX.out W hW).2.2.2.2 (IX.out W hW).2.1 (IX.out W hW).2.2.1 sm' sn (by omega) (by omega) (by omega) (by omega) (by omega) (by omega)
          rw [hV] at this
          exact this.mono fun e w' ⟨a, c, he, hc, ho, hb⟩ => ⟨a, c, he, hc, ho, hb, hW.trans (hb.mono hW.size)⟩)
      have HI1 := Lib.hid (show ∀ (a : Option Addr) (c : Nat) W lo, Below W0.heap.size W0 W → Own W lo a (lim pn) → Calls Tryz.prog 77 #[.agg #[.int .i64 p1', .slice a (lim pn).length c, .int .i64 p3']] W fun e w' => e = .returned (.bool (dyB p1' (lim pn) p3')) ∧ Below W0.heap.size W0 w' from
        fun a c W lo hW ho => (sDy p1' a (lim pn) c p3' W W.heap.size (Nat.le_refl _) (by omega) ho.ints).mono fun e w' ⟨he, hb⟩ => ⟨he, hW.trans (hb.mono hW.size)⟩)
      have HI2 := Lib.hid (show ∀ (a : Option Addr) (c : Nat) W lo, Below W0.heap.size W0 W → Own W lo a (lim qn) → Calls Tryz.prog 77 #[.agg #[.int .i64 q1', .slice a (lim qn).length c, .int .i64 q3']] W fun e w' => e = .returned (.bool (dyB q1' (lim qn) q3')) ∧ Below W0.heap.size W0 w' from
        fun a c W lo hW ho => (sDy q1' a (lim qn) c q3' W W.heap.size (Nat.le_refl _) (by omega) ho.ints).mono fun e w' ⟨he, hb⟩ => ⟨he, hW.trans (hb.mono hW.size)⟩)
      have HI3 := Lib.hid (show ∀ (a : Option Addr) (c : Nat) W lo, Below W0.heap.size W0 W → Own W lo a (lim un) → Calls Tryz.prog 77 #[.agg #[.int .i64 u1', .slice a (lim un).length c, .int .i64 u3']] W fun e w' => e = .returned (.bool (dyB u1' (lim un) u3')) ∧ Below W0.heap.size W0 w' from
        fun a c W lo hW ho => (sDy u1' a (lim un) c u3' W W.heap.size (Nat.le_refl _) (by omega) ho.ints).mono fun e w' ⟨he, hb⟩ => ⟨he, hW.trans (hb.mono hW.size)⟩)
      have HI4 := Lib.hid (show ∀ (a : Option Addr) (c : Nat) W lo, Below W0.heap.size W0 W → Own W lo a (lim vn) → Calls Tryz.prog 77 #[.agg #[.int .i64 v1', .slice a (lim vn).length c, .int .i64 v3']] W fun e w' => e = .returned (.bool (dyB v1' (lim vn) v3')) ∧ Below W0.heap.size W0 w' from
        fun a c W lo hW ho => (sDy v1' a (lim vn) c v3' W W.heap.size (Nat.le_refl _) (by omega) ho.ints).mono fun e w' ⟨he, hb⟩ => ⟨he, hW.trans (hb.mono hW.size)⟩)
      obtain ⟨bi1, i1⟩ : ∃ b, dyB p1' (lim pn) p3' = b := ⟨_, rfl⟩
      cases bi1
      · rw [muG_no (P := (p1', lim pn, p3')) (Q := (q1', lim qn, q3')) (U := (u1', lim un, u3')) (V := (v1', lim vn, v3')) (fun h => by have h9 := (both_yes h.1).1; simp only at h9; rw [i1] at h9; cases h9)]
        rw [i1] at HI1
        clear p1 p2 p3 p4 p5 hx hx' hy hy' hW0 hB hl hl' hk hk' IX g1 g2 g3 g4 h1 h2 hm hm' hn hn' sm sm' sn sn' e1 e2 e3 e4 e5 e6 e7 e8 hP hQ hU hV sp sq su sv lp lq lu lv kc kc' kd kd' i1
        go_enter Tryz.func15, Tryz.ntmps15
        go_wp2_with fail
        rw [HW0.out]
        refine (HV1.out _ hT).mono ?_
        rintro e w1 ⟨rfl, hb⟩
        clear k1 k2 k3 k4 k5 k6 k7 k8 k9 k10 k11 k12
        obtain ⟨k1, k2, k3, k4, k5, k6, k7, k8, k9, k10, k11, k12⟩ := SS.out _ hb
        go_wp2_with fail
        refine (HV2.out _ hb).mono ?_
        rintro e w2 ⟨rfl, hb2⟩
        clear k1 k2 k3 k4 k5 k6 k7 k8 k9 k10 k11 k12
        obtain ⟨k1, k2, k3, k4, k5, k6, k7, k8, k9, k10, k11, k12⟩ := SS.out _ hb2
        go_wp2_with fail
        refine (HM1.out _ hb2).mono ?_
        rintro e wm1 ⟨ym, fm, rfl, hcm, hom, _, hbm⟩
        clear k1 k2 k3 k4 k5 k6 k7 k8 k9 k10 k11 k12
        clear hcm
        go_wp2_with fail
        refine (HI1.out _ _ _ _ hbm hom).mono ?_
        rintro e wi1 ⟨rfl, hi1⟩
        clear hom hbm
        obtain ⟨k1, k2, k3, k4, k5, k6, k7, k8, k9, k10, k11, k12⟩ := SS.out _ hi1
        obtain ⟨q1', q2', q3', q4', q5', q6', q7', q8', q9', q10', q11', q12'⟩ := (SR.out _ hi1).six12
        clear k1 k2 k3 k4 k5 k6 k7 k8 k9 k10 k11 k12
        go_wp2_with fail
        refine bodyPost_ret (v := .tuple #[.agg #[.int .i64 0, .slice none 0 0, .int .i64 0, .int .i64 0, .slice none 0 0, .int .i64 0], .int .i64 3]) (by simp [results, Tryz.results15, go_sem, *]) rfl ?_
        exact retEC_zero (g := w.heap.size + 1 + 1) 3 P3.out P4.out hi1 (by omega) _ _ _ _ _ _
      · skip
        obtain ⟨bi2, i2⟩ : ∃ b, dyB q1' (lim qn) q3' = b := ⟨_, rfl⟩
        cases bi2
        · rw [muG_no (P := (p1', lim pn, p3')) (Q := (q1', lim qn, q3')) (U := (u1', lim un, u3')) (V := (v1', lim vn, v3')) (fun h => by have h9 := (both_yes h.1).2; simp only at h9; rw [i2] at h9; cases h9)]
          rw [i1] at HI1
          rw [i2] at HI2
          clear p1 p2 p3 p4 p5 hx hx' hy hy' hW0 hB hl hl' hk hk' IX g1 g2 g3 g4 h1 h2 hm hm' hn hn' sm sm' sn sn' e1 e2 e3 e4 e5 e6 e7 e8 hP hQ hU hV sp sq su sv lp lq lu lv kc kc' kd kd' i1 i2
          go_enter Tryz.func15, Tryz.ntmps15
          go_wp2_with fail
          rw [HW0.out]
          refine (HV1.out _ hT).mono ?_
          rintro e w1 ⟨rfl, hb⟩
          clear k1 k2 k3 k4 k5 k6 k7 k8 k9 k10 k11 k12
          obtain ⟨k1, k2, k3, k4, k5, k6, k7, k8, k9, k10, k11, k12⟩ := SS.out _ hb
          go_wp2_with fail
          refine (HV2.out _ hb).mono ?_
          rintro e w2 ⟨rfl, hb2⟩
          clear k1 k2 k3 k4 k5 k6 k7 k8 k9 k10 k11 k12
          obtain ⟨k1, k2, k3, k4, k5, k6, k7, k8, k9, k10, k11, k12⟩ := SS.out _ hb2
          go_wp2_with fail
          refine (HM1.out _ hb2).mono ?_
          rintro e wm1 ⟨ym, fm, rfl, hcm, hom, _, hbm⟩
          clear k1 k2 k3 k4 k5 k6 k7 k8 k9 k10 k11 k12
          clear hcm
          go_wp2_with fail
          refine (HI1.out _ _ _ _ hbm hom).mono ?_
          rintro e wi1 ⟨rfl, hi1⟩
          clear hom hbm
          obtain ⟨k1, k2, k3, k4, k5, k6, k7, k8, k9, k10, k11, k12⟩ := SS.out _ hi1
          go_wp2_with fail
          refine (HM2.out _ hi1).mono ?_
          rintro e wm2 ⟨ym, fm, rfl, hcm, hom, _, hbm⟩
          clear k1 k2 k3 k4 k5 k6 k7 k8 k9 k10 k11 k12
          clear hcm
          go_wp2_with fail
          refine (HI2.out _ _ _ _ hbm hom).mono ?_
          rintro e wi2 ⟨rfl, hi2⟩
          clear hom hbm
          obtain ⟨k1, k2, k3, k4, k5, k6, k7, k8, k9, k10, k11, k12⟩ := SS.out _ hi2
          obtain ⟨q1', q2', q3', q4', q5', q6', q7', q8', q9', q10', q11', q12'⟩ := (SR.out _ hi2).six12
          clear k1 k2 k3 k4 k5 k6 k7 k8 k9 k10 k11 k12
          go_wp2_with fail
          refine bodyPost_ret (v := .tuple #[.agg #[.int .i64 0, .slice none 0 0, .int .i64 0, .int .i64 0, .slice none 0 0, .int .i64 0], .int .i64 3]) (by simp [results, Tryz.results15, go_sem, *]) rfl ?_
          exact retEC_zero (g := w.heap.size + 1 + 1) 3 P3.out P4.out hi2 (by omega) _ _ _ _ _ _
        · skip
          obtain ⟨bi3, i3⟩ : ∃ b, dyB u1' (lim un) u3' = b := ⟨_, rfl⟩
          cases bi3
          · rw [muG_no (P := (p1', lim pn, p3')) (Q := (q1', lim qn, q3')) (U := (u1', lim un, u3')) (V := (v1', lim vn, v3')) (fun h => by have h9 := (both_yes h.2).1; simp only at h9; rw [i3] at h9; cases h9)]
            rw [i1] at HI1
            rw [i2] at HI2
            rw [i3] at HI3
            clear p1 p2 p3 p4 p5 hx hx' hy hy' hW0 hB hl hl' hk hk' IX g1 g2 g3 g4 h1 h2 hm hm' hn hn' sm sm' sn sn' e1 e2 e3 e4 e5 e6 e7 e8 hP hQ hU hV sp sq su sv lp lq lu lv kc kc' kd kd' i1 i2 i3
            go_enter Tryz.func15, Tryz.ntmps15
            go_wp2_with fail
            rw [HW0.out]
            refine (HV1.out _ hT).mono ?_
            rintro e w1 ⟨rfl, hb⟩
            clear k1 k2 k3 k4 k5 k6 k7 k8 k9 k10 k11 k12
            obtain ⟨k1, k2, k3, k4, k5, k6, k7, k8, k9, k10, k11, k12⟩ := SS.out _ hb
            go_wp2_with fail
            refine (HV2.out _ hb).mono ?_
            rintro e w2 ⟨rfl, hb2⟩
            clear k1 k2 k3 k4 k5 k6 k7 k8 k9 k10 k11 k12
            obtain ⟨k1, k2, k3, k4, k5, k6, k7, k8, k9, k10, k11, k12⟩ := SS.out _ hb2
            go_wp2_with fail
            refine (HM1.out _ hb2).mono ?_
            rintro e wm1 ⟨ym, fm, rfl, hcm, hom, _, hbm⟩
            clear k1 k2 k3 k4 k5 k6 k7 k8 k9 k10 k11 k12
            clear hcm
            go_wp2_with fail
            refine (HI1.out _ _ _ _ hbm hom).mono ?_
            rintro e wi1 ⟨rfl, hi1⟩
            clear hom hbm
            obtain ⟨k1, k2, k3, k4, k5, k6, k7, k8, k9, k10, k11, k12⟩ := SS.out _ hi1
            go_wp2_with fail
            refine (HM2.out _ hi1).mono ?_
            rintro e wm2 ⟨ym, fm, rfl, hcm, hom, _, hbm⟩
            clear k1 k2 k3 k4 k5 k6 k7 k8 k9 k10 k11 k12
            clear hcm
            go_wp2_with fail
            refine (HI2.out _ _ _ _ hbm hom).mono ?_
            rintro e wi2 ⟨rfl, hi2⟩
            clear hom hbm
            obtain ⟨k1, k2, k3, k4, k5, k6, k7, k8, k9, k10, k11, k12⟩ := SS.out _ hi2
            go_wp2_with fail
            refine (HM3.out _ hi2).mono ?_
            rintro e wm3 ⟨ym, fm, rfl, hcm, hom, _, hbm⟩
            clear k1 k2 k3 k4 k5 k6 k7 k8 k9 k10 k11 k12
            clear hcm
            go_wp2_with fail
            refine (HI3.out _ _ _ _ hbm hom).mono ?_
            rintro e wi3 ⟨rfl, hi3⟩
            clear hom hbm
            obtain ⟨k1, k2, k3, k4, k5, k6, k7, k8, k9, k10, k11, k12⟩ := SS.out _ hi3
            obtain ⟨q1', q2', q3', q4', q5', q6', q7', q8', q9', q10', q11', q12'⟩ := (SR.out _ hi3).six12
            clear k1 k2 k3 k4 k5 k6 k7 k8 k9 k10 k11 k12
            go_wp2_with fail
            refine bodyPost_ret (v := .tuple #[.agg #[.int .i64 0, .slice none 0 0, .int .i64 0, .int .i64 0, .slice none 0 0, .int .i64 0], .int .i64 3]) (by simp [results, Tryz.results15, go_sem, *]) rfl ?_
            exact retEC_zero (g := w.heap.size + 1 + 1) 3 P3.out P4.out hi3 (by omega) _ _ _ _ _ _
          · skip
            obtain ⟨bi4, i4⟩ : ∃ b, dyB v1' (lim vn) v3' = b := ⟨_, rfl⟩
            cases bi4
            · rw [muG_no (P := (p1', lim pn, p3')) (Q := (q1', lim qn, q3')) (U := (u1', lim un, u3')) (V := (v1', lim vn, v3')) (fun h => by have h9 := (both_yes h.2).2; simp only at h9; rw [i4] at h9; cases h9)]
              rw [i1] at HI1
              rw [i2] at HI2
              rw [i3] at HI3
              rw [i4] at HI4
              clear p1 p2 p3 p4 p5 hx hx' hy hy' hW0 hB hl hl' hk hk' IX g1 g2 g3 g4 h1 h2 hm hm' hn hn' sm sm' sn sn' e1 e2 e3 e4 e5 e6 e7 e8 hP hQ hU hV sp sq su sv lp lq lu lv kc kc' kd kd' i1 i2 i3 i4
              go_enter Tryz.func15, Tryz.ntmps15
              go_wp2_with fail
              rw [HW0.out]
              refine (HV1.out _ hT).mono ?_
              rintro e w1 ⟨rfl, hb⟩
              clear k1 k2 k3 k4 k5 k6 k7 k8 k9 k10 k11 k12
              obtain ⟨k1, k2, k3, k4, k5, k6, k7, k8, k9, k10, k11, k12⟩ := SS.out _ hb
              go_wp2_with fail
              refine (HV2.out _ hb).mono ?_
              rintro e w2 ⟨rfl, hb2⟩
              clear k1 k2 k3 k4 k5 k6 k7 k8 k9 k10 k11 k12
              obtain ⟨k1, k2, k3, k4, k5, k6, k7, k8, k9, k10, k11, k12⟩ := SS.out _ hb2
              go_wp2_with fail
              refine (HM1.out _ hb2).mono ?_
              rintro e wm1 ⟨ym, fm, rfl, hcm, hom, _, hbm⟩
              clear k1 k2 k3 k4 k5 k6 k7 k8 k9 k10 k11 k12
              clear hcm
              go_wp2_with fail
              refine (HI1.out _ _ _ _ hbm hom).mono ?_
              rintro e wi1 ⟨rfl, hi1⟩
              clear hom hbm
              obtain ⟨k1, k2, k3, k4, k5, k6, k7, k8, k9, k10, k11, k12⟩ := SS.out _ hi1
              go_wp2_with fail
              refine (HM2.out _ hi1).mono ?_
              rintro e wm2 ⟨ym, fm, rfl, hcm, hom, _, hbm⟩
              clear k1 k2 k3 k4 k5 k6 k7 k8 k9 k10 k11 k12
              clear hcm
              go_wp2_with fail
              refine (HI2.out _ _ _ _ hbm hom).mono ?_
              rintro e wi2 ⟨rfl, hi2⟩
              clear hom hbm
              obtain ⟨k1, k2, k3, k4, k5, k6, k7, k8, k9, k10, k11, k12⟩ := SS.out _ hi2
              go_wp2_with fail
              refine (HM3.out _ hi2).mono ?_
              rintro e wm3 ⟨ym, fm, rfl, hcm, hom, _, hbm⟩
              clear k1 k2 k3 k4 k5 k6 k7 k8 k9 k10 k11 k12
              clear hcm
              go_wp2_with fail
              refine (HI3.out _ _ _ _ hbm hom).mono ?_
              rintro e wi3 ⟨rfl, hi3⟩
              clear hom hbm
              obtain ⟨k1, k2, k3, k4, k5, k6, k7, k8, k9, k10, k11, k12⟩ := SS.out _ hi3
              go_wp2_with fail
              refine (HM4.out _ hi3).mono ?_
              rintro e wm4 ⟨ym, fm, rfl, hcm, hom, _, hbm⟩
              clear k1 k2 k3 k4 k5 k6 k7 k8 k9 k10 k11 k12
              clear hcm
              go_wp2_with fail
              refine (HI4.out _ _ _ _ hbm hom).mono ?_
              rintro e wi4 ⟨rfl, hi4⟩
              clear hom hbm
              obtain ⟨k1, k2, k3, k4, k5, k6, k7, k8, k9, k10, k11, k12⟩ := SS.out _ hi4
              obtain ⟨q1', q2', q3', q4', q5', q6', q7', q8', q9', q10', q11', q12'⟩ := (SR.out _ hi4).six12
              clear k1 k2 k3 k4 k5 k6 k7 k8 k9 k10 k11 k12
              go_wp2_with fail
              refine bodyPost_ret (v := .tuple #[.agg #[.int .i64 0, .slice none 0 0, .int .i64 0, .int .i64 0, .slice none 0 0, .int .i64 0], .int .i64 3]) (by simp [results, Tryz.results15, go_sem, *]) rfl ?_
              exact retEC_zero (g := w.heap.size + 1 + 1) 3 P3.out P4.out hi4 (by omega) _ _ _ _ _ _
            · skip
              rw [muG_yes (P := (p1', lim pn, p3')) (Q := (q1', lim qn, q3')) (U := (u1', lim un, u3')) (V := (v1', lim vn, v3')) (by simp only; rw [i1, i2]; rfl) (by simp only; rw [i3, i4]; rfl)]
              simp only [zv_lim]
              have y1 := dyB_exp i1
              have y2 := dyB_exp i2
              have y3 := dyB_exp i3
              have y4 := dyB_exp i4
              obtain ⟨d1', dn, d3', hD, sd, ld⟩ := subW_form (x := p3') (y := q3') sp sq lp lq (by omega) (by omega) (by omega) (by omega)
              obtain ⟨e1', en, e3', hE, se, le⟩ := addW_form (x := u3') (y := v3') su sv lu lv (by omega) (by omega) (by omega) (by omega)
              rw [hD, hE]
              rw [i1] at HI1
              rw [i2] at HI2
              rw [i3] at HI3
              rw [i4] at HI4
              obtain ⟨⟨r1, r2, r3, r4, r5, r6, rc⟩, hr⟩ : ∃ r : ExR, r = fitE (d1', lim dn, d3') (e1', lim en, e3') := ⟨_, rfl⟩
              have HLE := Lib.hid (show ∀ (a : Option Addr) (c : Nat) (b : Option Addr) (d : Nat) W, Below W0.heap.size W0 W → (lim dn).length ≤ c → (lim en).length ≤ d → Own W W0.heap.size a (lim dn) → Own W W0.heap.size b (lim en) → Apart a b (lim dn) (lim en) → Calls Tryz.prog 79 #[.agg #[.int .i64 d1', .slice a (lim dn).length c, .int .i64 d3', .int .i64 e1', .slice b (lim en).length d, .int .i64 e3']] W fun e w' => ∃ a c b d, e = .returned (.tuple #[.agg #[.int .i64 r1, .slice a r2.length c, .int .i64 r3, .int .i64 r4, .slice b r5.length d, .int .i64 r6], .int .i64 rc]) ∧ r2.length ≤ c ∧ r5.length ≤ d ∧ Own w' W0.heap.size a r2 ∧ Own w' W0.heap.size b r5 ∧ Apart a b r2 r5 ∧ Below W0.heap.size W0 w' from
                fun a c b d W hW hc hd ho hp hap => by
                  have := sFitE d1' (lim dn) d3' e1' (lim en) e3' a b c d W W0.heap.size (by omega) (by omega) hc hd ho hp hap
                  rw [← hr] at this
                  exact this.mono fun e w' ⟨a, c, b, d, he, hc, hd, ho, hp, hap, hb⟩ => ⟨a, c, b, d, he, hc, hd, ho, hp, hap, hW.trans (hb.mono hW.size)⟩)
              rw [← hr]
              have HPL := Lib.hid (show ∀ W, Below W0.heap.size W0 W → Calls Tryz.prog 80 #[.agg #[.int .i64 s, .slice a (lim m).length c, .int .i64 x, .int .i64 s', .slice a' (lim m').length c', .int .i64 x'], .agg #[.int .i64 t, .slice b (lim n).length d, .int .i64 y, .int .i64 t', .slice b' (lim n').length d', .int .i64 y']] W fun e w' => ∃ a c b d, e = .returned (.agg #[.int .i64 d1', .slice a (lim dn).length c, .int .i64 d3', .int .i64 e1', .slice b (lim en).length d, .int .i64 e3']) ∧ (lim dn).length ≤ c ∧ (lim en).length ≤ d ∧ Own w' W0.heap.size a (lim dn) ∧ Own w' W0.heap.size b (lim en) ∧ Apart a b (lim dn) (lim en) ∧ Below W0.heap.size W0 w' from
                fun W hW => (sTimes3 s a m c x s' a' m' c' x' t b n d y t' b' n' d' y' p1' pn p3' q1' qn q3' u1' un u3' v1' vn v3' d1' dn d3' e1' en e3' W B (IX.out W hW).2.2.2.2 (IX.out W hW).1 (IX.out W hW).2.1 (IX.out W hW).2.2.1 (IX.out W hW).2.2.2.1 sm sm' sn sn' hm hm' hn hn' e1 e2 e3 e4 e5 e6 e7 e8 kc kc' kd kd' hP hQ hU hV sp sq su sv lp lq lu lv y1 y2 y3 y4 hD hE).mono fun e w' ⟨a, c, b, d, he, hc, hd, ho, hp, hap, hb⟩ => ⟨a, c, b, d, he, hc, hd, ho.mono hW.size, hp.mono hW.size, hap, hW.trans (hb.mono hW.size)⟩)
              clear p1 p2 p3 p4 p5 hx hx' hy hy' hW0 hB hl hl' hk hk' IX g1 g2 g3 g4 h1 h2 hm hm' hn hn' sm sm' sn sn' e1 e2 e3 e4 e5 e6 e7 e8 hP hQ hU hV sp sq su sv lp lq lu lv kc kc' kd kd' i1 i2 i3 i4 y1 y2 y3 y4 hD hE sd ld se le hr
              go_enter Tryz.func15, Tryz.ntmps15
              go_wp2_with fail
              rw [HW0.out]
              refine (HV1.out _ hT).mono ?_
              rintro e w1 ⟨rfl, hb⟩
              clear k1 k2 k3 k4 k5 k6 k7 k8 k9 k10 k11 k12
              obtain ⟨k1, k2, k3, k4, k5, k6, k7, k8, k9, k10, k11, k12⟩ := SS.out _ hb
              go_wp2_with fail
              refine (HV2.out _ hb).mono ?_
              rintro e w2 ⟨rfl, hb2⟩
              clear k1 k2 k3 k4 k5 k6 k7 k8 k9 k10 k11 k12
              obtain ⟨k1, k2, k3, k4, k5, k6, k7, k8, k9, k10, k11, k12⟩ := SS.out _ hb2
              go_wp2_with fail
              refine (HM1.out _ hb2).mono ?_
              rintro e wm1 ⟨ym, fm, rfl, hcm, hom, _, hbm⟩
              clear k1 k2 k3 k4 k5 k6 k7 k8 k9 k10 k11 k12
              clear hcm
              go_wp2_with fail
              refine (HI1.out _ _ _ _ hbm hom).mono ?_
              rintro e wi1 ⟨rfl, hi1⟩
              clear hom hbm
              obtain ⟨k1, k2, k3, k4, k5, k6, k7, k8, k9, k10, k11, k12⟩ := SS.out _ hi1
              go_wp2_with fail
              refine (HM2.out _ hi1).mono ?_
              rintro e wm2 ⟨ym, fm, rfl, hcm, hom, _, hbm⟩
              clear k1 k2 k3 k4 k5 k6 k7 k8 k9 k10 k11 k12
              clear hcm
              go_wp2_with fail
              refine (HI2.out _ _ _ _ hbm hom).mono ?_
              rintro e wi2 ⟨rfl, hi2⟩
              clear hom hbm
              obtain ⟨k1, k2, k3, k4, k5, k6, k7, k8, k9, k10, k11, k12⟩ := SS.out _ hi2
              go_wp2_with fail
              refine (HM3.out _ hi2).mono ?_
              rintro e wm3 ⟨ym, fm, rfl, hcm, hom, _, hbm⟩
              clear k1 k2 k3 k4 k5 k6 k7 k8 k9 k10 k11 k12
              clear hcm
              go_wp2_with fail
              refine (HI3.out _ _ _ _ hbm hom).mono ?_
              rintro e wi3 ⟨rfl, hi3⟩
              clear hom hbm
              obtain ⟨k1, k2, k3, k4, k5, k6, k7, k8, k9, k10, k11, k12⟩ := SS.out _ hi3
              go_wp2_with fail
              refine (HM4.out _ hi3).mono ?_
              rintro e wm4 ⟨ym, fm, rfl, hcm, hom, _, hbm⟩
              clear k1 k2 k3 k4 k5 k6 k7 k8 k9 k10 k11 k12
              clear hcm
              go_wp2_with fail
              refine (HI4.out _ _ _ _ hbm hom).mono ?_
              rintro e wi4 ⟨rfl, hi4⟩
              clear hom hbm
              obtain ⟨k1, k2, k3, k4, k5, k6, k7, k8, k9, k10, k11, k12⟩ := SS.out _ hi4
              go_wp2_with fail
              refine (HPL.out _ hi4).mono ?_
              rintro e w3 ⟨y1, f1, y2, f2, rfl, hc1, hc2, ho1, ho2, hap, hb3⟩
              clear k1 k2 k3 k4 k5 k6 k7 k8 k9 k10 k11 k12
              go_wp2_with fail
              refine (HLE.out _ _ _ _ _ hb3 hc1 hc2 ho1 ho2 hap).mono ?_
              rintro e w4 ⟨y3, f3, y4, f4, rfl, hc3, hc4, ho3, ho4, hap4, hb4⟩
              clear hc1 hc2 ho1 ho2 hb3
              obtain ⟨z1, z2, z3, z4, z5, z6, z7, z8, z9, z10, z11, z12⟩ := (SR.out _ hb4).six12
              have HBX := Lib.hid (SR.out _ hb4)
              have hsz : w.heap.size + 1 + 1 < w4.heap.size := by have := hb4.size; have := P4.out; omega
              go_wp2_with fail
              refine bodyPost_ret (v := .tuple #[.agg #[.int .i64 r1, .slice y3 r2.length f3, .int .i64 r3, .int .i64 r4, .slice y4 r5.length f4, .int .i64 r6], .int .i64 rc]) (by simp [results, Tryz.results15, go_sem, *]) rfl ?_
              exact (retEC_end (g := w.heap.size + 1 + 1) (r := ⟨r1, r2, r3, r4, r5, r6, rc⟩) P3.out P4.out hb4 (by omega) _ _ _ _ _ _ ⟨_, HBX.out⟩ (ho3.mono (by have := P4.out; omega)) (ho4.mono (by have := P4.out; omega)) hc3 hc4 hap4).alloc _
end Go.Proofs.YtnnbfoemmgddeaaGreatDoor
