/-
  Contracts: sums of exact complex numbers, by the program and by the model. Conditions: the limbs can be read; the library's table is as its initialiser lays it.
-/
import Derived.Test.YtebkpaonmeokgaaDoorEb
namespace Go.Proofs.YtebkpaonmeokgaaDoor
set_option linter.unusedVariables false
open Go Go.RowKit

/-- An exact complex number and a code. -/
structure ExR where
  s1 : Int
  l1 : List Int
  x1 : Int
  s2 : Int
  l2 : List Int
  x2 : Int
  code : Int
def exZ (code : Int) : ExR := ⟨0, [], 0, 0, [], 0, code⟩
noncomputable def fitE (p q : Int × List Int × Int) : ExR := @ite _ (dyB p.1 p.2.1 p.2.2 = true ∧ dyB q.1 q.2.1 q.2.2 = true) (Classical.propDecidable _) ⟨p.1, p.2.1, p.2.2, q.1, q.2.1, q.2.2, 0⟩ (exZ 3)
theorem fitE_yes {p q : Int × List Int × Int} (h1 : dyB p.1 p.2.1 p.2.2 = true) (h2 : dyB q.1 q.2.1 q.2.2 = true) : fitE p q = ⟨p.1, p.2.1, p.2.2, q.1, q.2.1, q.2.2, 0⟩ := by unfold fitE; rw [if_pos ⟨h1, h2⟩]
theorem fitE_no {p q : Int × List Int × Int} (h : ¬ (dyB p.1 p.2.1 p.2.2 = true ∧ dyB q.1 q.2.1 q.2.2 = true)) : fitE p q = exZ 3 := by unfold fitE; rw [if_neg h]
/-- The call returned an exact complex number, in memory of its own, and a code. -/
def RetEC (r : ExR) (lo : Nat) (w : World) (e : Ending) (w' : World) : Prop := ∃ a c b d, e = .returned (.tuple #[.agg #[.int .i64 r.s1, .slice a r.l1.length c, .int .i64 r.x1, .int .i64 r.s2, .slice b r.l2.length d, .int .i64 r.x2], .int .i64 r.code]) ∧ r.l1.length ≤ c ∧ r.l2.length ≤ d ∧ Own w' lo a r.l1 ∧ Own w' lo b r.l2 ∧ Apart a b r.l1 r.l2 ∧ Below w.heap.size w w'
theorem retEC_zero {w W0 W : World} {k g lo : Nat} (code : Int) (P3 : Below w.heap.size w W0) (P4 : W0.heap.size = w.heap.size + k) (hb : Below W0.heap.size W0 W) (hg : w.heap.size ≤ g) (v0 v1 v2 v3 v4 v5 : Value) :
    RetEC (exZ code) lo w (.returned (.tuple #[.agg #[.int .i64 0, .slice none 0 0, .int .i64 0, .int .i64 0, .slice none 0 0, .int .i64 0], .int .i64 code])) ((((((W.setCell ⟨g, 0, none⟩ v0).setCell ⟨g, 1, none⟩ v1).setCell ⟨g, 2, none⟩ v2).setCell ⟨g, 3, none⟩ v3).setCell ⟨g, 4, none⟩ v4).setCell ⟨g, 5, none⟩ v5) :=
  ⟨none, 0, none, 0, rfl, Nat.le_refl _, Nat.le_refl _, Own.nil, Own.nil, .inl rfl, Below.set6 (P3.trans (hb.mono (by omega))) hg _ _ _ _ _ _⟩
theorem retEC_end {w W0 W : World} {k g lo : Nat} {r : ExR} {a b : Option Addr} {c d : Nat} (P3 : Below w.heap.size w W0) (P4 : W0.heap.size = w.heap.size + k) (hb : Below W0.heap.size W0 W) (hg : w.heap.size ≤ g) (v0 v1 v2 v3 v4 v5 : Value) (hbx : ∃ cs, BoxAt W g 64 cs) (ho : Own W lo a r.l1) (hp : Own W lo b r.l2) (hc : r.l1.length ≤ c) (hd : r.l2.length ≤ d) (hap : Apart a b r.l1 r.l2) :
    RetEC r lo w (.returned (.tuple #[.agg #[.int .i64 r.s1, .slice a r.l1.length c, .int .i64 r.x1, .int .i64 r.s2, .slice b r.l2.length d, .int .i64 r.x2], .int .i64 r.code])) ((((((W.setCell ⟨g, 0, none⟩ v0).setCell ⟨g, 1, none⟩ v1).setCell ⟨g, 2, none⟩ v2).setCell ⟨g, 3, none⟩ v3).setCell ⟨g, 4, none⟩ v4).setCell ⟨g, 5, none⟩ v5) := by
  obtain ⟨cs, hbx⟩ := hbx
  exact ⟨a, c, b, d, rfl, hc, hd, own_boxE6 ho hbx _ _ _ _ _ _, own_boxE6 hp hbx _ _ _ _ _ _, hap, Below.set6 (P3.trans (hb.mono (by omega))) hg _ _ _ _ _ _⟩

set_option maxRecDepth 100000 in
set_option maxHeartbeats 4000000 in
theorem iLimitE (p1 : Int) (p2 : List Int) (p3 q1 : Int) (q2 : List Int) (q3 : Int) (a b : Option Addr) (c d : Nat) (w : World) (lo : Nat) (hl : p2.length ≤ 9223372036854775807) (hl' : q2.length ≤ 9223372036854775807) (hc : p2.length ≤ c) (hd : q2.length ≤ d) (ho : Own w lo a p2) (hp : Own w lo b q2) (hap : Apart a b p2 q2) :
    Calls Tryd.prog 122 #[.agg #[.int .i64 p1, .slice a p2.length c, .int .i64 p3, .int .i64 q1, .slice b q2.length d, .int .i64 q3]] w (RetEC (fitE (p1, p2, p3) (q1, q2, q3)) lo w) := by
  obtain ⟨W0, hW0⟩ : ∃ W0 : World, (w.alloc (.cells #[.int .i64 p1, .slice a p2.length c, .int .i64 p3, .int .i64 q1, .slice b q2.length d, .int .i64 q3] 64)).alloc (.cells #[.int .i64 0, .slice none 0 0, .int .i64 0, .int .i64 0, .slice none 0 0, .int .i64 0] 64) = W0 := ⟨_, rfl⟩
  obtain ⟨b1, b2, b3, b4⟩ := two_boxT w 64 64 #[.int .i64 p1, .slice a p2.length c, .int .i64 p3, .int .i64 q1, .slice b q2.length d, .int .i64 q3] #[.int .i64 0, .slice none 0 0, .int .i64 0, .int .i64 0, .slice none 0 0, .int .i64 0]
  have oA := (ho.alloc (.cells #[.int .i64 p1, .slice a p2.length c, .int .i64 p3, .int .i64 q1, .slice b q2.length d, .int .i64 q3] 64)).alloc (.cells #[.int .i64 0, .slice none 0 0, .int .i64 0, .int .i64 0, .slice none 0 0, .int .i64 0] 64)
  have oB := (hp.alloc (.cells #[.int .i64 p1, .slice a p2.length c, .int .i64 p3, .int .i64 q1, .slice b q2.length d, .int .i64 q3] 64)).alloc (.cells #[.int .i64 0, .slice none 0 0, .int .i64 0, .int .i64 0, .slice none 0 0, .int .i64 0] 64)
  rw [hW0] at b1 b2 b3 b4 oA oB
  have HW0 := Lib.hid hW0
  have P3 := Lib.hid b3
  have P4 := Lib.hid b4
  have OA := Lib.hid oA
  have OB := Lib.hid oB
  have B1 := Lib.hid b1
  have B2 := Lib.hid b2
  have hT : Below W0.heap.size W0 W0 := Below.refl _ _
  have HV := Lib.hid ((iValidE p1 a p2 c p3 q1 b q2 d q3 W0 W0.heap.size (Nat.le_refl _) hl hl' oA.ints oB.ints))
  obtain ⟨k1, k2, k3, k4, k5, k6⟩ := b1.six
  have HC := Lib.hid hc
  have HD := Lib.hid hd
  have HAP := Lib.hid hap
  by_cases hv : dyB p1 p2 p3 = true ∧ dyB q1 q2 q3 = true
  · rw [fitE_yes hv.1 hv.2]
    rw [hv.1, hv.2] at HV
    clear b1 b2 b3 b4 oA oB hW0 ho hp hl hl' hc hd hap hv
    go_enter Tryd.func122, Tryd.ntmps122
    go_wp2_with fail
    rw [HW0.out]
    refine HV.out.mono ?_
    rintro e w1 ⟨rfl, hb⟩
    have hbx := B2.out.below hb
    clear k1 k2 k3 k4 k5 k6
    obtain ⟨k1, k2, k3, k4, k5, k6⟩ := (B1.out.below hb).six
    obtain ⟨q1', q2', q3', q4', q5', q6', q7', q8', q9', q10', q11', q12'⟩ := hbx.six12
    have HO1 := Lib.hid (OA.out.below hb)
    have HO2 := Lib.hid (OB.out.below hb)
    have HBX := Lib.hid hbx
    clear hbx
    go_wp2_with fail
    refine bodyPost_ret (v := .tuple #[.agg #[.int .i64 p1, .slice a p2.length c, .int .i64 p3, .int .i64 q1, .slice b q2.length d, .int .i64 q3], .int .i64 0]) (by simp [results, Tryd.results122, go_sem, *]) rfl ?_
    exact retEC_end (g := w.heap.size + 1) (r := ⟨p1, p2, p3, q1, q2, q3, 0⟩) P3.out P4.out hb (by omega) _ _ _ _ _ _ ⟨_, HBX.out⟩ HO1.out HO2.out HC.out HD.out HAP.out
  · rw [fitE_no hv]
    rw [both_no hv] at HV
    clear b1 b2 b3 b4 oA oB hW0 ho hp hl hl' hc hd hap hv
    go_enter Tryd.func122, Tryd.ntmps122
    go_wp2_with fail
    rw [HW0.out]
    refine HV.out.mono ?_
    rintro e w1 ⟨rfl, hb⟩
    have hbx := B2.out.below hb
    clear k1 k2 k3 k4 k5 k6
    obtain ⟨q1', q2', q3', q4', q5', q6', q7', q8', q9', q10', q11', q12'⟩ := hbx.six12
    clear hbx
    go_wp2_with fail
    refine bodyPost_ret (v := .tuple #[.agg #[.int .i64 0, .slice none 0 0, .int .i64 0, .int .i64 0, .slice none 0 0, .int .i64 0], .int .i64 3]) (by simp [results, Tryd.results122, go_sem, *]) rfl ?_
    exact retEC_zero (g := w.heap.size + 1) 3 P3.out P4.out hb (by omega) _ _ _ _ _ _

set_option maxRecDepth 100000 in
set_option maxHeartbeats 4000000 in
theorem sFitE (p1 : Int) (p2 : List Int) (p3 q1 : Int) (q2 : List Int) (q3 : Int) (a b : Option Addr) (c d : Nat) (w : World) (lo : Nat) (hl : p2.length ≤ 9223372036854775807) (hl' : q2.length ≤ 9223372036854775807) (hc : p2.length ≤ c) (hd : q2.length ≤ d) (ho : Own w lo a p2) (hp : Own w lo b q2) (hap : Apart a b p2 q2) :
    Calls Tryd.prog 119 #[.agg #[.int .i64 p1, .slice a p2.length c, .int .i64 p3, .int .i64 q1, .slice b q2.length d, .int .i64 q3]] w (RetEC (fitE (p1, p2, p3) (q1, q2, q3)) lo w) := by
  obtain ⟨W0, hW0⟩ : ∃ W0 : World, (w.alloc (.cells #[.int .i64 p1, .slice a p2.length c, .int .i64 p3, .int .i64 q1, .slice b q2.length d, .int .i64 q3] 64)).alloc (.cells #[.int .i64 0, .slice none 0 0, .int .i64 0, .int .i64 0, .slice none 0 0, .int .i64 0] 64) = W0 := ⟨_, rfl⟩
  obtain ⟨b1, b2, b3, b4⟩ := two_boxT w 64 64 #[.int .i64 p1, .slice a p2.length c, .int .i64 p3, .int .i64 q1, .slice b q2.length d, .int .i64 q3] #[.int .i64 0, .slice none 0 0, .int .i64 0, .int .i64 0, .slice none 0 0, .int .i64 0]
  have oA := (ho.alloc (.cells #[.int .i64 p1, .slice a p2.length c, .int .i64 p3, .int .i64 q1, .slice b q2.length d, .int .i64 q3] 64)).alloc (.cells #[.int .i64 0, .slice none 0 0, .int .i64 0, .int .i64 0, .slice none 0 0, .int .i64 0] 64)
  have oB := (hp.alloc (.cells #[.int .i64 p1, .slice a p2.length c, .int .i64 p3, .int .i64 q1, .slice b q2.length d, .int .i64 q3] 64)).alloc (.cells #[.int .i64 0, .slice none 0 0, .int .i64 0, .int .i64 0, .slice none 0 0, .int .i64 0] 64)
  rw [hW0] at b1 b2 b3 b4 oA oB
  have HW0 := Lib.hid hW0
  have P3 := Lib.hid b3
  have P4 := Lib.hid b4
  have OA := Lib.hid oA
  have OB := Lib.hid oB
  have B1 := Lib.hid b1
  have B2 := Lib.hid b2
  have hT : Below W0.heap.size W0 W0 := Below.refl _ _
  have HV := Lib.hid ((sPairE p1 a p2 c p3 q1 b q2 d q3 W0 W0.heap.size (Nat.le_refl _) hl hl' oA.ints oB.ints))
  obtain ⟨k1, k2, k3, k4, k5, k6⟩ := b1.six
  have HC := Lib.hid hc
  have HD := Lib.hid hd
  have HAP := Lib.hid hap
  by_cases hv : dyB p1 p2 p3 = true ∧ dyB q1 q2 q3 = true
  · rw [fitE_yes hv.1 hv.2]
    rw [hv.1, hv.2] at HV
    clear b1 b2 b3 b4 oA oB hW0 ho hp hl hl' hc hd hap hv
    go_enter Tryd.func119, Tryd.ntmps119
    go_wp2_with fail
    rw [HW0.out]
    refine HV.out.mono ?_
    rintro e w1 ⟨rfl, hb⟩
    have hbx := B2.out.below hb
    clear k1 k2 k3 k4 k5 k6
    obtain ⟨k1, k2, k3, k4, k5, k6⟩ := (B1.out.below hb).six
    obtain ⟨q1', q2', q3', q4', q5', q6', q7', q8', q9', q10', q11', q12'⟩ := hbx.six12
    have HO1 := Lib.hid (OA.out.below hb)
    have HO2 := Lib.hid (OB.out.below hb)
    have HBX := Lib.hid hbx
    clear hbx
    go_wp2_with fail
    refine bodyPost_ret (v := .tuple #[.agg #[.int .i64 p1, .slice a p2.length c, .int .i64 p3, .int .i64 q1, .slice b q2.length d, .int .i64 q3], .int .i64 0]) (by simp [results, Tryd.results119, go_sem, *]) rfl ?_
    exact retEC_end (g := w.heap.size + 1) (r := ⟨p1, p2, p3, q1, q2, q3, 0⟩) P3.out P4.out hb (by omega) _ _ _ _ _ _ ⟨_, HBX.out⟩ HO1.out HO2.out HC.out HD.out HAP.out
  · rw [fitE_no hv]
    rw [both_no hv] at HV
    clear b1 b2 b3 b4 oA oB hW0 ho hp hl hl' hc hd hap hv
    go_enter Tryd.func119, Tryd.ntmps119
    go_wp2_with fail
    rw [HW0.out]
    refine HV.out.mono ?_
    rintro e w1 ⟨rfl, hb⟩
    have hbx := B2.out.below hb
    clear k1 k2 k3 k4 k5 k6
    obtain ⟨q1', q2', q3', q4', q5', q6', q7', q8', q9', q10', q11', q12'⟩ := hbx.six12
    clear hbx
    go_wp2_with fail
    refine bodyPost_ret (v := .tuple #[.agg #[.int .i64 0, .slice none 0 0, .int .i64 0, .int .i64 0, .slice none 0 0, .int .i64 0], .int .i64 3]) (by simp [results, Tryd.results119, go_sem, *]) rfl ?_
    exact retEC_zero (g := w.heap.size + 1) 3 P3.out P4.out hb (by omega) _ _ _ _ _ _
end Go.Proofs.YtebkpaonmeokgaaDoor
