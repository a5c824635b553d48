/-
  Contracts: sums of exact complex numbers, by the program and by the model: AddExacts. Conditions: the limbs can be read; the library's table is as its initialiser lays it.
-/
import Derived.Test.YtebkpaonmeokgaaDoorEe
namespace Go.Proofs.YtebkpaonmeokgaaDoor
set_option linter.unusedVariables false
open Go Go.RowKit

/-- What a function of two exact complex numbers answers that both are tested first. -/
noncomputable def exY (f : Int → Int → Int → Int → Int → Int → Int → Int → ExR) (s : Int) (xs : List Int) (x : Int) (s' : Int) (xs' : List Int) (x' : Int) (t : Int) (ys : List Int) (y : Int) (t' : Int) (ys' : List Int) (y' : Int) : ExR :=
  @ite _ ((dyB s xs x && dyB s' xs' x') = true ∧ (dyB t ys y && dyB t' ys' y') = true) (Classical.propDecidable _) (f (zv (s, xs, x)) x (zv (s', xs', x')) x' (zv (t, ys, y)) y (zv (t', ys', y')) y') (exZ 1)
theorem exY_yes {f : Int → Int → Int → Int → Int → Int → Int → Int → ExR} {s : Int} {xs : List Int} {x : Int} {s' : Int} {xs' : List Int} {x' : Int} {t : Int} {ys : List Int} {y : Int} {t' : Int} {ys' : List Int} {y' : Int} (h1 : (dyB s xs x && dyB s' xs' x') = true) (h2 : (dyB t ys y && dyB t' ys' y') = true) :
    exY f s xs x s' xs' x' t ys y t' ys' y' = f (zv (s, xs, x)) x (zv (s', xs', x')) x' (zv (t, ys, y)) y (zv (t', ys', y')) y' := by unfold exY; rw [if_pos ⟨h1, h2⟩]
theorem exY_no {f : Int → Int → Int → Int → Int → Int → Int → Int → ExR} {s : Int} {xs : List Int} {x : Int} {s' : Int} {xs' : List Int} {x' : Int} {t : Int} {ys : List Int} {y : Int} {t' : Int} {ys' : List Int} {y' : Int} (h : ¬ ((dyB s xs x && dyB s' xs' x') = true ∧ (dyB t ys y && dyB t' ys' y') = true)) :
    exY f s xs x s' xs' x' t ys y t' ys' y' = exZ 1 := by unfold exY; rw [if_neg h]
noncomputable def adF (z x z' x' u y u' y' : Int) : ExR := fitE (addW z x u y) (addW z' x' u' y')
theorem both_yes {a b : Bool} (h : (a && b) = true) : a = true ∧ b = true := by cases a <;> cases b <;> simp_all
theorem RetEC.alloc {r : ExR} {lo : Nat} {w W : World} {e : Ending} (h : RetEC r lo w e W) (o : Obj) : RetEC r lo w e (W.alloc o) := by
  obtain ⟨a, c, b, d, he, hc, hd, ho, hp, hap, hb⟩ := h
  exact ⟨a, c, b, d, he, hc, hd, ho.alloc o, hp.alloc o, hap, hb.alloc hb.size o⟩
theorem far6 {w : World} {g g' : Nat} {t : TypeId} {cs : Array Value} (h : BoxAt w g t cs) (hne : g ≠ g') (u0 u1 u2 u3 u4 u5 : Value) :
    BoxAt ((((((w.setCell ⟨g', 0, none⟩ u0).setCell ⟨g', 1, none⟩ u1).setCell ⟨g', 2, none⟩ u2).setCell ⟨g', 3, none⟩ u3).setCell ⟨g', 4, none⟩ u4).setCell ⟨g', 5, none⟩ u5) g t cs :=
  (((((h.far (p := ⟨g', 0, none⟩) hne u0).far (p := ⟨g', 1, none⟩) hne u1).far (p := ⟨g', 2, none⟩) hne u2).far (p := ⟨g', 3, none⟩) hne u3).far (p := ⟨g', 4, none⟩) hne u4).far (p := ⟨g', 5, none⟩) hne u5

set_option maxRecDepth 100000 in
set_option maxHeartbeats 8000000 in
theorem iAddExacts (s : Int) (a : Option Addr) (xs : List Int) (c : Nat) (x : Int) (s' : Int) (a' : Option Addr) (xs' : List Int) (c' : Nat) (x' : Int) (t : Int) (b : Option Addr) (ys : List Int) (d : Nat) (y : Int) (t' : Int) (b' : Option Addr) (ys' : List Int) (d' : Nat) (y' : Int) (w : World) (B : Nat) (hB : B ≤ w.heap.size) (hx : Ints w B a xs) (hx' : Ints w B a' xs') (hy : Ints w B b ys) (hy' : Ints w B b' ys') (hl : xs.length ≤ 9223372036854775807) (hl' : xs'.length ≤ 9223372036854775807) (hk : ys.length ≤ 9223372036854775807) (hk' : ys'.length ≤ 9223372036854775807) (hTab : Tab w) :
    Calls Tryd.prog 52 #[.agg #[.int .i64 s, .slice a xs.length c, .int .i64 x, .int .i64 s', .slice a' xs'.length c', .int .i64 x'], .agg #[.int .i64 t, .slice b ys.length d, .int .i64 y, .int .i64 t', .slice b' ys'.length d', .int .i64 y']] w (RetEC (exY adF s xs x s' xs' x' t ys y t' ys' y') w.heap.size w) := by
  obtain ⟨W0, hW0⟩ : ∃ W0 : World, ((w.alloc (.cells #[.int .i64 s, .slice a xs.length c, .int .i64 x, .int .i64 s', .slice a' xs'.length c', .int .i64 x'] 64)).alloc (.cells #[.int .i64 t, .slice b ys.length d, .int .i64 y, .int .i64 t', .slice b' ys'.length d', .int .i64 y'] 64)).alloc (.cells #[.int .i64 0, .slice none 0 0, .int .i64 0, .int .i64 0, .slice none 0 0, .int .i64 0] 64) = W0 := ⟨_, rfl⟩
  obtain ⟨p1, p2, p5, p3, p4⟩ := three_boxT w 64 64 64 #[.int .i64 s, .slice a xs.length c, .int .i64 x, .int .i64 s', .slice a' xs'.length c', .int .i64 x'] #[.int .i64 t, .slice b ys.length d, .int .i64 y, .int .i64 t', .slice b' ys'.length d', .int .i64 y'] #[.int .i64 0, .slice none 0 0, .int .i64 0, .int .i64 0, .slice none 0 0, .int .i64 0]
  rw [hW0] at p1 p2 p3 p4 p5
  have HW0 := Lib.hid hW0
  have P3 := Lib.hid p3
  have P4 := Lib.hid p4
  have HTB := Lib.hid (show ∀ W, Below W0.heap.size W0 W → Tab W from fun W hW => (hTab.below p3).below hW)
  clear hTab
  have SS := Lib.hid (show ∀ W, Below W0.heap.size W0 W → (W.cell? ⟨w.heap.size, 0, none⟩ = some (.int .i64 s) ∧ W.cell? ⟨w.heap.size, 1, none⟩ = some (.slice a xs.length c) ∧ W.cell? ⟨w.heap.size, 2, none⟩ = some (.int .i64 x) ∧ W.cell? ⟨w.heap.size, 3, none⟩ = some (.int .i64 s') ∧ W.cell? ⟨w.heap.size, 4, none⟩ = some (.slice a' xs'.length c') ∧ W.cell? ⟨w.heap.size, 5, none⟩ = some (.int .i64 x') ∧ W.cell? ⟨w.heap.size + 1, 0, none⟩ = some (.int .i64 t) ∧ W.cell? ⟨w.heap.size + 1, 1, none⟩ = some (.slice b ys.length d) ∧ W.cell? ⟨w.heap.size + 1, 2, none⟩ = some (.int .i64 y) ∧ W.cell? ⟨w.heap.size + 1, 3, none⟩ = some (.int .i64 t') ∧ W.cell? ⟨w.heap.size + 1, 4, none⟩ = some (.slice b' ys'.length d') ∧ W.cell? ⟨w.heap.size + 1, 5, none⟩ = some (.int .i64 y')) from fun W hW => ⟨(p1.below hW).cell 0, (p1.below hW).cell 1, (p1.below hW).cell 2, (p1.below hW).cell 3, (p1.below hW).cell 4, (p1.below hW).cell 5, (p2.below hW).cell 0, (p2.below hW).cell 1, (p2.below hW).cell 2, (p2.below hW).cell 3, (p2.below hW).cell 4, (p2.below hW).cell 5⟩)
  have SR := Lib.hid (show ∀ W, Below W0.heap.size W0 W → BoxAt W (w.heap.size + 1 + 1) 64 #[.int .i64 0, .slice none 0 0, .int .i64 0, .int .i64 0, .slice none 0 0, .int .i64 0] from fun W hW => p5.below hW)
  have hT : Below W0.heap.size W0 W0 := Below.refl _ _
  have IX := Lib.hid (show ∀ W, Below W0.heap.size W0 W → Ints W B a xs ∧ Ints W B a' xs' ∧ Ints W B b ys ∧ Ints W B b' ys' ∧ B ≤ W.heap.size from fun W hW => ⟨hx.below ((p3.mono hB).trans (hW.mono (by omega))), hx'.below ((p3.mono hB).trans (hW.mono (by omega))), hy.below ((p3.mono hB).trans (hW.mono (by omega))), hy'.below ((p3.mono hB).trans (hW.mono (by omega))), by have := hW.size; omega⟩)
  have HV1 := Lib.hid (show ∀ W, Below W0.heap.size W0 W → Calls Tryd.prog 121 #[.agg #[.int .i64 s, .slice a xs.length c, .int .i64 x, .int .i64 s', .slice a' xs'.length c', .int .i64 x']] W fun e w' => e = .returned (.bool (dyB s xs x && dyB s' xs' x')) ∧ Below W0.heap.size W0 w' from
    fun W hW => (iValidE s a xs c x s' a' xs' c' x' W B (IX.out W hW).2.2.2.2 hl hl' (IX.out W hW).1 (IX.out W hW).2.1).mono fun e w' ⟨he, hb⟩ => ⟨he, hW.trans (hb.mono hW.size)⟩)
  have HV2 := Lib.hid (show ∀ W, Below W0.heap.size W0 W → Calls Tryd.prog 121 #[.agg #[.int .i64 t, .slice b ys.length d, .int .i64 y, .int .i64 t', .slice b' ys'.length d', .int .i64 y']] W fun e w' => e = .returned (.bool (dyB t ys y && dyB t' ys' y')) ∧ Below W0.heap.size W0 w' from
    fun W hW => (iValidE t b ys d y t' b' ys' d' y' W B (IX.out W hW).2.2.2.2 hk hk' (IX.out W hW).2.2.1 (IX.out W hW).2.2.2.1).mono fun e w' ⟨he, hb⟩ => ⟨he, hW.trans (hb.mono hW.size)⟩)
  obtain ⟨k1, k2, k3, k4, k5, k6, k7, k8, k9, k10, k11, k12⟩ := SS.out _ hT
  cases h1 : dyB s xs x && dyB s' xs' x'
  · rw [exY_no (fun h => by rw [h.1] at h1; cases h1)]
    rw [h1] at HV1
    clear p1 p2 p3 p4 p5 hx hx' hy hy' hW0 hB hl hl' hk hk' IX h1
    go_enter Tryd.func52, Tryd.ntmps52
    go_wp2_with fail
    rw [HW0.out]
    refine (HV1.out _ hT).mono ?_
    rintro e w1 ⟨rfl, hb⟩
    clear k1 k2 k3 k4 k5 k6 k7 k8 k9 k10 k11 k12
    obtain ⟨k1, k2, k3, k4, k5, k6, k7, k8, k9, k10, k11, k12⟩ := SS.out _ hb
    obtain ⟨q1', q2', q3', q4', q5', q6', q7', q8', q9', q10', q11', q12'⟩ := (SR.out _ hb).six12
    clear k1 k2 k3 k4 k5 k6 k7 k8 k9 k10 k11 k12
    go_wp2_with fail
    refine bodyPost_ret (v := .tuple #[.agg #[.int .i64 0, .slice none 0 0, .int .i64 0, .int .i64 0, .slice none 0 0, .int .i64 0], .int .i64 1]) (by simp [results, Tryd.results52, go_sem, *]) rfl ?_
    exact retEC_zero (g := w.heap.size + 1 + 1) 1 P3.out P4.out hb (by omega) _ _ _ _ _ _
  · cases h2 : dyB t ys y && dyB t' ys' y'
    · rw [exY_no (fun h => by rw [h.2] at h2; cases h2)]
      rw [h1] at HV1
      rw [h2] at HV2
      clear p1 p2 p3 p4 p5 hx hx' hy hy' hW0 hB hl hl' hk hk' IX h1 h2
      go_enter Tryd.func52, Tryd.ntmps52
      go_wp2_with fail
      rw [HW0.out]
      refine (HV1.out _ hT).mono ?_
      rintro e w1 ⟨rfl, hb⟩
      clear k1 k2 k3 k4 k5 k6 k7 k8 k9 k10 k11 k12
      obtain ⟨k1, k2, k3, k4, k5, k6, k7, k8, k9, k10, k11, k12⟩ := SS.out _ hb
      go_wp2_with fail
      refine (HV2.out _ hb).mono ?_
      rintro e w2 ⟨rfl, hb2⟩
      clear k1 k2 k3 k4 k5 k6 k7 k8 k9 k10 k11 k12
      obtain ⟨k1, k2, k3, k4, k5, k6, k7, k8, k9, k10, k11, k12⟩ := SS.out _ hb2
      obtain ⟨q1', q2', q3', q4', q5', q6', q7', q8', q9', q10', q11', q12'⟩ := (SR.out _ hb2).six12
      clear k1 k2 k3 k4 k5 k6 k7 k8 k9 k10 k11 k12
      go_wp2_with fail
      refine bodyPost_ret (v := .tuple #[.agg #[.int .i64 0, .slice none 0 0, .int .i64 0, .int .i64 0, .slice none 0 0, .int .i64 0], .int .i64 1]) (by simp [results, Tryd.results52, go_sem, *]) rfl ?_
      exact retEC_zero (g := w.heap.size + 1 + 1) 1 P3.out P4.out hb2 (by omega) _ _ _ _ _ _
    · rw [exY_yes h1 h2]
      obtain ⟨g1, g2⟩ := both_yes h1
      obtain ⟨g3, g4⟩ := both_yes h2
      obtain ⟨m, rfl, hm, sm, e1, e2⟩ := isDy_of (dyB_iff.1 g1)
      obtain ⟨m', rfl, hm', sm', e3, e4⟩ := isDy_of (dyB_iff.1 g2)
      obtain ⟨n, rfl, hn, sn, e5, e6⟩ := isDy_of (dyB_iff.1 g3)
      obtain ⟨n', rfl, hn', sn', e7, e8⟩ := isDy_of (dyB_iff.1 g4)
      rw [h1] at HV1
      rw [h2] at HV2
      rw [zv_lim, zv_lim, zv_lim, zv_lim, adF]
      obtain ⟨p1', pn, p3', hP, sp, lp⟩ := addW_form (x := x) (y := y) sm sn (show (lim m).length ≤ 400 by omega) (show (lim n).length ≤ 400 by omega) e1 e2 e5 e6
      obtain ⟨q1', qn, q3', hQ, sq, lq⟩ := addW_form (x := x') (y := y') sm' sn' (show (lim m').length ≤ 400 by omega) (show (lim n').length ≤ 400 by omega) e3 e4 e7 e8
      have HA1 := Lib.hid (show ∀ W, Below W0.heap.size W0 W → Calls Tryd.prog 123 #[.agg #[.int .i64 s, .slice a (lim m).length c, .int .i64 x], .agg #[.int .i64 t, .slice b (lim n).length d, .int .i64 y]] W fun e w' => ∃ a c, e = .returned (.agg #[.int .i64 p1', .slice a (lim pn).length c, .int .i64 p3']) ∧ (lim pn).length ≤ c ∧ Own w' W0.heap.size a (lim pn) ∧ Own w' W.heap.size a (lim pn) ∧ Below W.heap.size W w' ∧ Below W0.heap.size W0 w' from
        fun W hW => by
          have := iPlusD s a m c x t b n d y W B B (IX.out W hW).2.2.2.2 (IX.out W hW).2.2.2.2 (IX.out W hW).1 (IX.out W hW).2.2.1 sm sn (by omega) (by omega) (by omega) (by omega) (by omega) (by omega) (HTB.out W hW)
          rw [hP] at this
          exact this.mono fun e w' ⟨a, c, he, hc, ho, hb⟩ => ⟨a, c, he, hc, ho.mono hW.size, ho, hb, hW.trans (hb.mono hW.size)⟩)
      have HA2 := Lib.hid (show ∀ W, Below W0.heap.size W0 W → Calls Tryd.prog 123 #[.agg #[.int .i64 s', .slice a' (lim m').length c', .int .i64 x'], .agg #[.int .i64 t', .slice b' (lim n').length d', .int .i64 y']] W fun e w' => ∃ a c, e = .returned (.agg #[.int .i64 q1', .slice a (lim qn).length c, .int .i64 q3']) ∧ (lim qn).length ≤ c ∧ Own w' W0.heap.size a (lim qn) ∧ Own w' W.heap.size a (lim qn) ∧ Below W.heap.size W w' ∧ Below W0.heap.size W0 w' from
        fun W hW => by
          have := iPlusD s' a' m' c' x' t' b' n' d' y' W B B (IX.out W hW).2.2.2.2 (IX.out W hW).2.2.2.2 (IX.out W hW).2.1 (IX.out W hW).2.2.2.1 sm' sn' (by omega) (by omega) (by omega) (by omega) (by omega) (by omega) (HTB.out W hW)
          rw [hQ] at this
          exact this.mono fun e w' ⟨a, c, he, hc, ho, hb⟩ => ⟨a, c, he, hc, ho.mono hW.size, ho, hb, hW.trans (hb.mono hW.size)⟩)
      rw [hP, hQ]
      obtain ⟨⟨r1, r2, r3, r4, r5, r6, rc⟩, hr⟩ : ∃ r : ExR, r = fitE (p1', lim pn, p3') (q1', lim qn, q3') := ⟨_, rfl⟩
      have HLE := Lib.hid (show ∀ (a : Option Addr) (c : Nat) (b : Option Addr) (d : Nat) W, Below W0.heap.size W0 W → (lim pn).length ≤ c → (lim qn).length ≤ d → Own W W0.heap.size a (lim pn) → Own W W0.heap.size b (lim qn) → Apart a b (lim pn) (lim qn) → Calls Tryd.prog 122 #[.agg #[.int .i64 p1', .slice a (lim pn).length c, .int .i64 p3', .int .i64 q1', .slice b (lim qn).length d, .int .i64 q3']] W fun e w' => ∃ a c b d, e = .returned (.tuple #[.agg #[.int .i64 r1, .slice a r2.length c, .int .i64 r3, .int .i64 r4, .slice b r5.length d, .int .i64 r6], .int .i64 rc]) ∧ r2.length ≤ c ∧ r5.length ≤ d ∧ Own w' W0.heap.size a r2 ∧ Own w' W0.heap.size b r5 ∧ Apart a b r2 r5 ∧ Below W0.heap.size W0 w' from
        fun a c b d W hW hc hd ho hp hap => by
          have := iLimitE p1' (lim pn) p3' q1' (lim qn) q3' a b c d W W0.heap.size (by omega) (by omega) hc hd ho hp hap
          rw [← hr] at this
          exact this.mono fun e w' ⟨a, c, b, d, he, hc, hd, ho, hp, hap, hb⟩ => ⟨a, c, b, d, he, hc, hd, ho, hp, hap, hW.trans (hb.mono hW.size)⟩)
      rw [← hr]
      have ST := Lib.hid (show ∀ W u0 u1 u2 u3 u4 u5, Below W0.heap.size W0 W → (fun W : World => W.cell? ⟨w.heap.size, 0, none⟩ = some (.int .i64 s) ∧ W.cell? ⟨w.heap.size, 1, none⟩ = some (.slice a (lim m).length c) ∧ W.cell? ⟨w.heap.size, 2, none⟩ = some (.int .i64 x) ∧ W.cell? ⟨w.heap.size, 3, none⟩ = some (.int .i64 s') ∧ W.cell? ⟨w.heap.size, 4, none⟩ = some (.slice a' (lim m').length c') ∧ W.cell? ⟨w.heap.size, 5, none⟩ = some (.int .i64 x') ∧ W.cell? ⟨w.heap.size + 1, 0, none⟩ = some (.int .i64 t) ∧ W.cell? ⟨w.heap.size + 1, 1, none⟩ = some (.slice b (lim n).length d) ∧ W.cell? ⟨w.heap.size + 1, 2, none⟩ = some (.int .i64 y) ∧ W.cell? ⟨w.heap.size + 1, 3, none⟩ = some (.int .i64 t') ∧ W.cell? ⟨w.heap.size + 1, 4, none⟩ = some (.slice b' (lim n').length d') ∧ W.cell? ⟨w.heap.size + 1, 5, none⟩ = some (.int .i64 y')) ((((((W.setCell ⟨w.heap.size + 1 + 1, 0, none⟩ u0).setCell ⟨w.heap.size + 1 + 1, 1, none⟩ u1).setCell ⟨w.heap.size + 1 + 1, 2, none⟩ u2).setCell ⟨w.heap.size + 1 + 1, 3, none⟩ u3).setCell ⟨w.heap.size + 1 + 1, 4, none⟩ u4).setCell ⟨w.heap.size + 1 + 1, 5, none⟩ u5) from fun W u0 u1 u2 u3 u4 u5 hW => by
        have a1 := far6 (p1.below hW) (show w.heap.size ≠ w.heap.size + 1 + 1 by omega) u0 u1 u2 u3 u4 u5
        have a2 := far6 (p2.below hW) (show w.heap.size + 1 ≠ w.heap.size + 1 + 1 by omega) u0 u1 u2 u3 u4 u5
        exact ⟨a1.cell 0, a1.cell 1, a1.cell 2, a1.cell 3, a1.cell 4, a1.cell 5, a2.cell 0, a2.cell 1, a2.cell 2, a2.cell 3, a2.cell 4, a2.cell 5⟩)
      clear p1 p2 p3 p4 p5 hx hx' hy hy' hW0 hB hl hl' hk hk' IX g1 g2 g3 g4 h1 h2 hm hm' hn hn' sm sm' sn sn' e1 e2 e3 e4 e5 e6 e7 e8 hP hQ sp sq lp lq hr
      go_enter Tryd.func52, Tryd.ntmps52
      go_wp2_with fail
      rw [HW0.out]
      refine (HV1.out _ hT).mono ?_
      rintro e w1 ⟨rfl, hb⟩
      clear k1 k2 k3 k4 k5 k6 k7 k8 k9 k10 k11 k12
      obtain ⟨k1, k2, k3, k4, k5, k6, k7, k8, k9, k10, k11, k12⟩ := SS.out _ hb
      go_wp2_with fail
      refine (HV2.out _ hb).mono ?_
      rintro e w2 ⟨rfl, hb2⟩
      clear k1 k2 k3 k4 k5 k6 k7 k8 k9 k10 k11 k12
      obtain ⟨k1, k2, k3, k4, k5, k6, k7, k8, k9, k10, k11, k12⟩ := SS.out _ hb2
      have hbd := hb2.drew
      go_wp2_with fail
      go_region_held3 (fun W => W.cell? ⟨w.heap.size, 0, none⟩ = some (.int .i64 s) ∧ W.cell? ⟨w.heap.size, 1, none⟩ = some (.slice a (lim m).length c) ∧ W.cell? ⟨w.heap.size, 2, none⟩ = some (.int .i64 x) ∧ W.cell? ⟨w.heap.size, 3, none⟩ = some (.int .i64 s') ∧ W.cell? ⟨w.heap.size, 4, none⟩ = some (.slice a' (lim m').length c') ∧ W.cell? ⟨w.heap.size, 5, none⟩ = some (.int .i64 x') ∧ W.cell? ⟨w.heap.size + 1, 0, none⟩ = some (.int .i64 t) ∧ W.cell? ⟨w.heap.size + 1, 1, none⟩ = some (.slice b (lim n).length d) ∧ W.cell? ⟨w.heap.size + 1, 2, none⟩ = some (.int .i64 y) ∧ W.cell? ⟨w.heap.size + 1, 3, none⟩ = some (.int .i64 t') ∧ W.cell? ⟨w.heap.size + 1, 4, none⟩ = some (.slice b' (lim n').length d') ∧ W.cell? ⟨w.heap.size + 1, 5, none⟩ = some (.int .i64 y'))
        (with_reducible first | exact SS.out _ (by assumption) | exact ST.out _ _ _ _ _ _ _ (by assumption))
        (first
        | (go_at_call 123; with_reducible refine (HA1.out _ (by assumption)).mono ?_; rintro e v1 ⟨y1, f1, rfl, hc1, ho1, ho1', hbb1, hb1⟩)
        | (go_at_call 123; with_reducible refine (HA2.out _ (by assumption)).mono ?_; rintro e v2 ⟨y2, f2, rfl, hc2, ho2, ho2', hbb2, hb2'⟩; have hap := apart_of ho1 ho2'; have ho12 := Own.below ho1 hbb2)
        | (go_at_call 122; with_reducible refine (HLE.out _ _ _ _ _ (by assumption) hc1 hc2 ho12 ho2 hap).mono ?_; rintro e v3 ⟨y3, f3, y4, f4, rfl, hc3, hc4, ho3, ho4, hap3, hb3⟩; obtain ⟨z1, z2, z3, z4, z5, z6, z7, z8, z9, z10, z11, z12⟩ := (SR.out _ hb3).six12))
      all_goals
        have HBX := Lib.hid (SR.out _ hb3)
        go_wp2_with fail
        refine bodyPost_ret (v := .tuple #[.agg #[.int .i64 r1, .slice y3 r2.length f3, .int .i64 r3, .int .i64 r4, .slice y4 r5.length f4, .int .i64 r6], .int .i64 rc]) (by simp [results, Tryd.results52, go_sem, *]) rfl ?_
        exact retEC_end (g := w.heap.size + 1 + 1) (r := ⟨r1, r2, r3, r4, r5, r6, rc⟩) P3.out P4.out hb3 (by omega) _ _ _ _ _ _ ⟨_, HBX.out⟩ (ho3.mono (by have := P4.out; omega)) (ho4.mono (by have := P4.out; omega)) hc3 hc4 hap3
end Go.Proofs.YtebkpaonmeokgaaDoor
