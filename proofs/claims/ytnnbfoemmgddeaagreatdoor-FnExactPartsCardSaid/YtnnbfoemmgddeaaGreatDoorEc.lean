/-
  Contracts: squares of exact complex numbers by the model. Conditions: the limbs can be read.
-/
import Derived.Test.YtnnbfoemmgddeaaGreatDoorEa
namespace Go.Proofs.YtnnbfoemmgddeaaGreatDoor
set_option linter.unusedVariables false
open Go Go.RowKit

set_option maxRecDepth 100000 in
set_option maxHeartbeats 8000000 in
theorem sSquare3 (s : Int) (a : Option Addr) (m c : Nat) (x : Int) (s' : Int) (a' : Option Addr) (m' c' : Nat) (x' : Int) (p1 : Int) (pn : Nat) (p3 : Int) (q1 : Int) (qn : Nat) (q3 : Int) (w : World) (B : Nat) (hB : B ≤ w.heap.size) (hx : Ints w B a (lim m)) (hx' : Ints w B a' (lim m')) (sm : Sg s m) (sm' : Sg s' m') (hm : (lim m).length ≤ 200) (hm' : (lim m').length ≤ 200) (e1 : -5000 ≤ x) (e2 : x ≤ 5000) (e3 : -5000 ≤ x') (e4 : x' ≤ 5000)
    (hP : mulW (s * (m : Int)) x (s * (m : Int)) x = (p1, lim pn, p3)) (hQ : mulW (s' * (m' : Int)) x' (s' * (m' : Int)) x' = (q1, lim qn, q3)) (sp : Sg p1 pn) (sq : Sg q1 qn) (lp : (lim pn).length ≤ 400) (lq : (lim qn).length ≤ 400) (x1 : -5000 ≤ p3 ∧ p3 ≤ 5000) (x2 : -5000 ≤ q3 ∧ q3 ≤ 5000) :
    Calls Tryz.prog 85 #[.agg #[.int .i64 s, .slice a (lim m).length c, .int .i64 x, .int .i64 s', .slice a' (lim m').length c', .int .i64 x']] w (RetYR (addW (p1 * (pn : Int)) p3 (q1 * (qn : Int)) q3) w) := by
  obtain ⟨W0, hW0⟩ : ∃ W0 : World, (w.alloc (.cells #[.int .i64 s, .slice a (lim m).length c, .int .i64 x, .int .i64 s', .slice a' (lim m').length c', .int .i64 x'] 33)).alloc (.cells #[.int .i64 0, .slice none 0 0, .int .i64 0] 31) = W0 := ⟨_, rfl⟩
  obtain ⟨b1, b2, b3, b4⟩ := two_boxT w 33 31 #[.int .i64 s, .slice a (lim m).length c, .int .i64 x, .int .i64 s', .slice a' (lim m').length c', .int .i64 x'] #[.int .i64 0, .slice none 0 0, .int .i64 0]
  rw [hW0] at b1 b2 b3 b4
  have HW0 := Lib.hid hW0
  have P3 := Lib.hid b3
  have P4 := Lib.hid b4
  have SS := Lib.hid (show ∀ W, Below W0.heap.size W0 W → (W.cell? ⟨w.heap.size, 0, none⟩ = some (.int .i64 s) ∧ W.cell? ⟨w.heap.size, 1, none⟩ = some (.slice a (lim m).length c) ∧ W.cell? ⟨w.heap.size, 2, none⟩ = some (.int .i64 x) ∧ W.cell? ⟨w.heap.size, 3, none⟩ = some (.int .i64 s') ∧ W.cell? ⟨w.heap.size, 4, none⟩ = some (.slice a' (lim m').length c') ∧ W.cell? ⟨w.heap.size, 5, none⟩ = some (.int .i64 x')) from fun W hW => (b1.below hW).six)
  have ST := Lib.hid (show ∀ W u v z, Below W0.heap.size W0 W → (fun W : World => W.cell? ⟨w.heap.size, 0, none⟩ = some (.int .i64 s) ∧ W.cell? ⟨w.heap.size, 1, none⟩ = some (.slice a (lim m).length c) ∧ W.cell? ⟨w.heap.size, 2, none⟩ = some (.int .i64 x) ∧ W.cell? ⟨w.heap.size, 3, none⟩ = some (.int .i64 s') ∧ W.cell? ⟨w.heap.size, 4, none⟩ = some (.slice a' (lim m').length c') ∧ W.cell? ⟨w.heap.size, 5, none⟩ = some (.int .i64 x')) (((W.setCell ⟨w.heap.size + 1, 0, none⟩ u).setCell ⟨w.heap.size + 1, 1, none⟩ v).setCell ⟨w.heap.size + 1, 2, none⟩ z) from fun W u v z hW =>
    ((((b1.below hW).far (p := ⟨w.heap.size + 1, 0, none⟩) (by simp <;> omega) u).far (p := ⟨w.heap.size + 1, 1, none⟩) (by simp <;> omega) v).far (p := ⟨w.heap.size + 1, 2, none⟩) (by simp <;> omega) z).six)
  have SR := Lib.hid (show ∀ W, Below W0.heap.size W0 W → _ from fun W hW => (b2.below hW).tri6)
  have hT : Below W0.heap.size W0 W0 := Below.refl _ _
  have hT' : Below W0.heap.size W0 W0.drew := hT.drew
  have IX := Lib.hid (show ∀ W, Below W0.heap.size W0 W → Ints W B a (lim m) ∧ Ints W B a' (lim m') ∧ B ≤ W.heap.size from fun W hW => ⟨hx.below ((b3.mono hB).trans (hW.mono (by omega))), hx'.below ((b3.mono hB).trans (hW.mono (by omega))), by have := hW.size; omega⟩)
  have HM1 := Lib.hid (show ∀ W, Below W0.heap.size W0 W → Calls Tryz.prog 78 #[.agg #[.int .i64 s, .slice a (lim m).length c, .int .i64 x], .agg #[.int .i64 s, .slice a (lim m).length c, .int .i64 x]] W fun e w' => ∃ a c, e = .returned (.agg #[.int .i64 p1, .slice a (lim pn).length c, .int .i64 p3]) ∧ (lim pn).length ≤ c ∧ Own w' W0.heap.size a (lim pn) ∧ Below W.heap.size W w' ∧ Below W0.heap.size W0 w' from
    fun W hW => by
      have := sMul3 s a m c x s a m c x W B B (IX.out W hW).2.2 (IX.out W hW).2.2 (IX.out W hW).1 (IX.out W hW).1 sm sm (by omega) (by omega) (by omega) (by omega) (by omega) (by omega)
      rw [hP] at this
      exact this.mono fun e w' ⟨a, c, he, hc, ho, hb⟩ => ⟨a, c, he, hc, ho.mono hW.size, hb, hW.trans (hb.mono hW.size)⟩)
  have HM2 := Lib.hid (show ∀ W, Below W0.heap.size W0 W → Calls Tryz.prog 78 #[.agg #[.int .i64 s', .slice a' (lim m').length c', .int .i64 x'], .agg #[.int .i64 s', .slice a' (lim m').length c', .int .i64 x']] W fun e w' => ∃ a c, e = .returned (.agg #[.int .i64 q1, .slice a (lim qn).length c, .int .i64 q3]) ∧ (lim qn).length ≤ c ∧ Own w' W0.heap.size a (lim qn) ∧ Below W.heap.size W w' ∧ Below W0.heap.size W0 w' from
    fun W hW => by
      have := sMul3 s' a' m' c' x' s' a' m' c' x' W B B (IX.out W hW).2.2 (IX.out W hW).2.2 (IX.out W hW).2.1 (IX.out W hW).2.1 sm' sm' (by omega) (by omega) (by omega) (by omega) (by omega) (by omega)
      rw [hQ] at this
      exact this.mono fun e w' ⟨a, c, he, hc, ho, hb⟩ => ⟨a, c, he, hc, ho.mono hW.size, hb, hW.trans (hb.mono hW.size)⟩)
  obtain ⟨⟨u1, u2, u3⟩, hu⟩ : ∃ u, u = addW (p1 * (pn : Int)) p3 (q1 * (qn : Int)) q3 := ⟨_, rfl⟩
  have HAD := Lib.hid (show ∀ (a b : Option Addr) (c d : Nat) W, Below W0.heap.size W0 W → Own W W0.heap.size a (lim pn) → Own W W0.heap.size b (lim qn) → (lim pn).length ≤ c → (lim qn).length ≤ d → Calls Tryz.prog 147 #[.agg #[.int .i64 p1, .slice a (lim pn).length c, .int .i64 p3], .agg #[.int .i64 q1, .slice b (lim qn).length d, .int .i64 q3]] W fun e w' => ∃ a c, e = .returned (.agg #[.int .i64 u1, .slice a u2.length c, .int .i64 u3]) ∧ u2.length ≤ c ∧ Own w' W0.heap.size a u2 ∧ Below W0.heap.size W0 w' from
    fun a b c d W hW ho hp h1 h2 => by
      have := sAdd3 p1 a pn c p3 q1 b qn d q3 W _ _ (Nat.le_refl _) (Nat.le_refl _) ho.ints hp.ints sp sq lp lq (by omega) (by omega) (by omega) (by omega) h1 h2
      rw [← hu] at this
      exact this.mono fun e w' ⟨a, c, he, hc, ho, hb⟩ => ⟨a, c, he, hc, ho.mono hW.size, hW.trans (hb.mono hW.size)⟩)
  rw [← hu]
  obtain ⟨k1, k2, k3, k4, k5, k6⟩ := SS.out _ hT
  clear b1 b2 b3 b4 hx hx' hW0 hB sm sm' hm hm' e1 e2 e3 e4 hP hQ sp sq lp lq x1 x2 hu IX
  go_enter Tryz.func85, Tryz.ntmps85
  go_wp2_with fail
  rw [HW0.out]
  go_region_held3 (fun W => W.cell? ⟨w.heap.size, 0, none⟩ = some (.int .i64 s) ∧ W.cell? ⟨w.heap.size, 1, none⟩ = some (.slice a (lim m).length c) ∧ W.cell? ⟨w.heap.size, 2, none⟩ = some (.int .i64 x) ∧ W.cell? ⟨w.heap.size, 3, none⟩ = some (.int .i64 s') ∧ W.cell? ⟨w.heap.size, 4, none⟩ = some (.slice a' (lim m').length c') ∧ W.cell? ⟨w.heap.size, 5, none⟩ = some (.int .i64 x'))
    (first | exact SS.out _ (by assumption) | exact ST.out _ _ _ _ (by assumption))
    (first
    | (go_at_call 78; with_reducible refine (HM1.out _ (by assumption)).mono ?_; rintro e v1 ⟨y1, f1, rfl, hc1, ho1, hbb1, hb1⟩)
    | (go_at_call 78; with_reducible refine (HM2.out _ (by assumption)).mono ?_; rintro e v2 ⟨y2, f2, rfl, hc2, ho2, hbb2, hb2⟩; have ho12 := Own.below ho1 hbb2)
    | (go_at_call 147; with_reducible refine (HAD.out _ _ _ _ _ (by assumption) ho12 ho2 hc1 hc2).mono ?_; rintro e v3 ⟨y3, f3, rfl, hc3, ho3, hb3⟩; obtain ⟨q1', q2', q3', q4', q5', q6'⟩ := SR.out _ hb3))
  all_goals
    go_wp2_with fail
    refine bodyPost_ret (v := .agg #[.int .i64 u1, .slice y3 u2.length f3, .int .i64 u3]) (by simp [results, Tryz.results85, go_sem, *]) rfl ?_
    exact retYR_end (g := w.heap.size + 1) (r := (u1, u2, u3)) P3.out P4.out hb3 (by omega) (by omega) _ _ _ ho3 hc3


set_option maxRecDepth 100000 in
set_option maxHeartbeats 8000000 in
theorem sSquareOfExact (s : Int) (a : Option Addr) (xs : List Int) (c : Nat) (x : Int) (s' : Int) (a' : Option Addr) (xs' : List Int) (c' : Nat) (x' : Int) (w : World) (B : Nat) (hB : B ≤ w.heap.size) (hx : Ints w B a xs) (hx' : Ints w B a' xs') (hl : xs.length ≤ 9223372036854775807) (hl' : xs'.length ≤ 9223372036854775807) (hc1 : xs.length ≤ c) (hc2 : xs'.length ≤ c') :
    Calls Tryz.prog 19 #[.agg #[.int .i64 s, .slice a xs.length c, .int .i64 x, .int .i64 s', .slice a' xs'.length c', .int .i64 x']] w (RetYC (sqY s xs x s' xs' x') w.heap.size w) := by
  obtain ⟨W0, hW0⟩ : ∃ W0 : World, (w.alloc (.cells #[.int .i64 s, .slice a xs.length c, .int .i64 x, .int .i64 s', .slice a' xs'.length c', .int .i64 x'] 33)).alloc (.cells #[.int .i64 0, .slice none 0 0, .int .i64 0] 31) = W0 := ⟨_, rfl⟩
  obtain ⟨p1, p2, p3, p4⟩ := two_boxT w 33 31 #[.int .i64 s, .slice a xs.length c, .int .i64 x, .int .i64 s', .slice a' xs'.length c', .int .i64 x'] #[.int .i64 0, .slice none 0 0, .int .i64 0]
  rw [hW0] at p1 p2 p3 p4
  have HW0 := Lib.hid hW0
  have P3 := Lib.hid p3
  have P4 := Lib.hid p4
  have SS := Lib.hid (show ∀ W, Below W0.heap.size W0 W → (W.cell? ⟨w.heap.size, 0, none⟩ = some (.int .i64 s) ∧ W.cell? ⟨w.heap.size, 1, none⟩ = some (.slice a xs.length c) ∧ W.cell? ⟨w.heap.size, 2, none⟩ = some (.int .i64 x) ∧ W.cell? ⟨w.heap.size, 3, none⟩ = some (.int .i64 s') ∧ W.cell? ⟨w.heap.size, 4, none⟩ = some (.slice a' xs'.length c') ∧ W.cell? ⟨w.heap.size, 5, none⟩ = some (.int .i64 x')) from fun W hW => (p1.below hW).six)
  have SR := Lib.hid (show ∀ W, Below W0.heap.size W0 W → _ from fun W hW => (p2.below hW).tri6)
  have hT : Below W0.heap.size W0 W0 := Below.refl _ _
  have IX := Lib.hid (show ∀ W, Below W0.heap.size W0 W → Ints W B a xs ∧ Ints W B a' xs' ∧ B ≤ W.heap.size from fun W hW => ⟨hx.below ((p3.mono hB).trans (hW.mono (by omega))), hx'.below ((p3.mono hB).trans (hW.mono (by omega))), by have := hW.size; omega⟩)
  have HV := Lib.hid (show ∀ W, Below W0.heap.size W0 W → Calls Tryz.prog 76 #[.agg #[.int .i64 s, .slice a xs.length c, .int .i64 x, .int .i64 s', .slice a' xs'.length c', .int .i64 x']] W fun e w' => e = .returned (.bool (dyB s xs x && dyB s' xs' x')) ∧ Below W0.heap.size W0 w' from
    fun W hW => (sPairE s a xs c x s' a' xs' c' x' W B (IX.out W hW).2.2 hl hl' (IX.out W hW).1 (IX.out W hW).2.1).mono fun e w' ⟨he, hb⟩ => ⟨he, hW.trans (hb.mono hW.size)⟩)
  obtain ⟨k1, k2, k3, k4, k5, k6⟩ := SS.out _ hT
  by_cases hv : dyB s xs x = true ∧ dyB s' xs' x' = true
  rotate_left
  · rw [sqY_no hv]
    rw [both_no hv] at HV
    clear p1 p2 p3 p4 hx hx' hW0 hB hv hl hl' IX hc1 hc2
    go_enter Tryz.func19, Tryz.ntmps19
    go_wp2_with fail
    rw [HW0.out]
    refine (HV.out _ hT).mono ?_
    rintro e w1 ⟨rfl, hb⟩
    obtain ⟨q1, q2, q3, q4, q5, q6⟩ := SR.out _ hb
    clear k1 k2 k3 k4 k5 k6
    go_wp2_with fail
    refine bodyPost_ret (v := .tuple #[.agg #[.int .i64 0, .slice none 0 0, .int .i64 0], .int .i64 1]) (by simp [results, Tryz.results19, go_sem, *]) rfl ?_
    exact retYC_zero (g := w.heap.size + 1) 1 P3.out P4.out hb (by omega) _ _ _
  · rw [sqY_yes hv.1 hv.2]
    obtain ⟨m, rfl, hm, sm, e1, e2⟩ := isDy_of (dyB_iff.1 hv.1)
    obtain ⟨m', rfl, hm', sm', e3, e4⟩ := isDy_of (dyB_iff.1 hv.2)
    rw [hv.1, hv.2] at HV
    rw [zv_lim, zv_lim]
    obtain ⟨p1', pn, p3', hP, sp, lp⟩ := mulW_form (x := x) (y := x) sm sm hm hm
    obtain ⟨q1', qn, q3', hQ, sq, lq⟩ := mulW_form (x := x') (y := x') sm' sm' hm' hm'
    have HM1 := Lib.hid (show ∀ W, Below W0.heap.size W0 W → Calls Tryz.prog 78 #[.agg #[.int .i64 s, .slice a (lim m).length c, .int .i64 x], .agg #[.int .i64 s, .slice a (lim m).length c, .int .i64 x]] W fun e w' => ∃ a c, e = .returned (.agg #[.int .i64 p1', .slice a (lim pn).length c, .int .i64 p3']) ∧ (lim pn).length ≤ c ∧ Own w' W0.heap.size a (lim pn) ∧ Below W.heap.size W w' ∧ Below W0.heap.size W0 w' from
      fun W hW => by
        have := sMul3 s a m c x s a m c x W B B (IX.out W hW).2.2 (IX.out W hW).2.2 (IX.out W hW).1 (IX.out W hW).1 sm sm (by omega) (by omega) (by omega) (by omega) (by omega) (by omega)
        rw [hP] at this
        exact this.mono fun e w' ⟨a, c, he, hc, ho, hb⟩ => ⟨a, c, he, hc, ho.mono hW.size, hb, hW.trans (hb.mono hW.size)⟩)
    have HM2 := Lib.hid (show ∀ W, Below W0.heap.size W0 W → Calls Tryz.prog 78 #[.agg #[.int .i64 s', .slice a' (lim m').length c', .int .i64 x'], .agg #[.int .i64 s', .slice a' (lim m').length c', .int .i64 x']] W fun e w' => ∃ a c, e = .returned (.agg #[.int .i64 q1', .slice a (lim qn).length c, .int .i64 q3']) ∧ (lim qn).length ≤ c ∧ Own w' W0.heap.size a (lim qn) ∧ Below W.heap.size W w' ∧ Below W0.heap.size W0 w' from
      fun W hW => by
        have := sMul3 s' a' m' c' x' s' a' m' c' x' W B B (IX.out W hW).2.2 (IX.out W hW).2.2 (IX.out W hW).2.1 (IX.out W hW).2.1 sm' sm' (by omega) (by omega) (by omega) (by omega) (by omega) (by omega)
        rw [hQ] at this
        exact this.mono fun e w' ⟨a, c, he, hc, ho, hb⟩ => ⟨a, c, he, hc, ho.mono hW.size, hb, hW.trans (hb.mono hW.size)⟩)
    rw [hP, hQ]
    have HI1 := Lib.hid (show ∀ (a : Option Addr) (c : Nat) W, Below W0.heap.size W0 W → Own W W0.heap.size a (lim pn) → Calls Tryz.prog 77 #[.agg #[.int .i64 p1', .slice a (lim pn).length c, .int .i64 p3']] W fun e w' => e = .returned (.bool (dyB p1' (lim pn) p3')) ∧ Below W0.heap.size W0 w' from
      fun a c W hW ho => (sDy p1' a (lim pn) c p3' W W.heap.size (Nat.le_refl _) (by omega) ho.ints).mono fun e w' ⟨he, hb⟩ => ⟨he, hW.trans (hb.mono hW.size)⟩)
    have HI2 := Lib.hid (show ∀ (a : Option Addr) (c : Nat) W, Below W0.heap.size W0 W → Own W W0.heap.size a (lim qn) → Calls Tryz.prog 77 #[.agg #[.int .i64 q1', .slice a (lim qn).length c, .int .i64 q3']] W fun e w' => e = .returned (.bool (dyB q1' (lim qn) q3')) ∧ Below W0.heap.size W0 w' from
      fun a c W hW ho => (sDy q1' a (lim qn) c q3' W W.heap.size (Nat.le_refl _) (by omega) ho.ints).mono fun e w' ⟨he, hb⟩ => ⟨he, hW.trans (hb.mono hW.size)⟩)
    cases h1 : dyB p1' (lim pn) p3'
    · rw [sqF_no (fun h => by rw [h.1] at h1; cases h1)]
      rw [h1] at HI1
      clear p1 p2 p3 p4 hx hx' hW0 hB hv hl hl' IX hm sm e1 e2 hm' sm' e3 e4 hP hQ sp sq lp lq hc1 hc2 h1
      go_enter Tryz.func19, Tryz.ntmps19
      go_wp2_with fail
      rw [HW0.out]
      refine (HV.out _ hT).mono ?_
      rintro e w1 ⟨rfl, hb⟩
      clear k1 k2 k3 k4 k5 k6
      obtain ⟨k1, k2, k3, k4, k5, k6⟩ := SS.out _ hb
      go_wp2_with fail
      refine (HM1.out _ hb).mono ?_
      rintro e w2 ⟨y2, f2, rfl, hc2, ho2, _, hb2⟩
      clear k1 k2 k3 k4 k5 k6 hc2
      go_wp2_with fail
      refine (HI1.out _ _ _ hb2 ho2).mono ?_
      rintro e w3 ⟨rfl, hb3⟩
      clear ho2 hb2 hb
      obtain ⟨k1, k2, k3, k4, k5, k6⟩ := SS.out _ hb3
      obtain ⟨q1, q2, q3, q4, q5, q6⟩ := SR.out _ hb3
      clear k1 k2 k3 k4 k5 k6
      go_wp2_with fail
      refine bodyPost_ret (v := .tuple #[.agg #[.int .i64 0, .slice none 0 0, .int .i64 0], .int .i64 3]) (by simp [results, Tryz.results19, go_sem, *]) rfl ?_
      exact retYC_zero (g := w.heap.size + 1) 3 P3.out P4.out hb3 (by omega) _ _ _
    · cases h2 : dyB q1' (lim qn) q3'
      · rw [sqF_no (fun h => by rw [h.2] at h2; cases h2)]
        rw [h1] at HI1
        rw [h2] at HI2
        clear p1 p2 p3 p4 hx hx' hW0 hB hv hl hl' IX hm sm e1 e2 hm' sm' e3 e4 hP hQ sp sq lp lq hc1 hc2 h1 h2
        go_enter Tryz.func19, Tryz.ntmps19
        go_wp2_with fail
        rw [HW0.out]
        refine (HV.out _ hT).mono ?_
        rintro e w1 ⟨rfl, hb⟩
        clear k1 k2 k3 k4 k5 k6
        obtain ⟨k1, k2, k3, k4, k5, k6⟩ := SS.out _ hb
        go_wp2_with fail
        refine (HM1.out _ hb).mono ?_
        rintro e w2 ⟨y2, f2, rfl, hc2, ho2, _, hb2⟩
        clear k1 k2 k3 k4 k5 k6 hc2
        go_wp2_with fail
        refine (HI1.out _ _ _ hb2 ho2).mono ?_
        rintro e w3 ⟨rfl, hb3⟩
        clear ho2 hb2 hb
        obtain ⟨k1, k2, k3, k4, k5, k6⟩ := SS.out _ hb3
        go_wp2_with fail
        refine (HM2.out _ hb3).mono ?_
        rintro e w4 ⟨y4, f4, rfl, hc4, ho4, _, hb4⟩
        clear k1 k2 k3 k4 k5 k6 hc4
        go_wp2_with fail
        refine (HI2.out _ _ _ hb4 ho4).mono ?_
        rintro e w5 ⟨rfl, hb5⟩
        clear ho4 hb4 hb3
        obtain ⟨k1, k2, k3, k4, k5, k6⟩ := SS.out _ hb5
        obtain ⟨q1, q2, q3, q4, q5, q6⟩ := SR.out _ hb5
        clear k1 k2 k3 k4 k5 k6
        go_wp2_with fail
        refine bodyPost_ret (v := .tuple #[.agg #[.int .i64 0, .slice none 0 0, .int .i64 0], .int .i64 3]) (by simp [results, Tryz.results19, go_sem, *]) rfl ?_
        exact retYC_zero (g := w.heap.size + 1) 3 P3.out P4.out hb5 (by omega) _ _ _
      · rw [sqF_yes h1 h2, zv_lim, zv_lim]
        simp only
        have x1 := dyB_exp h1
        have x2 := dyB_exp h2
        obtain ⟨⟨u1, u2, u3⟩, hu⟩ : ∃ u, u = addW (p1' * (pn : Int)) p3' (q1' * (qn : Int)) q3' := ⟨_, rfl⟩
        obtain ⟨ur, uk, uz, hU1, hU2, hU3⟩ := addW_form (x := p3') (y := q3') sp sq lp lq (by omega) (by omega) (by omega) (by omega)
        rw [h1] at HI1
        rw [h2] at HI2
        have HU := Lib.hid (show u2.length ≤ 9223372036854775807 from by
          have h2 : u2 = lim uk := by have := hu.trans hU1; injection this with _ h; injection h
          rw [h2]
          omega)
        have HSQ := Lib.hid (show ∀ W, Below W0.heap.size W0 W → Calls Tryz.prog 85 #[.agg #[.int .i64 s, .slice a (lim m).length c, .int .i64 x, .int .i64 s', .slice a' (lim m').length c', .int .i64 x']] W fun e w' => ∃ a c, e = .returned (.agg #[.int .i64 u1, .slice a u2.length c, .int .i64 u3]) ∧ u2.length ≤ c ∧ Own w' W0.heap.size a u2 ∧ Below W0.heap.size W0 w' from
          fun W hW => by
            have := sSquare3 s a m c x s' a' m' c' x' p1' pn p3' q1' qn q3' W B (IX.out W hW).2.2 (IX.out W hW).1 (IX.out W hW).2.1 sm sm' hm hm' e1 e2 e3 e4 hP hQ sp sq lp lq x1 x2
            rw [← hu] at this
            exact this.mono fun e w' ⟨a, c, he, hc, ho, hb⟩ => ⟨a, c, he, hc, ho.mono hW.size, hW.trans (hb.mono hW.size)⟩)
        rw [← hu]
        obtain ⟨⟨r1, r2, r4, r3⟩, hr⟩ : ∃ r, r = fitY (u1, u2, u3) := ⟨_, rfl⟩
        have HLM := Lib.hid (show ∀ (a : Option Addr) (c : Nat) W, u2.length ≤ c → Own W W0.heap.size a u2 → Below W0.heap.size W0 W → Calls Tryz.prog 84 #[.agg #[.int .i64 u1, .slice a u2.length c, .int .i64 u3]] W fun e w' => ∃ a c, e = .returned (.tuple #[.agg #[.int .i64 r1, .slice a r2.length c, .int .i64 r4], .int .i64 r3]) ∧ r2.length ≤ c ∧ Own w' W0.heap.size a r2 ∧ Below W0.heap.size W0 w' from
          fun a c W hc ho hW => by
            have := sFitY u1 u2 u3 a c W W0.heap.size HU.out hc ho
            rw [← hr] at this
            exact this.mono fun e w' ⟨a, c, he, hc, ho, hb⟩ => ⟨a, c, he, hc, ho, hW.trans (hb.mono hW.size)⟩)
        rw [← hr]
        clear p1 p2 p3 p4 hx hx' hW0 hB hv hl hl' IX hm sm e1 e2 hm' sm' e3 e4 hP hQ sp sq lp lq hc1 hc2 h1 h2 x1 x2 hu hU1 hU2 hU3 hr
        go_enter Tryz.func19, Tryz.ntmps19
        go_wp2_with fail
        rw [HW0.out]
        refine (HV.out _ hT).mono ?_
        rintro e w1 ⟨rfl, hb⟩
        clear k1 k2 k3 k4 k5 k6
        obtain ⟨k1, k2, k3, k4, k5, k6⟩ := SS.out _ hb
        go_wp2_with fail
        refine (HM1.out _ hb).mono ?_
        rintro e w2 ⟨y2, f2, rfl, hc2, ho2, _, hb2⟩
        clear k1 k2 k3 k4 k5 k6 hc2
        go_wp2_with fail
        refine (HI1.out _ _ _ hb2 ho2).mono ?_
        rintro e w3 ⟨rfl, hb3⟩
        clear ho2 hb2 hb
        obtain ⟨k1, k2, k3, k4, k5, k6⟩ := SS.out _ hb3
        go_wp2_with fail
        refine (HM2.out _ hb3).mono ?_
        rintro e w4 ⟨y4, f4, rfl, hc4, ho4, _, hb4⟩
        clear k1 k2 k3 k4 k5 k6 hc4
        go_wp2_with fail
        refine (HI2.out _ _ _ hb4 ho4).mono ?_
        rintro e w5 ⟨rfl, hb5⟩
        clear ho4 hb4 hb3
        obtain ⟨k1, k2, k3, k4, k5, k6⟩ := SS.out _ hb5
        go_wp2_with fail
        refine (HSQ.out _ hb5).mono ?_
        rintro e w6 ⟨y6, f6, rfl, hc6, ho6, hb6⟩
        clear k1 k2 k3 k4 k5 k6
        go_wp2_with fail
        refine (HLM.out _ _ _ hc6 ho6 hb6).mono ?_
        rintro e w7 ⟨a4, c4, rfl, hc4, ho4, hb7⟩
        have HC4 := Lib.hid hc4
        have HO4 := Lib.hid ho4
        clear hc6 ho6 hc4 ho4
        obtain ⟨q1, q2, q3, q4, q5, q6⟩ := SR.out _ hb7
        have hsz : w.heap.size + 1 < w7.heap.size := by have := hb7.size; have := P4.out; omega
        go_wp2_with fail
        refine bodyPost_ret (v := .tuple #[.agg #[.int .i64 r1, .slice a4 r2.length c4, .int .i64 r4], .int .i64 r3]) (by simp [results, Tryz.results19, go_sem, *]) rfl ?_
        exact (retYC_end (g := w.heap.size + 1) (r := (r1, r2, r4, r3)) P3.out P4.out hb7 (by omega) (by omega) _ _ _ HO4.out HC4.out).alloc _
end Go.Proofs.YtnnbfoemmgddeaaGreatDoor
