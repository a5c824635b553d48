/-
  Contracts: moduli by the model. Conditions: none. The steps to the root of a complex number: maths of floats of at least 0. Conditions: none. Contracts: roots of complex numbers, by the program and by the model. Conditions: the library's table is as its initialiser lays it. Contracts: roots of complex numbers, by the model. Conditions: none.
-/
import Derived.Test.YtgppagmejhgmaaaGreatDoorKm
import Derived.Test.YtgppagmejhgmaaaGreatDoorWc
namespace Go.Proofs.YtgppagmejhgmaaaGreatDoor
set_option linter.unusedVariables false
open Go Go.RowKit

open Go Go.RowKit Ieee

theorem lim_190 {n C : Nat} (h : n < 2 ^ C) (hC : C = 4197) : (lim n).length ≤ 190 := by
  have h1 : (lim (2 ^ C)).length ≤ 190 := pow_len (by omega)
  exact Nat.le_trans (lim_le_of_le (Nat.le_of_lt h)) h1
/-- The exact value of a part without its sign, and its square. -/
theorem part_forms {m : Nat} {i : Int} (hF : Fit m i) : ∃ (s : Int) (u : Nat) (e p1 : Int) (p : Nat) (px : Int), redZ (sg false m) i = (s, lim u, e) ∧ Sg s u ∧ (lim u).length ≤ 3 ∧ -5000 ≤ e ∧ e ≤ 5000 ∧
    mulW (s * (u : Int)) e (s * (u : Int)) e = (p1, lim p, px) ∧ Sg p1 p ∧ (lim p).length ≤ 200 ∧ -2148 ≤ px ∧ px ≤ 5000 ∧ p1 * (p : Int) * 2 ^ (px - -2148).toNat = ((mg (fw false m i) * mg (fw false m i) : Nat) : Int) := by
  have hd := dyF_fw false hF
  have h3 := redZ_lenF false (m := m) i hF.1
  obtain ⟨⟨s, l, e⟩, hr⟩ : ∃ r, redZ (sg false m) i = r := ⟨_, rfl⟩
  rw [hr] at hd h3
  obtain ⟨a1, a2, a3, a4⟩ := sq_at (fw_lt false m i) (isF_fw false hF) hd
  obtain ⟨u, rfl, g1, g2, g3, g4⟩ := isDy_of (dyB_iff.1 a1)
  rw [zv_lim] at a2 a3 a4
  obtain ⟨p1, p, px, f1, f2, f3⟩ := mulW_form (x := e) (y := e) g2 g2 g1 g1
  rw [f1] at a2 a3 a4
  rw [zv_lim] at a4
  obtain ⟨b1, b2⟩ := dyB_exp a2
  exact ⟨s, u, e, p1, p, px, hr, g2, h3, g3, g4, f1, f2, dyB_len a2, a3, b2, a4⟩

set_option maxRecDepth 100000 in
set_option maxHeartbeats 4000000 in
theorem sL08Modulus (x y : Nat) (hx : x < 2 ^ 64) (hy : y < 2 ^ 64) (fx : isF .f64 x = true) (fy : isF .f64 y = true) (w : World) :
    Calls Tryz.prog 42 #[.complex .f64 x y] w fun e w' => e = .returned (.tuple #[.float .f64 (rtI (mg x * mg x + mg y * mg y)), .bool (isF .f64 (rtI (mg x * mg x + mg y * mg y)))]) ∧ Below w.heap.size w w' := by
  have hT : Below w.heap.size w w := Below.refl _ _
  obtain ⟨s, m, i, rfl, hF, hC⟩ := fin_fw hx fx
  obtain ⟨t, n, j, rfl, hG, hD⟩ := fin_fw hy fy
  have HA := Lib.hid (sAbsC (fw s m i) hx fx)
  have HB := Lib.hid (sAbsC (fw t n j) hy fy)
  have ea : ab (fw s m i) = fw false m i := abs_fw s m i
  have eb : ab (fw t n j) = fw false n j := abs_fw t n j
  rw [ea] at HA
  rw [eb] at HB
  have m1 : mg (fw s m i) = mg (fw false m i) := by rw [mg_fw s hF, mg_fw false hF]
  have m2 : mg (fw t n j) = mg (fw false n j) := by rw [mg_fw t hG, mg_fw false hG]
  rw [m1, m2]
  have z1 := zero_fw s hF
  have z2 := zero_fw t hG
  obtain ⟨C, hCC⟩ : ∃ C, C = 4197 := ⟨_, rfl⟩
  have hN := N_lt (fw_lt false m i) (fw_lt false n j) (isF_fw false hF) (isF_fw false hG) hCC
  obtain ⟨N, hNe⟩ : ∃ N, N = mg (fw false m i) * mg (fw false m i) + mg (fw false n j) * mg (fw false n j) := ⟨_, rfl⟩
  rw [← hNe] at hN ⊢
  by_cases h0 : m = 0 ∧ n = 0
  · obtain ⟨rfl, rfl⟩ := h0
    have e0 : N = 0 := by
      rw [hNe, mg_fw false hF, mg_fw false hG]
      simp
    rw [e0, rtI_zero, isF_0]
    rw [decide_eq_true rfl] at z1 z2
    obtain ⟨X, hX⟩ : ∃ X, fw s 0 i = X := ⟨_, rfl⟩
    obtain ⟨Y, hY⟩ : ∃ Y, fw t 0 j = Y := ⟨_, rfl⟩
    rw [hX] at z1 ⊢
    rw [hY] at z2 ⊢
    clear HA HB ea eb m1 m2 hX hY hN hNe e0 hF hG hC hD fx fy hx hy
    go_enter Tryz.func42, Tryz.ntmps42
    go_wp2_with fail
    go_ret2
    exact ⟨rfl, hT⟩
  · have hN0 : N ≠ 0 := by
      rw [hNe, mg_fw false hF, mg_fw false hG]
      have hp : 0 < 2 ^ (i + 1074).toNat := Nat.pow_pos (by omega)
      have hq : 0 < 2 ^ (j + 1074).toNat := Nat.pow_pos (by omega)
      rcases Nat.eq_zero_or_pos m with h | h
      · have hn : 0 < n := by omega
        have := Nat.mul_pos (Nat.mul_pos hn hq) (Nat.mul_pos hn hq)
        omega
      · have := Nat.mul_pos (Nat.mul_pos h hp) (Nat.mul_pos h hp)
        omega
    have hzz : (decide (m = 0) && decide (n = 0)) = false := by
      by_cases hm : m = 0
      · by_cases hn : n = 0
        · exact absurd ⟨hm, hn⟩ h0
        · simp [hn]
      · simp [hm]
    obtain ⟨ca, hca, d1, hd1, hd1'⟩ := ge_dom hF hG
    obtain ⟨cb, hcb, d2, hd2, hd2'⟩ := ge_dom hG hF
    have r1 : d1 = true → rtI N = fw false m i := fun h => by
      rw [hNe, dom_rt (fw_lt false m i) (isF_fw false hF) (hd1' h), fw_mg false hF]
    have r2 : d2 = true → rtI N = fw false n j := fun h => by
      rw [hNe, Nat.add_comm, dom_rt (fw_lt false n j) (isF_fw false hG) (hd2' h), fw_mg false hG]
    have fa := isF_fw false hF
    have fb := isF_fw false hG
    have ma : ∀ W : World, (binOp .mul 24 (.float .f64 (fw false n j)) (.float .f64 4877398396442247168)).run Tryz.prog W = .ok (.float .f64 ca) W := fun W => run_float_arith W _ _ _ _ _ _ hca
    have mb : ∀ W : World, (binOp .mul 24 (.float .f64 (fw false m i)) (.float .f64 4877398396442247168)).run Tryz.prog W = .ok (.float .f64 cb) W := fun W => run_float_arith W _ _ _ _ _ _ hcb
    obtain ⟨s1, u1, e1, p1, P1, px1, f1, f2, f3, f4, f5, f6, f7, f8, f9, f10, f11⟩ := part_forms hF
    obtain ⟨s2, u2, e2, q1, Q1, qx1, g1, g2, g3, g4, g5, g6, g7, g8, g9, g10, g11⟩ := part_forms hG
    have hadd : addW (p1 * (P1 : Int)) px1 (q1 * (Q1 : Int)) qx1 = (1, lim (od N), -2148 + (tw N : Int)) := by
      rw [addW_at f9 g9, f11, g11]
      have e0 : ((mg (fw false m i) * mg (fw false m i) : Nat) : Int) + ((mg (fw false n j) * mg (fw false n j) : Nat) : Int) = (N : Int) := by rw [hNe]; simp
      rw [e0]
      unfold redZ
      rw [Int.natAbs_natCast, Int.sign_eq_one_of_pos (by omega), redS_pos hN0]
    have hou := od_twk hN0
    have hol : (lim (od N)).length ≤ 190 := Nat.le_trans (lim_le_of_le (od_le N)) (lim_190 hN hCC)
    have htw : tw N ≤ 4300 := by
      have h1 : 2 ^ tw N ≤ N := by
        have h3 := (od_mul hN0).2
        have := Nat.mul_le_mul_right (2 ^ tw N) (show 1 ≤ od N by omega)
        omega
      have h2 : tw N < C := (Nat.pow_lt_pow_iff_right (a := 2) (by omega)).1 (Nat.lt_of_le_of_lt h1 hN)
      omega
    have hod := (od_mul hN0).2
    have HOA := Lib.hid (show ∀ W, Calls Tryz.prog 57 #[.float .f64 (fw false m i)] W fun e w' => ∃ a c, e = .returned (.agg #[.int .i64 s1, .slice a (lim u1).length c, .int .i64 e1]) ∧ Own w' W.heap.size a (lim u1) ∧ Below W.heap.size W w' from fun W => by
      have := sL03Of false m i hF hC W
      rw [f1] at this
      exact this.mono fun e w' ⟨a, c, he, _, ho, hb⟩ => ⟨a, c, he, ho, hb⟩)
    have HOB := Lib.hid (show ∀ W, Calls Tryz.prog 57 #[.float .f64 (fw false n j)] W fun e w' => ∃ a c, e = .returned (.agg #[.int .i64 s2, .slice a (lim u2).length c, .int .i64 e2]) ∧ Own w' W.heap.size a (lim u2) ∧ Below W.heap.size W w' from fun W => by
      have := sL03Of false n j hG hD W
      rw [g1] at this
      exact this.mono fun e w' ⟨a, c, he, _, ho, hb⟩ => ⟨a, c, he, ho, hb⟩)
    obtain ⟨A, hA⟩ : ∃ A, fw false m i = A := ⟨_, rfl⟩
    obtain ⟨B, hB⟩ : ∃ B, fw false n j = B := ⟨_, rfl⟩
    obtain ⟨X, hX⟩ : ∃ X, fw s m i = X := ⟨_, rfl⟩
    obtain ⟨Y, hY⟩ : ∃ Y, fw t n j = Y := ⟨_, rfl⟩
    rw [hA] at HA hd1 r1 fa mb HOA
    rw [hB] at HB hd2 r2 fb ma HOB
    rw [hX] at HA z1 ⊢
    rw [hY] at HB z2 ⊢
    rw [← z1, ← z2] at hzz
    clear z1 z2
    obtain ⟨R, hR⟩ : ∃ R, R = rtI N := ⟨_, rfl⟩
    rw [← hR] at r1 r2 ⊢
    obtain ⟨rf, hrf⟩ : ∃ rf, rf = isF .f64 R := ⟨_, rfl⟩
    rw [← hrf]
    cases d1
    · cases d2
      · have HMA := Lib.hid (show ∀ (a : Option Addr) (c : Nat) W, Own W w.heap.size a (lim u1) → Calls Tryz.prog 73 #[.agg #[.int .i64 s1, .slice a (lim u1).length c, .int .i64 e1], .agg #[.int .i64 s1, .slice a (lim u1).length c, .int .i64 e1]] W fun e w' => ∃ a c, e = .returned (.agg #[.int .i64 p1, .slice a (lim P1).length c, .int .i64 px1]) ∧ (lim P1).length ≤ c ∧ Own w' W.heap.size a (lim P1) ∧ Below W.heap.size W w' from
          fun a c W ho => by
            have := sMul3 s1 a u1 c e1 s1 a u1 c e1 W _ _ (Nat.le_refl _) (Nat.le_refl _) ho.ints ho.ints f2 f2 (by omega) (by omega) (by omega) (by omega) (by omega) (by omega)
            rw [f6] at this
            exact this.mono fun e w' ⟨a, c, he, hc, ho, hb⟩ => ⟨a, c, he, hc, ho, hb⟩)
        have HMB := Lib.hid (show ∀ (a : Option Addr) (c : Nat) W, Own W w.heap.size a (lim u2) → Calls Tryz.prog 73 #[.agg #[.int .i64 s2, .slice a (lim u2).length c, .int .i64 e2], .agg #[.int .i64 s2, .slice a (lim u2).length c, .int .i64 e2]] W fun e w' => ∃ a c, e = .returned (.agg #[.int .i64 q1, .slice a (lim Q1).length c, .int .i64 qx1]) ∧ (lim Q1).length ≤ c ∧ Own w' W.heap.size a (lim Q1) ∧ Below W.heap.size W w' from
          fun a c W ho => by
            have := sMul3 s2 a u2 c e2 s2 a u2 c e2 W _ _ (Nat.le_refl _) (Nat.le_refl _) ho.ints ho.ints g2 g2 (by omega) (by omega) (by omega) (by omega) (by omega) (by omega)
            rw [g6] at this
            exact this.mono fun e w' ⟨a, c, he, hc, ho, hb⟩ => ⟨a, c, he, hc, ho, hb⟩)
        obtain ⟨u, hu⟩ : ∃ u, u = od N := ⟨_, rfl⟩
        obtain ⟨ue, hue⟩ : ∃ ue : Int, ue = -2148 + (tw N : Int) := ⟨_, rfl⟩
        rw [← hu, ← hue] at hadd
        rw [← hu] at hou hol hod
        have HAD := Lib.hid (show ∀ (a b : Option Addr) (c d : Nat) W, Own W w.heap.size a (lim P1) → Own W w.heap.size b (lim Q1) → (lim P1).length ≤ c → (lim Q1).length ≤ d → Calls Tryz.prog 72 #[.agg #[.int .i64 p1, .slice a (lim P1).length c, .int .i64 px1], .agg #[.int .i64 q1, .slice b (lim Q1).length d, .int .i64 qx1]] W fun e w' => ∃ a c, e = .returned (.agg #[.int .i64 1, .slice a (lim u).length c, .int .i64 ue]) ∧ Own w' W.heap.size a (lim u) ∧ Below W.heap.size W w' from
          fun a b c d W ho hp h1 h2 => by
            have := sAdd3 p1 a P1 c px1 q1 b Q1 d qx1 W _ _ (Nat.le_refl _) (Nat.le_refl _) ho.ints hp.ints f7 g7 (by omega) (by omega) (by omega) (by omega) (by omega) (by omega) h1 h2
            rw [hadd] at this
            exact this.mono fun e w' ⟨a, c, he, _, ho, hb⟩ => ⟨a, c, he, ho, hb⟩)
        have HRT := Lib.hid (show ∀ (a : Option Addr) (c : Nat) W, Own W w.heap.size a (lim u) → Calls Tryz.prog 56 #[.agg #[.int .i64 1, .slice a (lim u).length c, .int .i64 ue]] W fun e w' => e = .returned (.tuple #[.float .f64 R, .bool rf]) ∧ Below W.heap.size W w' from
          fun a c W ho => (sRt8 a u c ue W _ (Nat.le_refl _) ho.ints (by omega) hol (by omega) (by omega)).mono fun e w' ⟨K, r, ex, ok, g1, g2, g3, g4, g5, g6⟩ => by
            have h6 : fw false (stk (u * 2 ^ K) r) (ex - 1) = R := by
              rw [hR]
              exact rtI_eq hou.symm hN0 (by omega) g2 g3
            rw [h6] at g4 g5
            rw [g4, ← hrf] at g5
            exact ⟨g5, g6⟩)
        clear hadd hou hol htw hod f1 f2 f3 f4 f5 f6 f7 f8 f9 f10 f11 g1 g2 g3 g4 g5 g6 g7 g8 g9 g10 g11 fa fb hA hB hX hY hR hrf hN hNe hN0 hF hG hC hD fx fy hx hy ea eb m1 m2 hca hcb hd1' hd2' h0 hCC r1 r2 hu hue
        go_enter Tryz.func42, Tryz.ntmps42
        go_wp2_with (first | (go_at_call 30; (first | (with_reducible refine (HA.out _).mono ?_) | (with_reducible refine (HB.out _).mono ?_)); rintro e w' ⟨rfl, rfl⟩))
        refine (HOA.out _).mono ?_
        rintro e1 w1 ⟨a1, c1, rfl, ho1, hb1⟩
        go_wp2_with fail
        refine (HOB.out _).mono ?_
        rintro e2 w2 ⟨a2, c2, rfl, ho2, hb2⟩
        have hbw2 := hb1.trans (hb2.mono hb1.size)
        have ho1' := ho1.below hb2
        have ho2' := ho2.mono hb1.size
        obtain ⟨W1, hW1⟩ : ∃ W1 : World, (w2.alloc (.cells #[.int .i64 s1, .slice a1 (lim u1).length c1, .int .i64 e1] 62)).alloc (.cells #[.int .i64 s2, .slice a2 (lim u2).length c2, .int .i64 e2] 62) = W1 := ⟨_, rfl⟩
        obtain ⟨b1, b2, b3, b4⟩ := two_boxT w2 62 62 #[.int .i64 s1, .slice a1 (lim u1).length c1, .int .i64 e1] #[.int .i64 s2, .slice a2 (lim u2).length c2, .int .i64 e2]
        have o1 := (ho1'.alloc (.cells #[.int .i64 s1, .slice a1 (lim u1).length c1, .int .i64 e1] 62)).alloc (.cells #[.int .i64 s2, .slice a2 (lim u2).length c2, .int .i64 e2] 62)
        have o2 := (ho2'.alloc (.cells #[.int .i64 s1, .slice a1 (lim u1).length c1, .int .i64 e1] 62)).alloc (.cells #[.int .i64 s2, .slice a2 (lim u2).length c2, .int .i64 e2] 62)
        rw [hW1] at b1 b2 b3 b4 o1 o2
        have HBW := Lib.hid (show ∀ W, Below W1.heap.size W1 W → Below w.heap.size w W ∧ w.heap.size ≤ W.heap.size from fun W hW => by
          have h1 := hbw2.trans ((b3.trans (hW.mono b3.size)).mono hbw2.size)
          exact ⟨h1, h1.size⟩)
        have SV := Lib.hid (show ∀ W, Below W1.heap.size W1 W → (W.cell? ⟨w2.heap.size, 0, none⟩ = some (.int .i64 s1) ∧ W.cell? ⟨w2.heap.size, 1, none⟩ = some (.slice a1 (lim u1).length c1) ∧ W.cell? ⟨w2.heap.size, 2, none⟩ = some (.int .i64 e1) ∧ W.cell? ⟨w2.heap.size + 1, 0, none⟩ = some (.int .i64 s2) ∧ W.cell? ⟨w2.heap.size + 1, 1, none⟩ = some (.slice a2 (lim u2).length c2) ∧ W.cell? ⟨w2.heap.size + 1, 2, none⟩ = some (.int .i64 e2)) from
          fun W hW => ⟨(b1.below hW).cell 0, (b1.below hW).cell 1, (b1.below hW).cell 2, (b2.below hW).cell 0, (b2.below hW).cell 1, (b2.below hW).cell 2⟩)
        have HM1 := Lib.hid (show ∀ W, Below W1.heap.size W1 W → Calls Tryz.prog 73 #[.agg #[.int .i64 s1, .slice a1 (lim u1).length c1, .int .i64 e1], .agg #[.int .i64 s1, .slice a1 (lim u1).length c1, .int .i64 e1]] W fun e w' => ∃ a c, e = .returned (.agg #[.int .i64 p1, .slice a (lim P1).length c, .int .i64 px1]) ∧ (lim P1).length ≤ c ∧ Own w' w.heap.size a (lim P1) ∧ Below W.heap.size W w' ∧ Below W1.heap.size W1 w' from
          fun W hW => (HMA.out _ _ W (o1.below hW)).mono fun e w' ⟨a, c, he, hc, ho, hb⟩ => ⟨a, c, he, hc, ho.mono (HBW.out W hW).2, hb, hW.trans (hb.mono hW.size)⟩)
        have HM2 := Lib.hid (show ∀ W, Below W1.heap.size W1 W → Calls Tryz.prog 73 #[.agg #[.int .i64 s2, .slice a2 (lim u2).length c2, .int .i64 e2], .agg #[.int .i64 s2, .slice a2 (lim u2).length c2, .int .i64 e2]] W fun e w' => ∃ a c, e = .returned (.agg #[.int .i64 q1, .slice a (lim Q1).length c, .int .i64 qx1]) ∧ (lim Q1).length ≤ c ∧ Own w' w.heap.size a (lim Q1) ∧ Below W.heap.size W w' ∧ Below W1.heap.size W1 w' from
          fun W hW => (HMB.out _ _ W (o2.below hW)).mono fun e w' ⟨a, c, he, hc, ho, hb⟩ => ⟨a, c, he, hc, ho.mono (HBW.out W hW).2, hb, hW.trans (hb.mono hW.size)⟩)
        have HA1 := Lib.hid (show ∀ (a b : Option Addr) (c d : Nat) W, Below W1.heap.size W1 W → Own W w.heap.size a (lim P1) → Own W w.heap.size b (lim Q1) → (lim P1).length ≤ c → (lim Q1).length ≤ d → Calls Tryz.prog 72 #[.agg #[.int .i64 p1, .slice a (lim P1).length c, .int .i64 px1], .agg #[.int .i64 q1, .slice b (lim Q1).length d, .int .i64 qx1]] W fun e w' => ∃ a c, e = .returned (.agg #[.int .i64 1, .slice a (lim u).length c, .int .i64 ue]) ∧ Own w' w.heap.size a (lim u) ∧ Below W1.heap.size W1 w' from
          fun a b c d W hW ho hp h1 h2 => (HAD.out _ _ _ _ W ho hp h1 h2).mono fun e w' ⟨a, c, he, ho, hb⟩ => ⟨a, c, he, ho.mono (HBW.out W hW).2, hW.trans (hb.mono hW.size)⟩)
        have HR1 := Lib.hid (show ∀ (a : Option Addr) (c : Nat) W, Below W1.heap.size W1 W → Own W w.heap.size a (lim u) → Calls Tryz.prog 56 #[.agg #[.int .i64 1, .slice a (lim u).length c, .int .i64 ue]] W fun e w' => e = .returned (.tuple #[.float .f64 R, .bool rf]) ∧ Below W1.heap.size W1 w' from
          fun a c W hW ho => (HRT.out _ _ W ho).mono fun e w' ⟨he, hb⟩ => ⟨he, hW.trans (hb.mono hW.size)⟩)
        have hV : Below W1.heap.size W1 W1 := Below.refl _ _
        have hVd : Below W1.heap.size W1 W1.drew := hV.drew
        clear b1 b2 b3 b4 o1 o2 ho1' ho2' ho1 ho2 hb1 hb2 hbw2
        clear HMA HMB HAD HRT HOA HOB HA HB
        go_wp2_with fail
        try rw [hW1]
        clear hW1
        go_region_held3 (fun W => W.cell? ⟨w2.heap.size, 0, none⟩ = some (.int .i64 s1) ∧ W.cell? ⟨w2.heap.size, 1, none⟩ = some (.slice a1 (lim u1).length c1) ∧ W.cell? ⟨w2.heap.size, 2, none⟩ = some (.int .i64 e1) ∧ W.cell? ⟨w2.heap.size + 1, 0, none⟩ = some (.int .i64 s2) ∧ W.cell? ⟨w2.heap.size + 1, 1, none⟩ = some (.slice a2 (lim u2).length c2) ∧ W.cell? ⟨w2.heap.size + 1, 2, none⟩ = some (.int .i64 e2))
          (exact SV.out _ (by assumption))
          (first
          | (go_at_call 73; with_reducible refine (HM1.out _ (by assumption)).mono ?_; rintro e v1 ⟨y1, f1, rfl, hc1, ho1, hbb1, hb1⟩)
          | (go_at_call 73; with_reducible refine (HM2.out _ (by assumption)).mono ?_; rintro e v2 ⟨y2, f2, rfl, hc2, ho2, hbb2, hb2⟩; have ho12 := Own.below ho1 hbb2)
          | (go_at_call 72; with_reducible refine (HA1.out _ _ _ _ _ (by assumption) ho12 ho2 hc1 hc2).mono ?_; rintro e v3 ⟨y3, f3, rfl, ho3, hb3⟩)
          | (go_at_call 56; with_reducible refine (HR1.out _ _ _ (by assumption) (by assumption)).mono ?_; rintro e v4 ⟨rfl, hb4⟩))
        all_goals
          have hbz := (HBW.out _ hb4).1
          go_wp2_with fail
          go_ret2
          exact ⟨rfl, hbz⟩
      · obtain rfl := r2 rfl
        rw [fb] at hrf
        subst hrf
        clear r1 r2 HOA HOB hadd hou hol htw hod f1 f2 f3 f4 f5 f6 f7 f8 f9 f10 f11 g1 g2 g3 g4 g5 g6 g7 g8 g9 g10 g11 fa fb hA hB hX hY hR hN hNe hN0 hF hG hC hD fx fy hx hy ea eb m1 m2 hca hcb hd1' hd2' h0 hCC
        go_enter Tryz.func42, Tryz.ntmps42
        go_wp2_with (first | (go_at_call 30; (first | (with_reducible refine (HA.out _).mono ?_) | (with_reducible refine (HB.out _).mono ?_)); rintro e w' ⟨rfl, rfl⟩))
        go_ret2
        exact ⟨rfl, hT⟩
    · obtain rfl := r1 rfl
      rw [fa] at hrf
      subst hrf
      clear r1 r2 HOA HOB hadd hou hol htw hod f1 f2 f3 f4 f5 f6 f7 f8 f9 f10 f11 g1 g2 g3 g4 g5 g6 g7 g8 g9 g10 g11 fa fb hA hB hX hY hR hN hNe hN0 hF hG hC hD fx fy hx hy ea eb m1 m2 hca hcb hd1' hd2' h0 hCC
      go_enter Tryz.func42, Tryz.ntmps42
      go_wp2_with (first | (go_at_call 30; (first | (with_reducible refine (HA.out _).mono ?_) | (with_reducible refine (HB.out _).mono ?_)); rintro e w' ⟨rfl, rfl⟩))
      go_ret2
      exact ⟨rfl, hT⟩

set_option maxHeartbeats 1000000 in
theorem sModulusOf (x y : Nat) (hx : x < 2 ^ 64) (hy : y < 2 ^ 64) (w : World) :
    Calls Tryz.prog 16 #[.complex .f64 x y] w fun e w' => e = .returned (.tuple #[.float .f64 (moR x y).1, .int .i64 (moR x y).2]) ∧ Below w.heap.size w w' := by
  have hT : Below w.heap.size w w := Below.refl _ _
  have HF := Lib.hid fun W => sFin x y W
  cases hf : (isF .f64 x && isF .f64 y)
  · have hfc : finC x y = false := hf
    rw [hfc] at HF
    rw [moR_no hf]
    clear hf hfc hx hy
    go_enter Tryz.func16, Tryz.ntmps16
    go_wp2_with fail
    refine (HF.out _).mono ?_
    rintro e w1 ⟨n, rfl, rfl⟩
    have hb := below_drewN hT n
    go_wp2_with fail
    go_ret2
    exact ⟨rfl, hb⟩
  · obtain ⟨fx, fy⟩ := both_yes hf
    have hfc : finC x y = true := hf
    rw [hfc] at HF
    rw [moR_yes hf]
    have HM := Lib.hid fun W => sL08Modulus x y hx hy fx fy W
    obtain ⟨R, hR⟩ : ∃ R, rtI (mg x * mg x + mg y * mg y) = R := ⟨_, rfl⟩
    rw [hR] at HM ⊢
    unfold fitF
    cases h : isF .f64 R
    · rw [h] at HM
      rw [if_neg (by decide)]
      clear hf hfc fx fy hx hy hR h
      go_enter Tryz.func16, Tryz.ntmps16
      go_wp2_with fail
      refine (HF.out _).mono ?_
      rintro e w1 ⟨n, rfl, rfl⟩
      have hb := below_drewN hT n
      go_wp2_with fail
      refine (HM.out _).mono ?_
      rintro e w2 ⟨rfl, hb2⟩
      have hb3 := hb.trans hb2
      clear hb hb2
      go_wp2_with fail
      go_ret2
      exact ⟨rfl, hb3⟩
    · rw [h] at HM
      rw [if_pos rfl]
      clear hf hfc fx fy hx hy hR h
      go_enter Tryz.func16, Tryz.ntmps16
      go_wp2_with fail
      refine (HF.out _).mono ?_
      rintro e w1 ⟨n, rfl, rfl⟩
      have hb := below_drewN hT n
      go_wp2_with fail
      refine (HM.out _).mono ?_
      rintro e w2 ⟨rfl, hb2⟩
      have hb3 := hb.trans hb2
      clear hb hb2
      go_wp2_with fail
      go_ret2
      exact ⟨rfl, hb3⟩

open Go Go.RowKit Ieee

/-- A float of at least 0 that is no NaN. -/
def NN (x : Nat) : Prop := x ≤ 0x7ff0000000000000
theorem NN.lt {x : Nat} (h : NN x) : x < 2 ^ 64 := by unfold NN at h; omega
theorem nn_read {x : Nat} (h : NN x) : (∃ m i, f64.read x = .number false m i ∧ (x = 0 ↔ m = 0) ∧ isF .f64 x = true) ∨ (f64.read x = .infinity false ∧ isF .f64 x = false ∧ x = 0x7ff0000000000000) := by
  unfold NN at h
  have h2 : (x / 2 ^ 63 % 2 == 1) = false := by
    rw [show x / 2 ^ 63 = 0 by omega]; rfl
  have hrd : f64.read x = if x < 2 ^ 52 then .number false x (-1074) else if x < 0x7ff0000000000000 then .number false (2 ^ 52 + x % 2 ^ 52) (-1074 + (x / 2 ^ 52 - 1 : Nat)) else .infinity false := by
    simp only [Format.read, f64_sw, f64_bin, f64_inf, f64_low, h2]
    rw [show x % 2 ^ 63 = x by omega]
    by_cases a : x < 2 ^ 52
    · rw [if_pos a, if_pos a]
    · rw [if_neg a, if_neg a]
      by_cases b : x < 0x7ff0000000000000
      · rw [if_pos b, if_pos b]
      · rw [if_neg b, if_neg b, if_pos (by omega)]
  by_cases a : x < 2 ^ 52
  · rw [if_pos a] at hrd
    refine .inl ⟨x, -1074, hrd, Iff.rfl, ?_⟩
    unfold isF
    have h3 : FloatKind.f64.format.read x = _ := hrd
    rw [h3]
  · rw [if_neg a] at hrd
    by_cases b : x < 0x7ff0000000000000
    · rw [if_pos b] at hrd
      refine .inl ⟨_, _, hrd, by omega, ?_⟩
      unfold isF
      have h3 : FloatKind.f64.format.read x = _ := hrd
      rw [h3]
    · rw [if_neg b] at hrd
      refine .inr ⟨hrd, ?_, by omega⟩
      unfold isF
      have h3 : FloatKind.f64.format.read x = _ := hrd
      rw [h3]
theorem nn_write (m : Nat) (i : Int) : f64.write (.number false m i) = rungOf m i ∧ NN (rungOf m i) := by
  refine ⟨?_, rungOf_le m i⟩
  show f64.nearest false m i = _
  rw [nearest_rung]
  rfl
theorem nn_inf : f64.write (.infinity false) = 0x7ff0000000000000 ∧ NN 0x7ff0000000000000 := ⟨by decide, Nat.le_refl _⟩
theorem nn_fw (m : Nat) (i : Int) : NN (fw false m i) := by
  unfold fw Format.word
  rw [if_neg (by decide)]
  exact rungOf_le m i
theorem read_2c : f64.read 4611686018427387904 = .number false (2 ^ 52) (-51) := by decide +kernel

theorem add_nn {a b : Nat} (ha : NN a) (hb : NN b) (fa : isF .f64 a = true) (fb : isF .f64 b = true) : ∃ r, floatBits .add .f64 a b = some r ∧ NN r := by
  rcases nn_read ha with ⟨m, i, h1, _, _⟩ | ⟨_, h, _⟩
  · rcases nn_read hb with ⟨n, j, g1, _, _⟩ | ⟨_, h, _⟩
    · have e : floatBits .add .f64 a b = ((f64.read a).sum (f64.read b)).map f64.write := rfl
      rw [e, h1, g1]
      obtain ⟨P, hP⟩ : ∃ P : Nat, signed false m (i - min i j).toNat + signed false n (j - min i j).toNat = (P : Int) := by
        rw [signed_false, signed_false]
        exact ⟨_, (Int.natCast_add _ _).symm⟩
      have hs : (if (P : Int) = 0 then (false && false) else decide ((P : Int) < 0)) = false := by
        split
        · rfl
        · exact decide_eq_false (by omega)
      obtain ⟨w1, w2⟩ := nn_write (P : Int).natAbs (min i j)
      refine ⟨_, ?_, w2⟩
      rw [← w1]
      simp only [Datum.sum, hP, Option.map_some]
      rw [hs]
    · rw [fb] at h; cases h
  · rw [fa] at h; cases h
theorem half_nn {a : Nat} (ha : NN a) : ∃ r, floatBits .quo .f64 a 4611686018427387904 = some r ∧ NN r ∧ (isF .f64 a = true → isF .f64 r = true) ∧ (isF .f64 a = false → isF .f64 r = false) := by
  have e : floatBits .quo .f64 a 4611686018427387904 = ((f64.read a).quotient (f64.fractionBits + 2) (f64.read 4611686018427387904)).map f64.write := rfl
  rcases nn_read ha with ⟨m, i, h1, _, h3⟩ | ⟨h1, h2, _⟩
  · obtain ⟨s, m', i', he, hF, hC⟩ := fin_fw ha.lt h3
    have hs : s = false := by
      cases s
      · rfl
      · exfalso
        have := sign_fw true m' i'
        rw [← he] at this
        have h4 : true.toNat = 1 := rfl
        unfold NN at ha
        omega
    subst hs
    refine ⟨_, by rw [he]; exact half_fw false hF, nn_fw _ _, fun _ => ?_, fun h => by rw [h3] at h; cases h⟩
    rw [he, isF_rung] at h3
    rw [isF_rung]
    have h1 := of_decide_eq_true h3
    have h2 : rawRung f64 m' (i' - 1) ≤ rawRung f64 m' i' := rawRung_mono f64 (c := i' - 1) (Int.le_refl _) (by omega) (Nat.mul_le_mul_left _ (Nat.pow_le_pow_right (by omega) (by omega)))
    exact decide_eq_true (Nat.lt_of_le_of_lt h2 h1)
  · refine ⟨0x7ff0000000000000, ?_, nn_inf.2, fun h => (by rw [h2] at h; cases h), fun _ => by decide +kernel⟩
    rw [e, h1, read_2c]
    simp only [Datum.quotient, Option.map_some]
    exact congrArg some nn_inf.1
theorem sq_nn {a : Nat} (ha : NN a) : f64.sqrt a = some (sq a) ∧ NN (sq a) ∧ (isF .f64 a = true → isF .f64 (sq a) = true) ∧ (isF .f64 a = false → isF .f64 (sq a) = false) ∧ (isF .f64 a = true → (FloatKind.f64.format.order a 0 == some .lt) = false) := by
  rcases nn_read ha with ⟨m, i, h1, _, h3⟩ | ⟨h1, h2, _⟩
  · obtain ⟨s, m', i', he, hF, hC⟩ := fin_fw ha.lt h3
    have hs : s = false := by
      cases s
      · rfl
      · exfalso
        have := sign_fw true m' i'
        rw [← he] at this
        have h4 : true.toNat = 1 := rfl
        unfold NN at ha
        omega
    subst hs
    refine ⟨by rw [he]; exact sqrt_some hF rfl, ?_, fun _ => by rw [he]; exact isF_sq hF rfl, fun h => (by rw [h3] at h; cases h), fun _ => by rw [he, lt0_fw false hF]; rfl⟩
    by_cases hm : m' = 0
    · have h4 : sq (fw false m' i') = fw false m' i' := by subst hm; unfold sq; rw [sqrt_zero]; rfl
      rw [he, h4]
      exact nn_fw _ _
    · obtain ⟨c, r, e, e1, _⟩ := sqrt_fw hF hm
      have h4 : sq (fw false m' i') = fw false (stk (m' * 2 ^ c) r) (e - 1) := by unfold sq; rw [e1]; rfl
      rw [he, h4]
      exact nn_fw _ _
  · have e : f64.sqrt a = some 0x7ff0000000000000 := by
      unfold Format.sqrt
      rw [h1]
      simp only [Datum.root]
      exact congrArg some nn_inf.1
    have e2 : sq a = 0x7ff0000000000000 := by unfold sq; rw [e]; rfl
    rw [e2]
    exact ⟨e, nn_inf.2, fun h => (by rw [h2] at h; cases h), fun _ => by decide +kernel, fun h => by rw [h2] at h; cases h⟩
theorem dbl_nn {a : Nat} (ha : NN a) : ∃ r, floatBits .mul .f64 4611686018427387904 a = some r ∧ NN r ∧ (a = 0 → r = 0) ∧ (a ≠ 0 → r ≠ 0) := by
  have e : floatBits .mul .f64 4611686018427387904 a = ((f64.read 4611686018427387904).product (f64.read a)).map f64.write := rfl
  rcases nn_read ha with ⟨m, i, h1, h2, h3⟩ | ⟨h1, h2, h3⟩
  · obtain ⟨w1, w2⟩ := nn_write (2 ^ 52 * m) (-51 + i)
    refine ⟨rungOf (2 ^ 52 * m) (-51 + i), ?_, w2, fun h => ?_, fun h => ?_⟩
    · rw [e, h1, read_2c]
      simp only [Datum.product, Option.map_some]
      rw [← w1]
      rfl
    · rw [h2.1 h, Nat.mul_zero, rungOf_zero]
    · obtain ⟨s, m', i', he, hF, hC⟩ := fin_fw ha.lt h3
      have hs : s = false := by
        cases s
        · rfl
        · exfalso
          have := sign_fw true m' i'
          rw [← he] at this
          have h4 : true.toNat = 1 := rfl
          unfold NN at ha
          omega
      subst hs
      obtain ⟨k, hr, hCk⟩ := read_fw false hF
      have h5 : f64.read a = .number false (m' * 2 ^ k) (i' - k) := by rw [he]; exact hr
      rw [h1] at h5
      cases h5
      have h6 : rungOf (m' * 2 ^ k) (i' - k) ≤ rungOf (2 ^ 52 * (m' * 2 ^ k)) (-51 + (i' - k)) := by
        refine rungOf_mono ⟨-51 + (i' - k), by omega, by omega, ?_⟩
        rw [show (-51 + (i' - (k : Int)) - (-51 + (i' - k))).toNat = 0 by omega, show (i' - (k : Int) - (-51 + (i' - k))).toNat = 51 by omega, Nat.pow_zero, Nat.mul_one, Nat.mul_comm (2 ^ 52)]
        exact Nat.mul_le_mul_left _ (by omega)
      have h7 : a = rungOf (m' * 2 ^ k) (i' - k) := by
        have h8 : a = rungOf m' i' := by
          rw [he]
          unfold fw Format.word
          rw [if_neg (by decide)]
        rw [h8, rungOf_shift]
      omega
  · refine ⟨0x7ff0000000000000, ?_, nn_inf.2, fun h => by omega, fun _ => by decide⟩
    rw [e, h1, read_2c]
    simp only [Datum.product]
    rw [if_neg (by decide)]
    exact congrArg some nn_inf.1
theorem quo_nn {a b : Nat} (ha : NN a) (fa : isF .f64 a = true) (hb : NN b) (h0 : b ≠ 0) : ∃ r, floatBits .quo .f64 a b = some r ∧ NN r := by
  have e : floatBits .quo .f64 a b = ((f64.read a).quotient (f64.fractionBits + 2) (f64.read b)).map f64.write := rfl
  rcases nn_read ha with ⟨m, i, h1, _, _⟩ | ⟨_, h, _⟩
  · rcases nn_read hb with ⟨n, j, g1, g2, _⟩ | ⟨g1, _, _⟩
    · have hn : n ≠ 0 := fun h => h0 (g2.2 h)
      rw [e, h1, g1]
      simp only [Datum.quotient, if_neg hn, Option.map_some]
      obtain ⟨w1, w2⟩ := nn_write (2 * (m <<< (f64.fractionBits + 2 + n.log2 - m.log2) / n) + (m <<< (f64.fractionBits + 2 + n.log2 - m.log2) % n != 0).toNat) (i - j - ((f64.fractionBits + 2 + n.log2 - m.log2 : Nat) : Int) - 1)
      exact ⟨_, congrArg some w1, w2⟩
    · rw [e, h1, g1]
      simp only [Datum.quotient, Option.map_some]
      obtain ⟨w1, w2⟩ := nn_write 0 0
      exact ⟨_, congrArg some w1, w2⟩
  · rw [fa] at h; cases h
/-- A quotient by 0 is none, or not finite. -/
theorem quo_0 {a : Nat} (ha : NN a) (fa : isF .f64 a = true) : floatBits .quo .f64 a 0 = none ∨ floatBits .quo .f64 a 0 = some 0x7ff0000000000000 := by
  have e : floatBits .quo .f64 a 0 = ((f64.read a).quotient (f64.fractionBits + 2) (f64.read 0)).map f64.write := rfl
  have h0 : f64.read 0 = .number false 0 (-1074) := by decide +kernel
  rcases nn_read ha with ⟨m, i, h1, _, _⟩ | ⟨_, h, _⟩
  · rw [e, h1, h0]
    simp only [Datum.quotient]
    by_cases hm : m = 0
    · simp [hm]
    · simp only [hm, if_true, if_false, Option.map_some]
      right
      exact congrArg some nn_inf.1
  · rw [fa] at h; cases h
theorem nn_eq0 {a : Nat} (ha : NN a) : (FloatKind.f64.format.order a 0 == some .eq) = decide (a = 0) := by
  rcases nn_read ha with ⟨m, i, h1, h2, h3⟩ | ⟨h1, _, h3⟩
  · obtain ⟨s, m', i', he, hF, hC⟩ := fin_fw ha.lt h3
    rw [he, zero_fw s hF, ← he]
    obtain ⟨k, hr, _⟩ := read_fw s hF
    have h5 : f64.read a = .number s (m' * 2 ^ k) (i' - k) := by rw [he]; exact hr
    rw [h1] at h5
    cases h5
    have hp : 0 < 2 ^ k := Nat.pow_pos (by omega)
    by_cases hm : m' = 0
    · subst hm
      rw [decide_eq_true rfl, decide_eq_true (h2.2 (by simp))]
    · rw [decide_eq_false hm, decide_eq_false (fun h => hm (by
        have := h2.1 h
        rcases Nat.mul_eq_zero.1 this with h6 | h6
        · exact h6
        · omega))]
  · subst h3
    decide +kernel

open Go Go.RowKit Ieee

def moN (x y : Nat) : Nat := rtI (mg x * mg x + mg y * mg y)
def stS (x y : Nat) : Nat := (floatBits .add .f64 (x % 2 ^ 63) (moN x y)).getD 0
def stT (x y : Nat) : Nat := sq ((floatBits .quo .f64 (stS x y) 4611686018427387904).getD 0)
def stQ (x y : Nat) : Nat := (floatBits .quo .f64 (y % 2 ^ 63) ((floatBits .mul .f64 4611686018427387904 (stT x y)).getD 0)).getD 0
def ltz (x : Nat) : Bool := FloatKind.f64.format.order x 0 == some .lt
def eqz (x : Nat) : Bool := FloatKind.f64.format.order x 0 == some .eq
def rcRe (x y : Nat) : Nat := if ltz x = true then stQ x y else stT x y
def rcIn (x y : Nat) : Nat := if ltz x = true then stT x y else stQ x y
def rcIm (x y : Nat) : Nat := if ltz y = true then Op.negFloat .f64 (rcIn x y) else rcIn x y
def rcOk (x y : Nat) : Bool := isF .f64 (moN x y) && isF .f64 (stS x y) && !decide (stT x y = 0) && isF .f64 (stQ x y)
/-- The root of a complex number, and the code. -/
def rcR (x y : Nat) : Nat × Nat × Int := if finC x y = true then (if (eqz x && eqz y) = true then (0, 0, 0) else if rcOk x y = true then (rcRe x y, rcIm x y, 0) else (0, 0, 3)) else (0, 0, 1)

structure Chain (x y A B M S h t u : Nat) : Prop where
  hA : x % 2 ^ 63 = A
  hB : y % 2 ^ 63 = B
  hM : moN x y = M
  nA : NN A
  nB : NN B
  fA : isF .f64 A = true
  fB : isF .f64 B = true
  add : floatBits .add .f64 A M = some S
  nS : NN S
  half : floatBits .quo .f64 S 4611686018427387904 = some h
  nh : NN h
  sqr : f64.sqrt h = some t
  nt : NN t
  dbl : floatBits .mul .f64 4611686018427387904 t = some u
  nu : NN u
  eS : stS x y = S
  eT : stT x y = t
  fin : isF .f64 S = true → isF .f64 h = true ∧ isF .f64 t = true
  inf : isF .f64 S = false → isF .f64 t = false
  u0 : t = 0 → u = 0
  q0 : t ≠ 0 → ∃ q, floatBits .quo .f64 B u = some q ∧ NN q ∧ stQ x y = q
  u1 : stQ x y = (floatBits .quo .f64 B u).getD 0
theorem chain {x y : Nat} (hx : x < 2 ^ 64) (hy : y < 2 ^ 64) (fx : isF .f64 x = true) (fy : isF .f64 y = true) (hM : isF .f64 (moN x y) = true) : ∃ A B S h t u, Chain x y A B (moN x y) S h t u := by
  obtain ⟨s, m, i, ex, hF, _⟩ := fin_fw hx fx
  obtain ⟨s', n, j, ey, hG, _⟩ := fin_fw hy fy
  have eA : x % 2 ^ 63 = fw false m i := by rw [ex]; exact abs_fw s m i
  have eB : y % 2 ^ 63 = fw false n j := by rw [ey]; exact abs_fw s' n j
  have nA : NN (x % 2 ^ 63) := by rw [eA]; exact nn_fw _ _
  have nB : NN (y % 2 ^ 63) := by rw [eB]; exact nn_fw _ _
  have fA : isF .f64 (x % 2 ^ 63) = true := by rw [eA]; exact isF_fw false hF
  have fB : isF .f64 (y % 2 ^ 63) = true := by rw [eB]; exact isF_fw false hG
  have nM : NN (moN x y) := nn_fw _ _
  obtain ⟨S, a1, a2⟩ := add_nn nA nM fA hM
  obtain ⟨h, b1, b2, b3, b4⟩ := half_nn a2
  obtain ⟨c1, c2, c3, c4, _⟩ := sq_nn b2
  obtain ⟨u, d1, d2, d3, d4⟩ := dbl_nn c2
  have eS : stS x y = S := by unfold stS; rw [a1]; rfl
  have eT : stT x y = sq h := by unfold stT; rw [eS, b1]; rfl
  have eU : stQ x y = (floatBits .quo .f64 (y % 2 ^ 63) u).getD 0 := by unfold stQ; rw [eT, d1]; rfl
  refine ⟨_, _, S, h, sq h, u, { hA := rfl, hB := rfl, hM := rfl, nA := nA, nB := nB, fA := fA, fB := fB, add := a1, nS := a2, half := b1, nh := b2, sqr := c1, nt := c2, dbl := d1, nu := d2, eS := eS, eT := eT, fin := fun g => ⟨b3 g, c3 (b3 g)⟩, inf := fun g => c4 (b4 g), u0 := d3, q0 := fun g => ?_, u1 := eU }⟩
  obtain ⟨q, e1, e2⟩ := quo_nn nB fB d2 (d4 g)
  exact ⟨q, e1, e2, by rw [eU, e1]; rfl⟩
theorem fin_re_im (x y : Nat) : finC (rcRe x y) (rcIm x y) = (isF .f64 (stT x y) && isF .f64 (stQ x y)) := by
  unfold finC rcIm rcRe rcIn
  cases ltz x <;> cases ltz y <;> simp [isF_neg, Bool.and_comm]
/-- What limitWide makes of the root. -/
theorem rcR_lim {x y A B S h t u : Nat} (hf : finC x y = true) (hz : (eqz x && eqz y) = false) (hM : isF .f64 (moN x y) = true) (c : Chain x y A B (moN x y) S h t u) (ht : t ≠ 0) : rcR x y = limC (rcRe x y) (rcIm x y) := by
  unfold rcR rcOk
  rw [if_pos hf, if_neg (by rw [hz]; decide), hM, c.eS, c.eT, decide_eq_false ht]
  have h1 := fin_re_im x y
  rw [c.eT] at h1
  cases hS : isF .f64 S
  · rw [c.inf hS] at h1
    rw [limC_no (by rw [h1]; rfl)]
    rfl
  · rw [(c.fin hS).2] at h1
    cases hq : isF .f64 (stQ x y)
    · rw [hq] at h1
      rw [limC_no (by rw [h1]; rfl)]
      rfl
    · rw [hq] at h1
      rw [limC_yes (by rw [h1]; rfl)]
      rfl
theorem rcR_t0 {x y A B S h t u : Nat} (hf : finC x y = true) (hz : (eqz x && eqz y) = false) (c : Chain x y A B (moN x y) S h t u) (ht : t = 0) : rcR x y = (0, 0, 3) := by
  unfold rcR rcOk
  rw [if_pos hf, if_neg (by rw [hz]; decide), c.eT, ht]
  simp

set_option maxRecDepth 100000 in
set_option maxHeartbeats 4000000 in
theorem iRootOfComplex (x y : Nat) (hx : x < 2 ^ 64) (hy : y < 2 ^ 64) (w : World) (hTab : Tab w) : Calls Tryz.prog 20 #[.complex .f64 x y] w fun e w' => e = .returned (.tuple #[.complex .f64 (rcR x y).1 (rcR x y).2.1, .int .i64 (rcR x y).2.2]) ∧ Below w.heap.size w w' := by
  have hT : Below w.heap.size w w := Below.refl _ _
  have HM := Lib.hid (iModulusOf x y hx hy w hTab)
  cases hf : (isF .f64 x && isF .f64 y)
  · have hr : rcR x y = (0, 0, 1) := by unfold rcR; rw [if_neg (by show ¬ (isF .f64 x && isF .f64 y) = true; rw [hf]; decide)]
    rw [moR_no hf] at HM
    rw [hr]
    clear hf hr hx hy hTab
    go_enter Tryz.func20, Tryz.ntmps20
    go_wp2_with fail
    refine HM.out.mono ?_
    rintro e w1 ⟨rfl, hb⟩
    go_wp2_with fail
    go_ret2
    exact ⟨rfl, hb⟩
  · obtain ⟨fx, fy⟩ := both_yes hf
    have hfc : finC x y = true := hf
    rw [moR_yes hf] at HM
    change Hid (Calls _ _ _ _ fun e w' => e = .returned (.tuple #[.float .f64 (fitF (moN x y)).1, .int .i64 (fitF (moN x y)).2]) ∧ Below w.heap.size w w') at HM
    have ez : ∀ X : Nat, (FloatKind.f64.format.order X 0 == some .eq) = eqz X := fun _ => rfl
    have el : ∀ X : Nat, (FloatKind.f64.format.order X 0 == some .lt) = ltz X := fun _ => rfl
    by_cases hz : (eqz x && eqz y) = true
    · have hr : rcR x y = (0, 0, 0) := by unfold rcR; rw [if_pos hfc, if_pos hz]
      obtain ⟨z1, z2⟩ := both_yes hz
      have hm0 : moN x y = 0 := by
        obtain ⟨s, m, i, ex, hF, _⟩ := fin_fw hx fx
        obtain ⟨s', n, j, ey, hG, _⟩ := fin_fw hy fy
        have h1 := zero_fw s hF
        have h2 := zero_fw s' hG
        rw [← ex, ez, z1] at h1
        rw [← ey, ez, z2] at h2
        have h3 : m = 0 := of_decide_eq_true h1.symm
        have h4 : n = 0 := of_decide_eq_true h2.symm
        unfold moN
        rw [ex, ey, mg_fw s hF, mg_fw s' hG, h3, h4]
        simp only [Nat.zero_mul, Nat.add_zero]
        exact rtI_zero
      rw [hm0, fitF_0] at HM
      rw [hr]
      rw [← ez] at z1 z2
      clear hr hm0 ez el hz hf hfc fx fy hx hy hTab
      go_enter Tryz.func20, Tryz.ntmps20
      go_wp2_with fail
      refine HM.out.mono ?_
      rintro e w1 ⟨rfl, hb⟩
      go_wp2_with fail
      go_ret2
      exact ⟨rfl, hb⟩
    · have hz : (eqz x && eqz y) = false := by simpa using hz
      cases hMf : isF .f64 (moN x y)
      · have hr : rcR x y = (0, 0, 3) := by unfold rcR rcOk; rw [if_pos hfc, if_neg (by rw [hz]; decide), hMf]; rfl
        rw [hr]
        unfold fitF at HM
        rw [if_neg (by rw [hMf]; decide)] at HM
        clear hr ez el hz hf hfc fx fy hx hy hTab hMf
        go_enter Tryz.func20, Tryz.ntmps20
        go_wp2_with fail
        refine HM.out.mono ?_
        rintro e w1 ⟨rfl, hb⟩
        go_wp2_with fail
        go_ret2
        exact ⟨rfl, hb⟩
      · obtain ⟨A, B, S, h, t, u, c⟩ := chain hx hy fx fy hMf
        unfold fitF at HM
        rw [if_pos hMf] at HM
        have HA := Lib.hid (show ∀ W, Calls Tryz.prog 44 #[.float .f64 x] W fun e w' => e = .returned (.float .f64 A) ∧ W = w' from fun W => by
          have := abs_any x W
          rw [c.hA] at this
          exact this)
        have HB := Lib.hid (show ∀ W, Calls Tryz.prog 44 #[.float .f64 y] W fun e w' => e = .returned (.float .f64 B) ∧ W = w' from fun W => by
          have := abs_any y W
          rw [c.hB] at this
          exact this)
        have r1 : ∀ W : World, (binOp .add 24 (.float .f64 A) (.float .f64 (moN x y))).run Tryz.prog W = .ok (.float .f64 S) W := fun W => run_float_arith W _ _ _ _ _ _ c.add
        have r2 : ∀ W : World, (binOp .quo 24 (.float .f64 S) (.float .f64 4611686018427387904)).run Tryz.prog W = .ok (.float .f64 h) W := fun W => run_float_arith W _ _ _ _ _ _ c.half
        have HS := Lib.hid (fun W => iSqrt c.sqr W)
        have ht0 := nn_eq0 c.nt
        have hzz : (((FloatKind.f64.format.order x 0 == some .eq) && (FloatKind.f64.format.order y 0 == some .eq)) : Bool) = false := hz
        by_cases htz : t = 0
        · rw [rcR_t0 hfc hz c htz]
          rw [decide_eq_true htz] at ht0
          obtain ⟨M, hM⟩ : ∃ M, moN x y = M := ⟨_, rfl⟩
          rw [hM] at HM r1
          clear hM c htz ez el hz hf hfc fx fy hx hy hTab hMf HB
          go_enter Tryz.func20, Tryz.ntmps20
          go_wp2_with fail
          refine HM.out.mono ?_
          rintro e w1 ⟨rfl, hb⟩
          go_wp2_with (first | (go_at_call 44; with_reducible refine (HA.out _).mono ?_; rintro e w' ⟨rfl, rfl⟩) | (go_at_call 33; with_reducible refine (HS.out _).mono ?_; rintro e w' ⟨rfl, rfl⟩))
          go_ret2
          exact ⟨rfl, hb⟩
        · rw [rcR_lim hfc hz hMf c htz]
          rw [decide_eq_false htz] at ht0
          obtain ⟨q, q1, _, q3⟩ := c.q0 htz
          have r3 : ∀ W : World, (binOp .mul 24 (.float .f64 4611686018427387904) (.float .f64 t)).run Tryz.prog W = .ok (.float .f64 u) W := fun W => run_float_arith W _ _ _ _ _ _ c.dbl
          have r4 : ∀ W : World, (binOp .quo 24 (.float .f64 B) (.float .f64 u)).run Tryz.prog W = .ok (.float .f64 q) W := fun W => run_float_arith W _ _ _ _ _ _ q1
          have HL := Lib.hid (show ∀ a b W, Calls Tryz.prog 46 #[.complex .f64 a b] W (Ret (.tuple #[.complex .f64 (limC a b).1 (limC a b).2.1, .int .i64 (limC a b).2.2]) W) from fun a b W => limitWide_any a b W)
          unfold rcIm rcRe rcIn
          rw [q3, c.eT]
          obtain ⟨M, hM⟩ : ∃ M, moN x y = M := ⟨_, rfl⟩
          rw [hM] at HM r1
          have hlx : (FloatKind.f64.format.order x 0 == some .lt) = ltz x := rfl
          have hly : (FloatKind.f64.format.order y 0 == some .lt) = ltz y := rfl
          clear hM c htz ez el hz hf hfc fx fy hx hy hTab hMf q3
          generalize ltz x = lx at hlx ⊢
          generalize ltz y = ly at hly ⊢
          cases lx <;> cases ly
          all_goals
            simp only [if_true, if_false, Bool.false_eq_true]
            go_enter Tryz.func20, Tryz.ntmps20
            go_wp2_with fail
            refine HM.out.mono ?_
            rintro e w1 ⟨rfl, hb⟩
            go_wp2_with (first | (go_at_call 44; (first | (with_reducible refine (HA.out _).mono ?_) | (with_reducible refine (HB.out _).mono ?_)); rintro e w' ⟨rfl, rfl⟩) | (go_at_call 33; with_reducible refine (HS.out _).mono ?_; rintro e w' ⟨rfl, rfl⟩))
            refine (HL.out _ _ _).mono ?_
            rintro e w2 ⟨n, rfl, rfl⟩
            have hb2 := below_drewN hb n
            clear hb
            go_wp2_with fail
            go_ret2
            exact ⟨rfl, hb2⟩

open Go Go.RowKit Ieee

theorem quo_inf_any {B : Nat} (nB : NN B) (fB : isF .f64 B = true) (W : World) : ∃ v n, (binOp .quo 24 (.float .f64 B) (.float .f64 0)).run Tryz.prog W = .ok (.float .f64 v) (W.drewN n) ∧ isF .f64 v = false := by
  obtain ⟨h1, h2⟩ := fop_spec Tryz.prog W .quo 24 .f64 B 0 rfl
  refine ⟨_, _, h1, ?_⟩
  rw [isF_congr h2]
  rcases quo_0 nB fB with h | h
  · unfold cf
    rw [h]
    decide +kernel
  · unfold cf
    rw [h]
    decide +kernel

def rcZ (x y : Nat) : Nat × Nat × Bool := if (eqz x && eqz y) = true then (0, 0, true) else if rcOk x y = true then (rcRe x y, rcIm x y, true) else (0, 0, false)

set_option maxRecDepth 100000 in
set_option maxHeartbeats 4000000 in
theorem sL08Complex (x y : Nat) (hx : x < 2 ^ 64) (hy : y < 2 ^ 64) (fx : isF .f64 x = true) (fy : isF .f64 y = true) (w : World) : Calls Tryz.prog 47 #[.complex .f64 x y] w fun e w' => e = .returned (.tuple #[.complex .f64 (rcZ x y).1 (rcZ x y).2.1, .bool (rcZ x y).2.2]) ∧ Below w.heap.size w w' := by
  have hT : Below w.heap.size w w := Below.refl _ _
  have HM := Lib.hid (show ∀ W, Calls Tryz.prog 42 #[.complex .f64 x y] W fun e w' => e = .returned (.tuple #[.float .f64 (moN x y), .bool (isF .f64 (moN x y))]) ∧ Below W.heap.size W w' from fun W => sL08Modulus x y hx hy fx fy W)
  have hzz : (((FloatKind.f64.format.order x 0 == some .eq) && (FloatKind.f64.format.order y 0 == some .eq)) : Bool) = (eqz x && eqz y) := rfl
  cases hz : (eqz x && eqz y)
  · rw [hz] at hzz
    cases hMf : isF .f64 (moN x y)
    · have hr : rcZ x y = (0, 0, false) := by unfold rcZ rcOk; rw [if_neg (by rw [hz]; decide), hMf]; rfl
      rw [hr]
      rw [hMf] at HM
      clear hr hz fx fy hx hy hMf
      go_enter Tryz.func47, Tryz.ntmps47
      go_wp2_with fail
      refine (HM.out _).mono ?_
      rintro e w1 ⟨rfl, hb⟩
      go_wp2_with fail
      go_ret2
      exact ⟨rfl, hb⟩
    · obtain ⟨A, B, S, h, t, u, c⟩ := chain hx hy fx fy hMf
      rw [hMf] at HM
      have HA := Lib.hid (show ∀ W, Calls Tryz.prog 30 #[.float .f64 x] W fun e w' => e = .returned (.float .f64 A) ∧ W = w' from fun W => by
        have := sAbsC x hx fx W
        rw [show ab x = A from c.hA] at this
        exact this)
      have HB := Lib.hid (show ∀ W, Calls Tryz.prog 30 #[.float .f64 y] W fun e w' => e = .returned (.float .f64 B) ∧ W = w' from fun W => by
        have := sAbsC y hy fy W
        rw [show ab y = B from c.hB] at this
        exact this)
      have HR := Lib.hid fun (v : Nat) (W : World) => sReal_any v W
      have r1 : ∀ W : World, (binOp .add 24 (.float .f64 A) (.float .f64 (moN x y))).run Tryz.prog W = .ok (.float .f64 S) W := fun W => run_float_arith W _ _ _ _ _ _ c.add
      have r2 : ∀ W : World, (binOp .quo 24 (.float .f64 S) (.float .f64 4611686018427387904)).run Tryz.prog W = .ok (.float .f64 h) W := fun W => run_float_arith W _ _ _ _ _ _ c.half
      cases hS : isF .f64 S
      · have hr : rcZ x y = (0, 0, false) := by unfold rcZ rcOk; rw [if_neg (by rw [hz]; decide), hMf, c.eS, hS]; rfl
        rw [hr]
        have HRS := Lib.hid (HR.out S)
        rw [hS] at HRS
        obtain ⟨M, hM⟩ : ∃ M, moN x y = M := ⟨_, rfl⟩
        rw [hM] at HM r1
        clear hr hz fx fy hx hy hMf c hM HB HR hS
        go_enter Tryz.func47, Tryz.ntmps47
        go_wp2_with fail
        refine (HM.out _).mono ?_
        rintro e w1 ⟨rfl, hb⟩
        go_wp2_with (go_at_call 30; with_reducible refine (HA.out _).mono ?_; rintro e w' ⟨rfl, rfl⟩)
        refine (HRS.out _).mono ?_
        rintro e w2 ⟨n, rfl, rfl⟩
        have hb2 := below_drewN hb n
        clear hb
        go_wp2_with fail
        go_ret2
        exact ⟨rfl, hb2⟩
      · obtain ⟨fh, ft⟩ := c.fin hS
        have hsq := sq_nn c.nh
        have htq : t = sq h := by
          have := c.sqr
          rw [hsq.1] at this
          exact (Option.some.inj this).symm
        have HRS := Lib.hid (HR.out S)
        rw [hS] at HRS
        have HF := Lib.hid (show ∀ W, Calls Tryz.prog 35 #[.float .f64 h] W fun e w' => e = .returned (.float .f64 t) ∧ Below W.heap.size W w' from fun W => by
          rw [htq]
          exact sL08Float h c.nh.lt fh (hsq.2.2.2.2 fh) W)
        have r3 : ∀ W : World, (binOp .mul 24 (.float .f64 4611686018427387904) (.float .f64 t)).run Tryz.prog W = .ok (.float .f64 u) W := fun W => run_float_arith W _ _ _ _ _ _ c.dbl
        by_cases htz : t = 0
        · have hr : rcZ x y = (0, 0, false) := by
            unfold rcZ rcOk
            rw [if_neg (by rw [hz]; decide), c.eT, htz]
            simp
          rw [hr]
          have hu0 := c.u0 htz
          subst hu0
          have hqa := Lib.hid (quo_inf_any c.nB c.fB)
          have HRV := Lib.hid (show ∀ v W, isF .f64 v = false → Calls Tryz.prog 34 #[.float .f64 v] W (Ret (.bool false) W) from fun v W hv => by
            have := sReal_any v W
            rw [hv] at this
            exact this)
          obtain ⟨M, hM⟩ : ∃ M, moN x y = M := ⟨_, rfl⟩
          rw [hM] at HM r1
          clear hr hz fx fy hx hy hMf c hM HR hS fh ft hsq htq htz
          go_enter Tryz.func47, Tryz.ntmps47
          go_wp2_with fail
          refine (HM.out _).mono ?_
          rintro e w1 ⟨rfl, hb⟩
          go_wp2_with (go_at_call 30; with_reducible refine (HA.out _).mono ?_; rintro e w' ⟨rfl, rfl⟩)
          refine (HRS.out _).mono ?_
          rintro e w2 ⟨n, rfl, rfl⟩
          have hb2 := below_drewN hb n
          clear hb
          go_wp2_with fail
          refine (HF.out _).mono ?_
          rintro e w3 ⟨rfl, hb3⟩
          have hb4 := hb2.trans (hb3.mono hb2.size)
          clear hb2 hb3
          obtain ⟨v, k, hv, hvf⟩ := hqa.out w3
          have HV := Lib.hid hvf
          clear hvf
          go_wp2_with (go_at_call 30; with_reducible refine (HB.out _).mono ?_; rintro e w' ⟨rfl, rfl⟩)
          refine (HRV.out _ _ HV.out).mono ?_
          rintro e w5 ⟨n', rfl, rfl⟩
          have hb5 := below_drewN (below_drewN hb4 k) n'
          clear hb4
          go_wp2_with fail
          go_ret2
          exact ⟨rfl, by simpa using hb5⟩
        · obtain ⟨q, q1, _, q3⟩ := c.q0 htz
          have r4 : ∀ W : World, (binOp .quo 24 (.float .f64 B) (.float .f64 u)).run Tryz.prog W = .ok (.float .f64 q) W := fun W => run_float_arith W _ _ _ _ _ _ q1
          have HRQ := Lib.hid (HR.out q)
          have hlx : (FloatKind.f64.format.order x 0 == some .lt) = ltz x := rfl
          have hly : (FloatKind.f64.format.order y 0 == some .lt) = ltz y := rfl
          cases hq : isF .f64 q
          · have hr : rcZ x y = (0, 0, false) := by
              unfold rcZ rcOk
              rw [if_neg (by rw [hz]; decide), q3, hq]
              simp
            rw [hr]
            rw [hq] at HRQ
            obtain ⟨M, hM⟩ : ∃ M, moN x y = M := ⟨_, rfl⟩
            rw [hM] at HM r1
            clear hr hz fx fy hx hy hMf c hM HR hS fh ft hsq htq htz q1 q3 hq hlx hly
            go_enter Tryz.func47, Tryz.ntmps47
            go_wp2_with fail
            refine (HM.out _).mono ?_
            rintro e w1 ⟨rfl, hb⟩
            go_wp2_with (go_at_call 30; with_reducible refine (HA.out _).mono ?_; rintro e w' ⟨rfl, rfl⟩)
            refine (HRS.out _).mono ?_
            rintro e w2 ⟨n, rfl, rfl⟩
            have hb2 := below_drewN hb n
            clear hb
            go_wp2_with fail
            refine (HF.out _).mono ?_
            rintro e w3 ⟨rfl, hb3⟩
            have hb4 := hb2.trans (hb3.mono hb2.size)
            clear hb2 hb3
            go_wp2_with (go_at_call 30; with_reducible refine (HB.out _).mono ?_; rintro e w' ⟨rfl, rfl⟩)
            refine (HRQ.out _).mono ?_
            rintro e w5 ⟨n', rfl, rfl⟩
            have hb5 := below_drewN hb4 n'
            clear hb4
            go_wp2_with fail
            go_ret2
            exact ⟨rfl, hb5⟩
          · have hr : rcZ x y = (rcRe x y, rcIm x y, true) := by
              unfold rcZ rcOk
              rw [if_neg (by rw [hz]; decide), q3, hq, hMf, c.eS, hS, c.eT, decide_eq_false htz]
              rfl
            rw [hr]
            rw [hq] at HRQ
            unfold rcIm rcRe rcIn
            rw [q3, c.eT]
            obtain ⟨M, hM⟩ : ∃ M, moN x y = M := ⟨_, rfl⟩
            rw [hM] at HM r1
            clear hr hz fx fy hx hy hMf c hM HR hS fh ft hsq htq htz q1 q3 hq
            generalize ltz x = lx at hlx ⊢
            generalize ltz y = ly at hly ⊢
            cases lx <;> cases ly
            all_goals
              simp only [if_true, if_false, Bool.false_eq_true]
              go_enter Tryz.func47, Tryz.ntmps47
              go_wp2_with fail
              refine (HM.out _).mono ?_
              rintro e w1 ⟨rfl, hb⟩
              go_wp2_with (go_at_call 30; with_reducible refine (HA.out _).mono ?_; rintro e w' ⟨rfl, rfl⟩)
              refine (HRS.out _).mono ?_
              rintro e w2 ⟨n, rfl, rfl⟩
              have hb2 := below_drewN hb n
              clear hb
              go_wp2_with fail
              refine (HF.out _).mono ?_
              rintro e w3 ⟨rfl, hb3⟩
              have hb4 := hb2.trans (hb3.mono hb2.size)
              clear hb2 hb3
              go_wp2_with (go_at_call 30; with_reducible refine (HB.out _).mono ?_; rintro e w' ⟨rfl, rfl⟩)
              refine (HRQ.out _).mono ?_
              rintro e w5 ⟨n', rfl, rfl⟩
              have hb5 := below_drewN hb4 n'
              clear hb4
              go_wp2_with fail
              go_ret2
              exact ⟨rfl, hb5⟩
  · rw [hz] at hzz
    have hr : rcZ x y = (0, 0, true) := by unfold rcZ; rw [if_pos hz]
    rw [hr]
    obtain ⟨z1, z2⟩ := both_yes hz
    have z1' : (FloatKind.f64.format.order x 0 == some .eq) = true := z1
    have z2' : (FloatKind.f64.format.order y 0 == some .eq) = true := z2
    clear hr hz fx fy hx hy z1 z2 hzz HM
    go_enter Tryz.func47, Tryz.ntmps47
    go_wp2_with fail
    go_ret2
    exact ⟨rfl, hT⟩

set_option maxHeartbeats 1000000 in
theorem sRootOfComplex (x y : Nat) (hx : x < 2 ^ 64) (hy : y < 2 ^ 64) (w : World) : Calls Tryz.prog 21 #[.complex .f64 x y] w fun e w' => e = .returned (.tuple #[.complex .f64 (rcR x y).1 (rcR x y).2.1, .int .i64 (rcR x y).2.2]) ∧ Below w.heap.size w w' := by
  have hT : Below w.heap.size w w := Below.refl _ _
  have HF := Lib.hid fun W => sFin x y W
  cases hf : (isF .f64 x && isF .f64 y)
  · have hfc : finC x y = false := hf
    have hr : rcR x y = (0, 0, 1) := by unfold rcR; rw [if_neg (by rw [hfc]; decide)]
    rw [hfc] at HF
    rw [hr]
    clear hf hfc hx hy hr
    go_enter Tryz.func21, Tryz.ntmps21
    go_wp2_with fail
    refine (HF.out _).mono ?_
    rintro e w1 ⟨n, rfl, rfl⟩
    have hb := below_drewN hT n
    go_wp2_with fail
    go_ret2
    exact ⟨rfl, hb⟩
  · obtain ⟨fx, fy⟩ := both_yes hf
    have hfc : finC x y = true := hf
    rw [hfc] at HF
    have HM := Lib.hid fun W => sL08Complex x y hx hy fx fy W
    have hrr : rcR x y = ((rcZ x y).1, (rcZ x y).2.1, if (rcZ x y).2.2 = true then 0 else 3) := by
      unfold rcR rcZ
      rw [if_pos hfc]
      by_cases h1 : (eqz x && eqz y) = true
      · rw [if_pos h1, if_pos h1]; rfl
      · rw [if_neg h1, if_neg h1]
        by_cases h2 : rcOk x y = true
        · rw [if_pos h2, if_pos h2]; rfl
        · rw [if_neg h2, if_neg h2]; rfl
    have hz0 : (rcZ x y).2.2 = false → (rcZ x y).1 = 0 ∧ (rcZ x y).2.1 = 0 := by
      unfold rcZ
      split
      · intro h; cases h
      · split
        · intro h; cases h
        · intro _; exact ⟨rfl, rfl⟩
    rw [hrr]
    obtain ⟨⟨a, b, ok⟩, hab⟩ : ∃ r, rcZ x y = r := ⟨_, rfl⟩
    rw [hab] at HM hz0 ⊢
    clear hrr hab hf hfc fx fy hx hy
    cases ok
    · obtain ⟨h1, h2⟩ := hz0 rfl
      simp only at h1 h2
      subst h1
      subst h2
      clear hz0
      simp only [Bool.false_eq_true, if_false]
      go_enter Tryz.func21, Tryz.ntmps21
      go_wp2_with fail
      refine (HF.out _).mono ?_
      rintro e w1 ⟨n, rfl, rfl⟩
      have hb := below_drewN hT n
      go_wp2_with fail
      refine (HM.out _).mono ?_
      rintro e w2 ⟨rfl, hb2⟩
      have hb3 := hb.trans hb2
      clear hb hb2
      go_wp2_with fail
      go_ret2
      exact ⟨rfl, hb3⟩
    · clear hz0
      simp only [if_true]
      go_enter Tryz.func21, Tryz.ntmps21
      go_wp2_with fail
      refine (HF.out _).mono ?_
      rintro e w1 ⟨n, rfl, rfl⟩
      have hb := below_drewN hT n
      go_wp2_with fail
      refine (HM.out _).mono ?_
      rintro e w2 ⟨rfl, hb2⟩
      have hb3 := hb.trans hb2
      clear hb hb2
      go_wp2_with fail
      go_ret2
      exact ⟨rfl, hb3⟩
end Go.Proofs.YtgppagmejhgmaaaGreatDoor
