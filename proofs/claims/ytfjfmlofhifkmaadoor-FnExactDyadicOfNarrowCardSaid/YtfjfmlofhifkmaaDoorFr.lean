/-
  Contracts: the value of a float64 as an exact number, by the model. No conditions.
-/
import Derived.Test.YtfjfmlofhifkmaaDoorFq
namespace Go.Proofs.YtfjfmlofhifkmaaDoor
set_option linter.unusedVariables false
open Go Go.RowKit

theorem sg_div (s : Bool) (m K : Nat) (h : m % 2 ^ K = 0) : sg s m = sg s (m / 2 ^ K) * 2 ^ K := by
  rw [← sg_pow, Nat.div_mul_cancel (Nat.dvd_of_mod_eq_zero h)]
@[go_sem] theorem neg_fl (k : FloatKind) (b : Nat) : Op.unary .neg (.float k b) = pure (.float k (Op.negFloat k b)) := rfl
def intQ : Value → Int
  | .int _ n => n
  | _ => 0

set_option maxRecDepth 100000 in
set_option maxHeartbeats 4000000 in
theorem sL03Of (s : Bool) (m : Nat) (i : Int) (hF : Fit m i) (hC : Canon f64 m i) (w : World) : Calls Tryd.prog 81 #[.float .f64 (fw s m i)] w (RetYR (redZ (sg s m) i) w) := by
  obtain ⟨W0, hW0⟩ : ∃ W0 : World, w.alloc (.cells #[.int .i64 0, .slice none 0 0, .int .i64 0] 43) = W0 := ⟨_, rfl⟩
  obtain ⟨p1, p3, p4⟩ := one_box w 43 #[.int .i64 0, .slice none 0 0, .int .i64 0]
  rw [hW0] at p1 p3 p4
  have SR := Lib.hid (show ∀ W, Below W0.heap.size W0 W → _ from fun W hW => (p1.below hW).tri6)
  have P3 := Lib.hid p3
  have P4 := Lib.hid p4
  have hT : Below W0.heap.size W0 W0 := Below.refl _ _
  have hz := zero_fw s hF
  by_cases hm : m = 0
  · subst hm
    rw [decide_eq_true rfl] at hz
    have e0 : sg s 0 = 0 := by unfold sg; split <;> rfl
    have e1 : redZ (sg s 0) i = (0, [], 0) := by
      rw [e0]
      unfold redZ
      rw [show (0 : Int).natAbs = 0 from rfl, redS_zero]
    rw [e1]
    obtain ⟨X, hX⟩ : ∃ X, fw s 0 i = X := ⟨_, rfl⟩
    rw [hX] at hz ⊢
    obtain ⟨q1, q2, q3, q4, q5, q6⟩ := SR.out _ hT
    clear hX e0 e1 hF hC p1 p3 p4
    go_enter Tryd.func81, Tryd.ntmps81
    go_wp2_with fail
    clear hW0
    refine bodyPost_ret (v := .agg #[.int .i64 0, .slice none 0 0, .int .i64 0]) (by simp [results, Tryd.results81, go_sem, *]) rfl ?_
    first
    | exact ⟨none, 0, rfl, Nat.le_refl _, Own.nil, P3.out⟩
    | exact retYR_zero (g := w.heap.size) P3.out P4.out hT (by omega) _ _ _
  · rw [decide_eq_false hm] at hz
    obtain ⟨i1, i2⟩ := fit_bounds hF hm
    have i3 : i ≤ 971 := by
      obtain ⟨_, _, h4⟩ := hF
      have h5 := hC.2.2
      rw [f64_bin, f64_low] at h5
      have hh : ¬ (1 ≤ (i - 971).toNat) := fun hh => by
        have a1 : 2 ^ 1 ≤ 2 ^ (i - 971).toNat := Nat.pow_le_pow_right (by omega) hh
        rcases h5 with h5 | h5
        · omega
        · have a2 := Nat.mul_le_mul h5 a1
          omega
      omega
    have hm53 : m < 2 ^ 53 := hF.1
    have hbig : 1 ≤ i → 2 ^ 52 ≤ m := fun hh => by
      have h5 := hC.2.2
      rw [f64_bin, f64_low] at h5
      omega
    have hneg : Op.negFloat .f64 4845873199050653696 = 14069245235905429504 := by decide +kernel
    -- the tests and steps, by place
    have HGE := Lib.hid (show ∀ j : Int, -1074 ≤ j → j ≤ i → (FloatKind.f64.format.order (fw s m j) 4845873199050653696 == some .gt || FloatKind.f64.format.order (fw s m j) 4845873199050653696 == some .eq) = (!s && decide (1 ≤ j)) ∧ (FloatKind.f64.format.order (fw s m j) 14069245235905429504 == some .lt || FloatKind.f64.format.order (fw s m j) 14069245235905429504 == some .eq) = (s && decide (1 ≤ j)) from fun j h1 h2 =>
      ⟨ge_most s (Fit.of hm53 h1 (by omega)) (fun hh => hbig (by omega)), le_most s (Fit.of hm53 h1 (by omega)) (fun hh => hbig (by omega))⟩)
    have HHF := Lib.hid (show ∀ j : Int, 1 ≤ j → j ≤ i → ∀ W : World, (binOp .quo 41 (.float .f64 (fw s m j)) (.float .f64 4611686018427387904)).run Tryd.prog W = .ok (.float .f64 (fw s m (j - 1))) W from fun j h1 h2 W => run_float_arith W _ _ _ _ _ _ (half_fw s (Fit.of hm53 (by omega) (by omega))))
    have HDB := Lib.hid (show ∀ j : Int, -1074 ≤ j → j ≤ 0 → ∀ W : World, (binOp .mul 41 (.float .f64 (fw s m j)) (.float .f64 4611686018427387904)).run Tryd.prog W = .ok (.float .f64 (fw s m (j + 1))) W from fun j h1 h2 W => run_float_arith W _ _ _ _ _ _ (dbl_fw s (by omega) h1))
    have HCV := Lib.hid (show ∀ j : Int, -1074 ≤ j → j ≤ 0 → (∀ W : World, (convert 41 2 (.float .f64 (fw s m j))).run Tryd.prog W = .ok (.int .i64 (sg s (m / 2 ^ (-j).toNat))) W) ∧ (FloatKind.f64.format.order (floatOfInt .f64 (sg s (m / 2 ^ (-j).toNat))) (fw s m j) != some .eq) = decide (m % 2 ^ (-j).toNat ≠ 0) from fun j h1 h2 =>
      ⟨fun W => run_convert_float_int W _ _ _ _ _ _ (by rw [Tryd.underlying41]; rfl) Tryd.underlying2 (int_fw s (Fit.of hm53 h1 (by omega)) h2), whole_fw s (Fit.of hm53 h1 (by omega)) h2 hm⟩)
    have HEND := Lib.hid (show ∀ (K : Nat) (e : Int), m % 2 ^ K = 0 → e = i + K → K ≤ 1074 → ∃ z : Int, sg s (m / 2 ^ K) = z ∧ (-9007199254740992 ≤ z ∧ z ≤ 9007199254740992) ∧ (∀ W : World, Calls Tryd.prog 54 #[.int .i64 z] W (RetN z.sign z.natAbs W)) ∧
      (∀ (b : Option Addr) (d lo : Nat) W, Below W0.heap.size W0 W → Own W lo b (lim z.natAbs) → Calls Tryd.prog 121 #[.agg #[.int .i64 z.sign, .slice b (lim z.natAbs).length d], .int .i64 e] W fun e w' => ∃ a c, e = .returned (.agg #[.int .i64 (redZ (sg s m) i).1, .slice a (redZ (sg s m) i).2.1.length c, .int .i64 (redZ (sg s m) i).2.2]) ∧ (redZ (sg s m) i).2.1.length ≤ c ∧ Own w' W0.heap.size a (redZ (sg s m) i).2.1 ∧ Below W0.heap.size W0 w') from fun K e h1 h2 hK => by
      have hle : m / 2 ^ K ≤ m := Nat.div_le_self _ _
      have hbz : -9007199254740992 ≤ sg s (m / 2 ^ K) ∧ sg s (m / 2 ^ K) ≤ 9007199254740992 := by
        generalize m / 2 ^ K = y at hle
        unfold sg
        split <;> omega
      refine ⟨_, rfl, hbz, fun W => sOf _ (by omega) (by omega) W, ?_⟩
      intro b d lo W hW ho
      have hz := Sg.of (sg s (m / 2 ^ K))
      have hln : (sg s (m / 2 ^ K)).natAbs = m / 2 ^ K := sg_abs _ _
      have := sMake3 (sg s (m / 2 ^ K)).sign b (sg s (m / 2 ^ K)).natAbs d e W _ (Nat.le_refl _) ho.ints hz (by rw [hln, lim_length]; exact Nat.le_trans (dig_small (by omega)) (by omega)) (by omega) (by omega)
      have h5 : redS (sg s (m / 2 ^ K)).sign (sg s (m / 2 ^ K)).natAbs e = redZ (sg s m) i := by
        rw [sg_div s m K h1, redZ_pow, ← h2]
        rfl
      unfold RetYR at this
      rw [h5] at this
      exact this.mono fun e w' ⟨a, c, he, hc, ho, hb⟩ => ⟨a, c, he, hc, ho.mono hW.size, hW.trans (hb.mono hW.size)⟩)
    obtain ⟨f, hf⟩ : ∃ f : Int → Nat, fw s m = f := ⟨_, rfl⟩
    rw [hf] at HGE HHF HDB HCV hz ⊢
    obtain ⟨⟨r1, r2, r3⟩, hr⟩ : ∃ r, redZ (sg s m) i = r := ⟨_, rfl⟩
    rw [hr] at HEND ⊢
    clear p1 p3 p4 hF hC hm hm53 hbig hf hr
    go_enter Tryd.func81, Tryd.ntmps81
    go_wp2_with fail
    clear hz
    go_loopw [0, 3] (fun v e wr => ∃ h : Nat, v = .float .f64 (f (i - h)) ∧ e = .int .i64 (h : Int) ∧ (h = 0 ∨ 0 ≤ i - h) ∧ wr = W0) (fun _ e _ => (i - intQ e).toNat)
    case atStart => exact ⟨0, by simp, rfl, .inl rfl, by first | rfl | exact hW0⟩
    case round =>
      obtain ⟨h, rfl, rfl, hh, rfl⟩ := hrel
      by_cases hj : 1 ≤ i - h
      · obtain ⟨g1, g2⟩ := HGE.out (i - h) (by omega) (by omega)
        have g3 := HHF.out (i - h) hj (by omega)
        rw [decide_eq_true hj] at g1 g2
        have hhI : (h : Int) ≤ 2000 := by omega
        cases s
        · simp only [Bool.not_false, Bool.and_true, Bool.and_false] at g1 g2
          go_wp2_with fail
          go_roundw
          case rel => exact ⟨h + 1, by congr 2; omega, by go_num, by omega, by first | rfl | trivial⟩
          case measure => simp [intQ] <;> omega
        · simp only [Bool.not_true, Bool.and_true, Bool.false_and] at g1 g2
          go_wp2_with fail
          go_roundw
          case rel => exact ⟨h + 1, by congr 2; omega, by go_num, by omega, by first | rfl | trivial⟩
          case measure => simp [intQ] <;> omega
      · obtain ⟨g1, g2⟩ := HGE.out (i - h) (by omega) (by omega)
        rw [decide_eq_false hj, Bool.and_false] at g1 g2
        have hhI : (h : Int) ≤ 2000 := by omega
        go_wp2_with fail
        clear g1 g2 HGE HHF hneg
        go_loopw [0, 3] (fun v e wr' => ∃ d : Nat, v = .float .f64 (f (i - h + d)) ∧ e = .int .i64 ((h : Int) - d) ∧ (d = 0 ∨ i - h + d ≤ 0) ∧ wr' = wr) (fun _ e _ => (intQ e + 1100).toNat)
        case atStart => exact ⟨0, by simp, by simp, .inl rfl, rfl⟩
        case round =>
          obtain ⟨d, rfl, rfl, hd, rfl⟩ := hrel
          obtain ⟨j, hj2⟩ : ∃ j : Int, i - h + d = j := ⟨_, rfl⟩
          have hj0 : j ≤ 0 := by omega
          have hj1 : -1074 ≤ j := by omega
          rw [hj2]
          obtain ⟨c1, c2⟩ := HCV.out j hj1 hj0
          have hdI : (d : Int) ≤ 3100 := by omega
          by_cases hK : m % 2 ^ (-j).toNat = 0
          · obtain ⟨z, hz1, ⟨hz2, hz3⟩, hz4, hz5⟩ := HEND.out (-j).toNat ((h : Int) - d) hK (by omega) (by omega)
            have HOF := Lib.hid hz4
            have HMK := Lib.hid hz5
            rw [hz1] at c1 c2
            rw [decide_eq_false (fun hh => hh hK)] at c2
            clear hz1 hz4 hz5 HCV HDB HEND hK
            go_wp2_with fail
            refine (HOF.out _).mono ?_
            rintro e w4 ⟨a4, c4, rfl, hc4, ho4, hb4⟩
            go_wp2_with fail
            refine (HMK.out _ _ _ _ hb4 ho4).mono ?_
            rintro e w6 ⟨a6, c6, rfl, hc6, ho6, hb6⟩
            obtain ⟨q1, q2, q3, q4, q5, q6⟩ := SR.out _ hb6
            have HC6 := Lib.hid hc6
            have HO6 := Lib.hid ho6
            clear hc6 ho6 hc4 ho4 hb4
            go_wp2_with fail
            refine bodyPost_ret (v := .agg #[.int .i64 r1, .slice a6 r2.length c6, .int .i64 r3]) (by simp [results, Tryd.results81, go_sem, *]) rfl ?_
            exact retYR_end (g := w.heap.size) (r := (r1, r2, r3)) P3.out P4.out hb6 (by omega) (by omega) _ _ _ HO6.out HC6.out
          · have hjn : j ≠ 0 := fun hh => hK (by rw [hh]; simp [Nat.mod_one])
            rw [decide_eq_true (p := m % 2 ^ (-j).toNat ≠ 0) hK] at c2
            have c3 := HDB.out j hj1 hj0
            obtain ⟨z, hz⟩ : ∃ z, sg s (m / 2 ^ (-j).toNat) = z := ⟨_, rfl⟩
            rw [hz] at c1 c2
            clear HCV HDB HEND hK hz
            go_wp2_with fail
            go_roundw
            case rel => exact ⟨d + 1, by congr 2; omega, by go_num, .inr (by omega), by first | rfl | trivial⟩
            case measure => simp [intQ] <;> omega

set_option maxRecDepth 100000 in
set_option maxHeartbeats 1600000 in
theorem sDyadicOf (x : Nat) (hx : x < 2 ^ 64) (w : World) : Calls Tryd.prog 28 #[.float .f64 x] w (RetYC (dyF x) w.heap.size w) := by
  obtain ⟨W0, hW0⟩ : ∃ W0 : World, w.alloc (.cells #[.int .i64 0, .slice none 0 0, .int .i64 0] 43) = W0 := ⟨_, rfl⟩
  obtain ⟨p1, p3, p4⟩ := one_box w 43 #[.int .i64 0, .slice none 0 0, .int .i64 0]
  rw [hW0] at p1 p3 p4
  have SR := Lib.hid (show ∀ W, Below W0.heap.size W0 W → _ from fun W hW => (p1.below hW).tri6)
  have P3 := Lib.hid p3
  have P4 := Lib.hid p4
  have hT : Below W0.heap.size W0 W0 := Below.refl _ _
  have HRE := Lib.hid fun W => sReal_any x W
  cases hf : isF .f64 x
  · rw [hf] at HRE
    rw [dyF_no hf]
    clear p1 p3 p4 hx hf
    go_enter Tryd.func28, Tryd.ntmps28
    go_wp2_with fail
    clear hW0
    refine (HRE.out _).mono ?_
    rintro e w1 ⟨n, rfl, rfl⟩
    obtain ⟨q1, q2, q3, q4, q5, q6⟩ := SR.out _ (below_drewN hT n)
    go_wp2_with fail
    refine bodyPost_ret (v := .tuple #[.agg #[.int .i64 0, .slice none 0 0, .int .i64 0], .int .i64 1]) (by simp [results, Tryd.results28, go_sem, *]) rfl ?_
    exact retYC_zero (g := w.heap.size) 1 P3.out P4.out (below_drewN hT n) (by omega) _ _ _
  · rw [hf] at HRE
    obtain ⟨s, m, i, he, hF, hC⟩ := fin_fw hx hf
    rw [he, dyF_fw s hF]
    rw [he] at HRE
    have HL := Lib.hid fun W => sL03Of s m i hF hC W
    obtain ⟨X, hX⟩ : ∃ X, fw s m i = X := ⟨_, rfl⟩
    rw [hX] at HRE HL ⊢
    obtain ⟨⟨r1, r2, r3⟩, hr⟩ : ∃ r, redZ (sg s m) i = r := ⟨_, rfl⟩
    rw [hr] at HL ⊢
    clear p1 p3 p4 hx hf he hF hC hX hr
    go_enter Tryd.func28, Tryd.ntmps28
    go_wp2_with fail
    clear hW0
    refine (HRE.out _).mono ?_
    rintro e w1 ⟨n, rfl, rfl⟩
    have hbn : Below W0.heap.size W0 (W0.drewN n) := below_drewN hT n
    go_wp2_with fail
    refine (HL.out _).mono ?_
    rintro e w2 ⟨a6, c6, rfl, hc6, ho6, hb6⟩
    have hb6' : Below W0.heap.size W0 w2 := hbn.trans hb6
    obtain ⟨q1, q2, q3, q4, q5, q6⟩ := SR.out _ hb6'
    have HC6 := Lib.hid hc6
    have HO6 := Lib.hid (show Own w2 W0.heap.size a6 r2 from ho6)
    clear hc6 ho6 hb6 hbn
    go_wp2_with fail
    refine bodyPost_ret (v := .tuple #[.agg #[.int .i64 r1, .slice a6 r2.length c6, .int .i64 r3], .int .i64 0]) (by simp [results, Tryd.results28, go_sem, *]) rfl ?_
    exact retYC_end (g := w.heap.size) (r := (r1, r2, r3, 0)) P3.out P4.out hb6' (by omega) (by omega) _ _ _ HO6.out HC6.out
end Go.Proofs.YtfjfmlofhifkmaaDoor
