/-
  Contracts of the library at finite floats: normalize, Frexp. No conditions. Contracts of the library at finite floats: Frexp, Copysign, Ldexp where the result is exact. No conditions.
-/
import Derived.Test.YtfjfmlofhifkmaaDoorGa
import Derived.Test.YtfjfmlofhifkmaaDoorWa
namespace Go.Proofs.YtfjfmlofhifkmaaDoor
set_option linter.unusedVariables false
open Go Go.RowKit

open Go Ieee

theorem abs_fw (s : Bool) (m : Nat) (i : Int) : fw s m i % 2 ^ 63 = fw false m i := by
  have h := rungOf_le m i
  unfold fw Format.word
  rw [f64_sw]
  cases s
  · rw [if_neg (by decide)]; omega
  · rw [if_pos rfl, if_neg (by decide)]; omega
theorem fw_least : (4503599627370496 : Nat) = fw false (2 ^ 52) (-1074) := by decide +kernel
theorem fw_52 : (4841369599423283200 : Nat) = fw false 1 52 := by
  rw [← fw_shift false 1 52 52]
  decide +kernel
theorem log2_ge {n k : Nat} (h : 2 ^ k ≤ n) : k ≤ n.log2 := by
  have h2 := lt_two_log n
  have : 2 ^ k < 2 ^ (n.log2 + 1) := by omega
  have := (Nat.pow_lt_pow_iff_right (by omega : 1 < 2)).1 this
  omega
/-- Below the least normal float. -/
theorem small_fw {m : Nat} {i : Int} (h : Fit m i) : (FloatKind.f64.format.order (fw false m i) 4503599627370496 == some .lt) = decide (m * 2 ^ (i + 1074).toNat < 2 ^ 52) := by
  have hF : Fit (2 ^ 52) (-1074) := Fit.of (by omega) (by omega) (by omega)
  rw [fw_least, order_fw false false (d := -1074) h hF h.2.1 (Int.le_refl _), compare_int]
  have e1 : vz false m i (-1074) = ((m * 2 ^ (i + 1074).toNat : Nat) : Int) := by
    unfold vz signed
    rw [Nat.shiftLeft_eq, show i - -1074 = i + 1074 by omega]
    rfl
  have e2 : vz false (2 ^ 52) (-1074) (-1074) = ((2 ^ 52 : Nat) : Int) := by
    unfold vz signed
    rfl
  rw [e1, e2]
  generalize m * 2 ^ (i + 1074).toNat = a
  by_cases hh : a < 2 ^ 52
  · rw [decide_eq_true hh, if_pos (by omega)]; rfl
  · rw [decide_eq_false hh, if_neg (by omega)]
    split <;> rfl

def Normed (s : Bool) (m : Nat) (i : Int) (w : World) (e : Ending) (w' : World) : Prop :=
  ∃ d : Nat, d ≤ 52 ∧ e = .returned (.tuple #[.float .f64 (fw s m (i + d)), .int .i64 (-(d : Int))]) ∧ w = w' ∧ (m ≠ 0 → -1022 ≤ i + d + m.log2) ∧ Fit m (i + d)

set_option maxHeartbeats 800000 in
theorem normalize_fin (s : Bool) (m : Nat) (i : Int) (h : Fit m i) (w : World) : Calls Tryd.prog 160 #[.float .f64 (fw s m i)] w (Normed s m i w) := by
  have ha := abs_fw s m i
  have ho := small_fw h
  by_cases hh : m * 2 ^ (i + 1074).toNat < 2 ^ 52
  · rw [decide_eq_true hh] at ho
    have hF : Fit m (i + 52) := by
      obtain ⟨h1, h2, h3⟩ := h
      refine ⟨h1, by omega, ?_⟩
      by_cases hm : m = 0
      · subst hm; rw [Nat.zero_mul]; omega
      · have : ¬ 52 ≤ (i + 1074).toNat := fun h4 => by
          have a1 : 2 ^ 52 ≤ 2 ^ (i + 1074).toNat := Nat.pow_le_pow_right (by omega) h4
          have a2 := Nat.mul_le_mul (show 1 ≤ m by omega) a1
          omega
        rw [show (i + 52 - 971).toNat = 0 by omega, Nat.pow_zero, Nat.mul_one]; exact h1
    have hN := Lib.hid (show Normed s m i w (.returned (.tuple #[.float .f64 (fw s m (i + 52)), .int .i64 (-52)])) w from ⟨52, by omega, rfl, rfl, fun _ => by have := h.2.1; omega, hF⟩)
    have hm : ∀ W : World, (binOp .mul 41 (.float .f64 (fw s m i)) (.float .f64 4841369599423283200)).run Tryd.prog W = .ok (.float .f64 (fw s m (i + 52))) W := fun W => run_float_arith W _ _ _ _ _ _ (by
      rw [fw_52, mul_fw s false h (Fit.of (by omega) (by omega) (by omega)), Nat.mul_one]
      cases s <;> rfl)
    clear h hh hF
    go_enter Tryd.func160, Tryd.ntmps160
    go_wp2_with (go_at_call 159; refine (abs_any _ _).mono ?_; rintro e w' ⟨rfl, rfl⟩)
    go_ret2
    exact hN.out
  · rw [decide_eq_false hh] at ho
    have hN := Lib.hid (show Normed s m i w (.returned (.tuple #[.float .f64 (fw s m i), .int .i64 0])) w from ⟨0, by omega, by simp, rfl, fun hm => by
      have a1 := log2_ge (Nat.le_of_not_lt hh)
      rw [log2_shift hm] at a1
      have := h.2.1
      omega, by simpa using h⟩)
    clear h hh
    go_enter Tryd.func160, Tryd.ntmps160
    go_wp2_with (go_at_call 159; refine (abs_any _ _).mono ?_; rintro e w' ⟨rfl, rfl⟩)
    go_ret2
    exact hN.out

/-- The fields of a normal float. -/
theorem fields_fw (s : Bool) {m : Nat} {i : Int} {k : Nat} (h : Fit m i) (hm : m ≠ 0) (hn : -1022 ≤ i + m.log2) (h1 : 2 ^ 52 ≤ m * 2 ^ k) (h2 : m * 2 ^ k < 2 ^ 53) (h3 : m.log2 + k = 52) :
    i - k ≤ 971 ∧ fw s m i = s.toNat * 2 ^ 63 + ((i - k + 1075).toNat * 2 ^ 52 + (m * 2 ^ k - 2 ^ 52)) := by
  have hle : i - k ≤ 971 := by
    obtain ⟨_, _, h4⟩ := h
    have hh : ¬ (k + 1 ≤ (i - 971).toNat) := fun hh => by
      have a1 : 2 ^ (k + 1) ≤ 2 ^ (i - 971).toNat := Nat.pow_le_pow_right (by omega) hh
      have a2 := Nat.mul_le_mul_left m a1
      rw [Nat.pow_succ, ← Nat.mul_assoc] at a2
      omega
    omega
  refine ⟨hle, ?_⟩
  rw [← fw_shift s m i k, fw_word s h1 h2 (by omega) hle]

/-- The whole and the place of a float, with all 53 bits. -/
def Split (s : Bool) (m : Nat) (i : Int) (w : World) (e : Ending) (w' : World) : Prop :=
  ∃ k : Nat, k ≤ 52 ∧ 2 ^ 52 ≤ m * 2 ^ k ∧ m * 2 ^ k < 2 ^ 53 ∧ e = .returned (.tuple #[.float .f64 (fw s (m * 2 ^ k) (-53)), .int .i64 (i - k + 53)]) ∧ w = w'

set_option maxHeartbeats 1600000 in
theorem frexp_fin (s : Bool) (m : Nat) (i : Int) (h : Fit m i) (hm : m ≠ 0) (w : World) : Calls Tryd.prog 150 #[.float .f64 (fw s m i)] w (Split s m i w) := by
  obtain ⟨x, hx⟩ : ∃ x, fw s m i = x := ⟨_, rfl⟩
  have hz := zero_fw s h
  rw [decide_eq_false hm] at hz
  obtain ⟨t1, t2⟩ := fin_tests (isF_fw s h)
  have HN := Lib.hid (normalize_fin s m i h w)
  rw [hx] at hz t1 t2 HN ⊢
  obtain ⟨k, hk, k1, k2, k3⟩ := norm_of hm h.1
  have HD := Lib.hid (show ∀ d : Nat, d ≤ 52 → (m ≠ 0 → -1022 ≤ i + d + m.log2) → Fit m (i + d) →
      ∃ X E Z Y : Nat, fw s m (i + d) = X ∧ E ≤ 2047 ∧ bits .and .u64 ((X : Int) / 4503599627370496) 2047 = (E : Int) ∧ bits .andNot .u64 (X : Int) 9218868437227405312 = (Z : Int) ∧ bits .or .u64 (Z : Int) 4602678819172646912 = (Y : Int) ∧
        Split s m i w (.returned (.tuple #[.float .f64 Y, .int .i64 (-(d : Int) + ((E : Int) - 1023 + 1))])) w from fun d hd hn hF => by
    obtain ⟨hle, hX⟩ := fields_fw s hF hm (by have := hn hm; omega) k1 k2 k3
    obtain ⟨M, hM⟩ : ∃ M, m * 2 ^ k = M := ⟨_, rfl⟩
    obtain ⟨E, hE⟩ : ∃ E : Nat, (i + (d : Int) - k + 1075).toNat = E := ⟨_, rfl⟩
    have hlow : -1074 ≤ i + (d : Int) - k := by have := hn hm; omega
    rw [hM, hE] at hX
    rw [hM] at k1 k2
    have hs : s.toNat < 2 := by cases s <;> decide
    have hE2 : E ≤ 2046 := by omega
    have hEI : (E : Int) = i + (d : Int) - k + 1075 := by omega
    have hlt := fw_lt s m (i + d)
    refine ⟨fw s m (i + d), E, s.toNat * 2 ^ 63 + (M - 2 ^ 52), s.toNat * 2 ^ 63 + (1022 * 2 ^ 52 + (M - 2 ^ 52)), rfl, by omega, ?_, ?_, ?_, ?_⟩
    · have e1 : fw s m (i + d) / 2 ^ 52 % 2 ^ 11 = E := by rw [hX]; omega
      have e0 : ((fw s m (i + d) : Nat) : Int) / 4503599627370496 = ((fw s m (i + d) / 2 ^ 52 : Nat) : Int) := by
        generalize fw s m (i + d) = x
        omega
      rw [e0, get_exp _ hlt, e1]
    · rw [clear_exp _ hlt]
      have e1 : fw s m (i + d) / 2 ^ 63 * 2 ^ 63 + fw s m (i + d) % 2 ^ 52 = s.toNat * 2 ^ 63 + (M - 2 ^ 52) := by rw [hX]; omega
      rw [e1]
    · exact set_exp s.toNat (M - 2 ^ 52) 1022 hs (by omega) (by omega)
    · refine ⟨k, hk, by rw [hM]; exact k1, by rw [hM]; exact k2, ?_, rfl⟩
      rw [hM]
      have e2 : fw s M (-53) = s.toNat * 2 ^ 63 + (1022 * 2 ^ 52 + (M - 2 ^ 52)) := fw_word s k1 k2 (by omega) (by omega)
      rw [e2, show -(d : Int) + ((E : Int) - 1023 + 1) = i - k + 53 by omega])
  have hb1 := call_bits
  have hb2 : ∀ (Y : Nat) (W : World), (callFunc 155 #[.int .u64 (Y : Int)]).run Tryd.prog W = .ok (.value (.float .f64 Y)) W := fun Y W => call_frombits (Y : Int) W
  clear h hm k1 k2 k3 hk hx
  go_enter Tryd.func150, Tryd.ntmps150
  go_wp2_with (first | (go_at_call 147; refine (isInf_any _ _).mono ?_; rintro e w' ⟨rfl, rfl⟩) | (go_at_call 148; refine (isM_any _ _).mono ?_; rintro e w' ⟨rfl, rfl⟩) | (go_at_call 160; refine HN.out.mono ?_; rintro e w' ⟨d, hd, rfl, rfl, hn, hF⟩; obtain ⟨X, E, Z, Y, q1, q2, q3, q4, q5, q6⟩ := HD.out d hd hn hF; have HQ := Lib.hid q6; clear q6 hn hF; rw [q1]; clear q1))
  go_ret2
  exact HQ.out

open Go Ieee

set_option maxHeartbeats 400000 in
theorem Frexp_fin (s : Bool) (m : Nat) (i : Int) (h : Fit m i) (hm : m ≠ 0) (w : World) : Calls Tryd.prog 123 #[.float .f64 (fw s m i)] w (Split s m i w) := by
  have HN := Lib.hid (frexp_fin s m i h hm w)
  have HE := Lib.hid (show ∀ k : Nat, k ≤ 52 → 2 ^ 52 ≤ m * 2 ^ k → m * 2 ^ k < 2 ^ 53 → Split s m i w (.returned (.tuple #[.float .f64 (fw s (m * 2 ^ k) (-53)), .int .i64 (i - k + 53)])) w from fun k h1 h2 h3 => ⟨k, h1, h2, h3, rfl, rfl⟩)
  obtain ⟨x, hx⟩ : ∃ x, fw s m i = x := ⟨_, rfl⟩
  rw [hx] at HN ⊢
  clear h hm hx
  go_enter Tryd.func123, Tryd.ntmps123
  go_wp2_with (go_at_call 150; refine HN.out.mono ?_; rintro e w' ⟨k, h1, h2, h3, rfl, rfl⟩; have HQ := Lib.hid (HE.out k h1 h2 h3); obtain ⟨y, hy⟩ : ∃ y, fw s (m * 2 ^ k) (-53) = y := ⟨_, rfl⟩; obtain ⟨z, hz⟩ : ∃ z : Int, i - (k : Int) + 53 = z := ⟨_, rfl⟩; rw [hy, hz] at HQ; rw [hy, hz]; clear h1 h2 h3 hy hz)
  go_ret2
  exact HQ.out

theorem sign_fw (t : Bool) (n : Nat) (j : Int) : fw t n j = t.toNat * 2 ^ 63 + fw false n j := by
  unfold fw Format.word
  rw [f64_sw]
  cases t
  · rw [if_neg (by decide)]; simp
  · rw [if_pos rfl, if_neg (by decide)]; simp
theorem fw_false_lt (n : Nat) (j : Int) : fw false n j < 2 ^ 63 := by
  have h := rungOf_le n j
  unfold fw Format.word
  rw [if_neg (by decide)]
  omega
/-- The sign bit alone. -/
theorem get_sign (y : Nat) (hy : y < 2 ^ 64) : bits .and .u64 (y : Int) 9223372036854775808 = ((y / 2 ^ 63 * 2 ^ 63 : Nat) : Int) := by
  show IntKind.u64.wrap ((BitVec.ofInt 64 (y : Int) &&& BitVec.ofInt 64 9223372036854775808).toNat : Int) = _
  have e : (BitVec.ofInt 64 9223372036854775808).toNat = 2 ^ 63 := by decide
  rw [BitVec.toNat_and, ofInt_64 _ hy, e, and_top y hy, wrap_nat _ (by omega)]
theorem drop_sign (x : Nat) : bits .andNot .u64 (x : Int) 9223372036854775808 = ((x % 2 ^ 63 : Nat) : Int) := by
  have h := bits_abs x
  have h2 : 0 ≤ bits .andNot .u64 (x : Int) 9223372036854775808 := by
    show 0 ≤ IntKind.u64.wrap _
    rw [IntKind.wrap_u64]
    omega
  omega
theorem set_sign (x t : Nat) (hx : x < 2 ^ 63) (ht : t < 2) : bits .or .u64 (x : Int) ((t * 2 ^ 63 : Nat) : Int) = ((t * 2 ^ 63 + x : Nat) : Int) := by
  show IntKind.u64.wrap ((BitVec.ofInt 64 (x : Int) ||| BitVec.ofInt 64 ((t * 2 ^ 63 : Nat) : Int)).toNat : Int) = _
  rw [BitVec.toNat_or, ofInt_64 _ (by omega), ofInt_64 _ (by omega), Nat.or_comm, or_sum t x 63 hx, wrap_nat _ (by omega)]

set_option maxHeartbeats 800000 in
theorem Copysign_fw (s t : Bool) (m n : Nat) (i j : Int) (w : World) : Calls Tryd.prog 138 #[.float .f64 (fw s m i), .float .f64 (fw t n j)] w fun e w' => e = .returned (.float .f64 (fw t m i)) ∧ w = w' := by
  have hb1 := call_bits
  have hb2 : ∀ (Y : Nat) (W : World), (callFunc 155 #[.int .u64 (Y : Int)]).run Tryd.prog W = .ok (.value (.float .f64 Y)) W := fun Y W => call_frombits (Y : Int) W
  have h1 := drop_sign (fw s m i)
  have h2 := get_sign (fw t n j) (fw_lt t n j)
  rw [abs_fw] at h1
  have e2 : fw t n j / 2 ^ 63 = t.toNat := by
    have := fw_false_lt n j
    rw [sign_fw t n j]
    cases t
    · simp only [Bool.toNat_false]; omega
    · simp only [Bool.toNat_true]; omega
  rw [e2] at h2
  have h3 := set_sign (fw false m i) t.toNat (fw_false_lt m i) (by cases t <;> decide)
  rw [← sign_fw t m i] at h3
  obtain ⟨x, hx⟩ : ∃ x, fw s m i = x := ⟨_, rfl⟩
  obtain ⟨y, hy⟩ : ∃ y, fw t n j = y := ⟨_, rfl⟩
  obtain ⟨z, hz⟩ : ∃ z, fw t m i = z := ⟨_, rfl⟩
  obtain ⟨u, hu⟩ : ∃ u, fw false m i = u := ⟨_, rfl⟩
  obtain ⟨v, hv⟩ : ∃ v, t.toNat * 2 ^ 63 = v := ⟨_, rfl⟩
  rw [hx, hu] at h1
  rw [hy, hv] at h2
  rw [hu, hv, hz] at h3
  rw [hx, hy, hz]
  clear hx hy hz hu hv e2
  go_enter Tryd.func138, Tryd.ntmps138
  go_wp2_with fail
  go_ret
  exact ⟨rfl, rfl⟩

/-- The exponent field, by Go's int. -/
theorem get_exp_i (x : Nat) (hx : x < 2 ^ 64) : bits .and .i64 ((x / 2 ^ 52 : Nat) : Int) 2047 = ((x / 2 ^ 52 % 2 ^ 11 : Nat) : Int) := by
  show IntKind.i64.wrap ((BitVec.ofInt 64 ((x / 2 ^ 52 : Nat) : Int) &&& BitVec.ofInt 64 2047).toNat : Int) = _
  have e : (BitVec.ofInt 64 2047).toNat = 2 ^ 11 - 1 := by decide
  rw [BitVec.toNat_and, ofInt_64 _ (by omega), e, Nat.and_two_pow_sub_one_eq_mod, IntKind.wrap_i64]
  omega
theorem fw_one : (4607182418800017408 : Nat) = fw false 1 0 := by
  have := fw_shift false 1 0 52
  rw [← this]
  decide +kernel
theorem fw_tiny : (4368491638549381120 : Nat) = fw false 1 (-53) := by
  have := fw_shift false 1 (-53) 52
  rw [← this]
  decide +kernel

set_option maxRecDepth 100000 in
set_option maxHeartbeats 3200000 in
theorem ldexp_fin (s : Bool) (m : Nat) (i n : Int) (h : Fit m i) (hm : m ≠ 0) (hr : Fit m (i + n)) (w : World) : Calls Tryd.prog 154 #[.float .f64 (fw s m i), .int .i64 n] w fun e w' => e = .returned (.float .f64 (fw s m (i + n))) ∧ w = w' := by
  obtain ⟨x, hx⟩ : ∃ x, fw s m i = x := ⟨_, rfl⟩
  have hz := zero_fw s h
  rw [decide_eq_false hm] at hz
  obtain ⟨t1, t2⟩ := fin_tests (isF_fw s h)
  have HN := Lib.hid (normalize_fin s m i h w)
  rw [hx] at hz t1 t2 HN ⊢
  obtain ⟨k, hk, k1, k2, k3⟩ := norm_of hm h.1
  obtain ⟨L, hL⟩ : ∃ L : Int, i + n + m.log2 = L := ⟨_, rfl⟩
  have hL1 : -1074 ≤ L := by have := hr.2.1; omega
  have hi2 : i ≤ 1100 := by
    obtain ⟨_, _, h4⟩ := h
    have hh : ¬ (53 ≤ (i - 971).toNat) := fun hh => by
      have a1 : 2 ^ 53 ≤ 2 ^ (i - 971).toNat := Nat.pow_le_pow_right (by omega) hh
      have a2 := Nat.mul_le_mul (show 1 ≤ m by omega) a1
      omega
    omega
  have hL2 : L ≤ 1023 := by
    obtain ⟨_, _, h4⟩ := hr
    have hh : ¬ (k + 1 ≤ (i + n - 971).toNat) := fun hh => by
      have a1 : 2 ^ (k + 1) ≤ 2 ^ (i + n - 971).toNat := Nat.pow_le_pow_right (by omega) hh
      have a2 := Nat.mul_le_mul_left m a1
      rw [Nat.pow_succ, ← Nat.mul_assoc] at a2
      omega
    omega
  obtain ⟨R, hR⟩ : ∃ R, fw s m (i + n) = R := ⟨_, rfl⟩
  obtain ⟨low, hlow⟩ : ∃ low : Bool, decide (L < -1022) = low := ⟨_, rfl⟩
  have HD := Lib.hid (show ∀ d : Nat, d ≤ 52 → (m ≠ 0 → -1022 ≤ i + d + m.log2) → Fit m (i + d) →
      ∃ X E Z Y P : Nat, fw s m (i + d) = X ∧ E ≤ 2047 ∧ (E : Int) = L - n + d + 1023 ∧ bits .and .i64 ((X : Int) / 4503599627370496) 2047 = (E : Int) ∧ (X : Int) / 4503599627370496 ≤ 4096 ∧ bits .andNot .u64 (X : Int) 9218868437227405312 = (Z : Int) ∧
        (P : Int) = (if low = true then L + 1076 else L + 1023) ∧ bits .or .u64 (Z : Int) ((P : Int) * 4503599627370496) = (Y : Int) ∧ (∀ W : World, (binOp .mul 41 (.float .f64 (if low = true then 4368491638549381120 else 4607182418800017408)) (.float .f64 Y)).run Tryd.prog W = .ok (.float .f64 R) W) from fun d hd hn hF => by
    obtain ⟨hle, hX⟩ := fields_fw s hF hm (by have := hn hm; omega) k1 k2 k3
    obtain ⟨M, hM⟩ : ∃ M, m * 2 ^ k = M := ⟨_, rfl⟩
    obtain ⟨E, hE⟩ : ∃ E : Nat, (i + (d : Int) - k + 1075).toNat = E := ⟨_, rfl⟩
    have hlo : -1074 ≤ i + (d : Int) - k := by have := hn hm; omega
    rw [hM, hE] at hX
    rw [hM] at k1 k2
    have hs : s.toNat < 2 := by cases s <;> decide
    have hE2 : E ≤ 2046 := by omega
    have hEI : (E : Int) = i + (d : Int) - k + 1075 := by omega
    have hlt := fw_lt s m (i + d)
    obtain ⟨P, hP⟩ : ∃ P : Nat, (P : Int) = (if low = true then L + 1076 else L + 1023) := ⟨(if low = true then L + 1076 else L + 1023).toNat, by rw [← hlow]; split <;> simp at * <;> omega⟩
    have hP2 : 1 ≤ P ∧ P ≤ 2046 := by
      rw [← hlow] at hP
      split at hP <;> simp at * <;> omega
    refine ⟨fw s m (i + d), E, s.toNat * 2 ^ 63 + (M - 2 ^ 52), s.toNat * 2 ^ 63 + (P * 2 ^ 52 + (M - 2 ^ 52)), P, rfl, by omega, by omega, ?_, ?_, ?_, hP, ?_, ?_⟩
    · have e1 : fw s m (i + d) / 2 ^ 52 % 2 ^ 11 = E := by rw [hX]; omega
      have e0 : ((fw s m (i + d) : Nat) : Int) / 4503599627370496 = ((fw s m (i + d) / 2 ^ 52 : Nat) : Int) := by
        generalize fw s m (i + d) = x
        omega
      rw [e0, get_exp_i _ hlt, e1]
    · generalize fw s m (i + d) = x at hlt
      omega
    · rw [clear_exp _ hlt]
      have e1 : fw s m (i + d) / 2 ^ 63 * 2 ^ 63 + fw s m (i + d) % 2 ^ 52 = s.toNat * 2 ^ 63 + (M - 2 ^ 52) := by rw [hX]; omega
      rw [e1]
    · have e1 : (P : Int) * 4503599627370496 = ((P * 2 ^ 52 : Nat) : Int) := by omega
      rw [e1]
      exact set_exp s.toNat (M - 2 ^ 52) P hs (by omega) (by omega)
    · intro W
      refine run_float_arith W _ _ _ _ _ _ ?_
      have e2 : ((P : Int) - 1075 + 1075).toNat = P := by omega
      have e3 : fw s M ((P : Int) - 1075) = s.toNat * 2 ^ 63 + (P * 2 ^ 52 + (M - 2 ^ 52)) := by
        rw [fw_word s k1 k2 (by omega) (by omega), e2]
      rw [← e3, ← hR, ← fw_shift s m (i + n) k, hM]
      have hFM : Fit M ((P : Int) - 1075) := Fit.of k2 (by omega) (by omega)
      have hx2 : (false ^^ s) = s := by cases s <;> rfl
      cases low
      · rw [if_neg (by decide)] at hP ⊢
        rw [fw_one, mul_fw false s (Fit.of (by omega) (by omega) (by omega)) hFM, Nat.one_mul, hx2]
        congr 2
        omega
      · rw [if_pos rfl] at hP ⊢
        rw [fw_tiny, mul_fw false s (Fit.of (by omega) (by omega) (by omega)) hFM, Nat.one_mul, hx2]
        congr 2
        omega)
  have hb1 := call_bits
  have hb2 : ∀ (Y : Nat) (W : World), (callFunc 155 #[.int .u64 (Y : Int)]).run Tryd.prog W = .ok (.value (.float .f64 Y)) W := fun Y W => call_frombits (Y : Int) W
  have b1 : -1100 ≤ i := by have := h.2.1; omega
  have b2 : n ≤ 2200 := by have := h.2.1; omega
  have b3 : -2300 ≤ n := by omega
  rw [hR]
  clear h hm k1 k2 k3 hk hx hr hL hi2 b1
  cases low
  · have c1 : -1022 ≤ L := by simpa using hlow
    clear hlow
    go_enter Tryd.func154, Tryd.ntmps154
    go_wp2_with (first | (go_at_call 147; refine (isInf_any _ _).mono ?_; rintro e w' ⟨rfl, rfl⟩) | (go_at_call 148; refine (isM_any _ _).mono ?_; rintro e w' ⟨rfl, rfl⟩) | (go_at_call 160; refine HN.out.mono ?_; rintro e w' ⟨d, hd, rfl, rfl, hn, hF⟩; obtain ⟨X, E, Z, Y, P, q1, q2, q3, q4, q5, q6, q7, q8, q9⟩ := HD.out d hd hn hF; clear hn hF; rw [q1]; clear q1; rw [if_neg (by decide)] at q7 q9; have q10 : bits .or .u64 (Z : Int) ((n + -(d : Int) + (L - n + (d : Int)) + 1023) * 4503599627370496) = (Y : Int) := (by rw [show n + -(d : Int) + (L - n + (d : Int)) + 1023 = (P : Int) from by omega]; exact q8); clear q7 q8))
    refine bodyPost_ret (v := .float .f64 R) (by simp [results, Tryd.results154, go_sem]) rfl ?_
    exact ⟨rfl, rfl⟩
  · have c1 : L < -1022 := by simpa using hlow
    clear hlow
    go_enter Tryd.func154, Tryd.ntmps154
    go_wp2_with (first | (go_at_call 147; refine (isInf_any _ _).mono ?_; rintro e w' ⟨rfl, rfl⟩) | (go_at_call 148; refine (isM_any _ _).mono ?_; rintro e w' ⟨rfl, rfl⟩) | (go_at_call 160; refine HN.out.mono ?_; rintro e w' ⟨d, hd, rfl, rfl, hn, hF⟩; obtain ⟨X, E, Z, Y, P, q1, q2, q3, q4, q5, q6, q7, q8, q9⟩ := HD.out d hd hn hF; clear hn hF; rw [q1]; clear q1; simp only [if_true] at q7 q9; have q10 : bits .or .u64 (Z : Int) ((n + -(d : Int) + (L - n + (d : Int)) + 53 + 1023) * 4503599627370496) = (Y : Int) := (by rw [show n + -(d : Int) + (L - n + (d : Int)) + 53 + 1023 = (P : Int) from by omega]; exact q8); clear q7 q8))
    refine bodyPost_ret (v := .float .f64 R) (by simp [results, Tryd.results154, go_sem]) rfl ?_
    exact ⟨rfl, rfl⟩

set_option maxHeartbeats 400000 in
theorem Ldexp_fin (s : Bool) (m : Nat) (i n : Int) (h : Fit m i) (hm : m ≠ 0) (hr : Fit m (i + n)) (w : World) : Calls Tryd.prog 137 #[.float .f64 (fw s m i), .int .i64 n] w fun e w' => e = .returned (.float .f64 (fw s m (i + n))) ∧ w = w' := by
  have HN := Lib.hid (ldexp_fin s m i n h hm hr w)
  obtain ⟨x, hx⟩ : ∃ x, fw s m i = x := ⟨_, rfl⟩
  obtain ⟨y, hy⟩ : ∃ y, fw s m (i + n) = y := ⟨_, rfl⟩
  rw [hx, hy] at HN
  rw [hx, hy]
  clear h hm hx hy hr
  go_enter Tryd.func137, Tryd.ntmps137
  go_wp2_with (go_at_call 154; refine HN.out.mono ?_; rintro e w' ⟨rfl, rfl⟩)
  go_ret
  exact ⟨rfl, rfl⟩
/-- Of 0. -/
theorem Ldexp_zero (n : Int) (w : World) : Calls Tryd.prog 137 #[.float .f64 0, .int .i64 n] w fun e w' => e = .returned (.float .f64 0) ∧ w = w' := by
  have hz : (FloatKind.f64.format.order 0 0 == some .eq) = true := by decide +kernel
  have HN := Lib.hid (show Calls Tryd.prog 154 #[.float .f64 0, .int .i64 n] w fun e w' => e = .returned (.float .f64 0) ∧ w = w' from by
    go_enter Tryd.func154, Tryd.ntmps154
    go_wp2_with fail
    go_ret
    exact ⟨rfl, rfl⟩)
  clear hz
  go_enter Tryd.func137, Tryd.ntmps137
  go_wp2_with (go_at_call 154; refine HN.out.mono ?_; rintro e w' ⟨rfl, rfl⟩)
  go_ret
  exact ⟨rfl, rfl⟩
end Go.Proofs.YtfjfmlofhifkmaaDoor
