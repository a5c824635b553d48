/-
  Contract: bits.Div64, where the quotient is small. Conditions: the divisor has 25 to 48 bits, the quotient at most 25.
-/
import Derived.Test.YtebkpaonmeokgaaUm
namespace Go.Proofs.Ytebkpaonmeokgaa
set_option linter.unusedVariables false
open Go Go.RowKit

structure DInv (W y1 y0 u0 q r : Nat) : Prop where
  eq : q * y1 + r = W
  ge : (W * 4294967296 + u0) / (y1 * 4294967296 + y0) ≤ q
  qb : q ≤ 134217728
theorem dinv_start {W y1 y0 u0 : Nat} (h1 : 0 < y1) (hu : u0 < 4294967296) (hb : W / y1 ≤ 134217728) : DInv W y1 y0 u0 (W / y1) (W % y1) := by
  refine ⟨by rw [Nat.mul_comm]; exact Nat.div_add_mod W y1, ?_, hb⟩
  refine Nat.le_trans (Nat.div_le_div_left (show y1 * 4294967296 ≤ y1 * 4294967296 + y0 by omega) (by omega)) ?_
  rw [Nat.mul_comm y1, ← Nat.div_div_eq_div_mul]
  have : (W * 4294967296 + u0) / 4294967296 = W := by omega
  rw [this]
  exact Nat.le_refl _
theorem dinv_step {W y1 y0 u0 q r : Nat} (h : DInv W y1 y0 u0 q r) (h1 : 0 < y1) (hc : 4294967296 * r + u0 < q * y0) : 1 ≤ q ∧ DInv W y1 y0 u0 (q - 1) (r + y1) := by
  have hq : 1 ≤ q := by
    rcases Nat.eq_zero_or_pos q with h0 | h0
    · subst h0; omega
    · exact h0
  refine ⟨hq, ?_, ?_, by have := h.qb; omega⟩
  · have e := h.eq
    have e2 : q * y1 = (q - 1) * y1 + y1 := by
      have : q = (q - 1) + 1 := by omega
      rw [this, Nat.add_mul, Nat.one_mul]; simp
    omega
  · have hlt : W * 4294967296 + u0 < q * (y1 * 4294967296 + y0) := by
      have e := h.eq
      have e2 : q * (y1 * 4294967296 + y0) = q * y1 * 4294967296 + q * y0 := by rw [Nat.mul_add, Nat.mul_assoc]
      rw [e2]
      omega
    have := (Nat.div_lt_iff_lt_mul (show 0 < y1 * 4294967296 + y0 by omega)).2 hlt
    omega
theorem dinv_end {W y1 y0 u0 q r : Nat} (h : DInv W y1 y0 u0 q r) (h1 : 0 < y1) (hc : q * y0 ≤ 4294967296 * r + u0) : q = (W * 4294967296 + u0) / (y1 * 4294967296 + y0) := by
  refine Nat.le_antisymm ?_ h.ge
  rw [Nat.le_div_iff_mul_le (by omega)]
  have e := h.eq
  have e2 : q * (y1 * 4294967296 + y0) = q * y1 * 4294967296 + q * y0 := by rw [Nat.mul_add, Nat.mul_assoc]
  rw [e2]
  omega
theorem and_low (v : Nat) (h : v < 18446744073709551616) : bits .and .u64 (v : Int) 4294967295 = ((v % 4294967296 : Nat) : Int) := by
  have := u64_and_nat v 4294967295 h (by decide)
  rw [show v &&& 4294967295 = v % 4294967296 from Nat.and_two_pow_sub_one_eq_mod v 32] at this
  exact this

/-- What Div64 makes of its words before the first loop. -/
theorem div_words {hi lo y s l : Nat} (hlo : lo < 18446744073709551616) (hU : hi * 18446744073709551616 + lo < y * 33554432) (hs : l + s = 64) (h25 : 25 ≤ l) (h48 : l ≤ 48) (hb1 : 2 ^ (l - 1) ≤ y) (hb2 : y < 2 ^ l) :
    ∃ Y y1 y0 u32 V u1 u0 : Nat, IntKind.u64.wrap ((y : Int) * 2 ^ s) = (Y : Int) ∧ (Y : Int) / 4294967296 = (y1 : Int) ∧ bits .and .u64 (Y : Int) 4294967295 = (y0 : Int) ∧
      bits .or .u64 (IntKind.u64.wrap ((hi : Int) * 2 ^ s)) ((lo : Int) / 2 ^ (64 - s)) = (u32 : Int) ∧ IntKind.u64.wrap ((lo : Int) * 2 ^ s) = (V : Int) ∧ (V : Int) / 4294967296 = (u1 : Int) ∧ bits .and .u64 (V : Int) 4294967295 = (u0 : Int) ∧
      2147483648 ≤ y1 ∧ y1 < 4294967296 ∧ y0 < 4294967296 ∧ u32 < 33554432 ∧ u1 < 4294967296 ∧ u0 < 4294967296 ∧
      ((u32 * 4294967296 + u1) * 4294967296 + u0) / (y1 * 4294967296 + y0) = (hi * 18446744073709551616 + lo) / y ∧ (u32 * 4294967296 + u1) * 4294967296 + u0 = (hi * 18446744073709551616 + lo) * 2 ^ s ∧ Y = y * 2 ^ s ∧ Y < 18446744073709551616 := by
  have p1 : 2 ^ (l - 1) * 2 ^ s = 9223372036854775808 := by rw [← Nat.pow_add, show l - 1 + s = 63 by omega]
  have p2 : 2 ^ l * 2 ^ s = 18446744073709551616 := by rw [← Nat.pow_add, show l + s = 64 by omega]
  have p3 : 2 ^ (64 - s) * 2 ^ s = 18446744073709551616 := by rw [← Nat.pow_add, show 64 - s + s = 64 by omega]
  have hs0 : 0 < 2 ^ s := Nat.pow_pos (by omega)
  have hsb : 2 ^ s ≤ 2 ^ 39 := Nat.pow_le_pow_right (by omega) (by omega)
  have y1' : 9223372036854775808 ≤ y * 2 ^ s := by rw [← p1]; exact Nat.mul_le_mul_right _ hb1
  have y2' : y * 2 ^ s < 18446744073709551616 := by rw [← p2]; exact Nat.mul_lt_mul_of_pos_right hb2 hs0
  have hy48 : y < 281474976710656 := Nat.lt_of_lt_of_le hb2 (Nat.le_trans (Nat.pow_le_pow_right (by omega) h48) (by decide))
  have hhi : hi < 512 := by omega
  have hh : hi * 2 ^ s < 18446744073709551616 := by
    have h1 : hi * 2 ^ s ≤ 511 * 2 ^ 39 := Nat.mul_le_mul (by omega) hsb
    omega
  have hlq : lo / 2 ^ (64 - s) < 2 ^ s := by
    rw [Nat.div_lt_iff_lt_mul (Nat.pow_pos (by omega)), Nat.mul_comm, p3]
    exact hlo
  have hdiv : lo * 2 ^ s / 18446744073709551616 = lo / 2 ^ (64 - s) := by rw [← p3, Nat.mul_div_mul_right _ _ hs0]
  have hV := Nat.div_add_mod (lo * 2 ^ s) 18446744073709551616
  rw [hdiv] at hV
  have hVlt := Nat.mod_lt (lo * 2 ^ s) (show 0 < 18446744073709551616 by decide)
  have hkey : (hi * 18446744073709551616 + lo) * 2 ^ s = (hi * 2 ^ s + lo / 2 ^ (64 - s)) * 18446744073709551616 + lo * 2 ^ s % 18446744073709551616 := by
    have e1 : hi * 18446744073709551616 * 2 ^ s = hi * 2 ^ s * 18446744073709551616 := by rw [Nat.mul_assoc, Nat.mul_comm 18446744073709551616, ← Nat.mul_assoc]
    rw [Nat.add_mul, e1]
    omega
  have hcast : (2 : Int) ^ s = ((2 ^ s : Nat) : Int) := by simp
  have hcast2 : (2 : Int) ^ (64 - s) = ((2 ^ (64 - s) : Nat) : Int) := by simp
  have hUs : (hi * 18446744073709551616 + lo) * 2 ^ s < y * 33554432 * 2 ^ s := Nat.mul_lt_mul_of_pos_right hU hs0
  have hUs2 : y * 33554432 * 2 ^ s = y * 2 ^ s * 33554432 := by rw [Nat.mul_assoc, Nat.mul_comm 33554432, ← Nat.mul_assoc]
  refine ⟨y * 2 ^ s, y * 2 ^ s / 4294967296, y * 2 ^ s % 4294967296, hi * 2 ^ s + lo / 2 ^ (64 - s), lo * 2 ^ s % 18446744073709551616, lo * 2 ^ s % 18446744073709551616 / 4294967296, lo * 2 ^ s % 18446744073709551616 % 4294967296, ?_, ?_, and_low _ y2', ?_, ?_, ?_, and_low _ hVlt, by omega, by omega, by omega, by omega, by omega, by omega, ?_, ?_, rfl, y2'⟩
  · rw [IntKind.wrap_u64, hcast, ← Int.natCast_mul]; omega
  · omega
  · have e1 : IntKind.u64.wrap ((hi : Int) * 2 ^ s) = ((hi * 2 ^ s : Nat) : Int) := by rw [IntKind.wrap_u64, hcast, ← Int.natCast_mul]; omega
    have e2 : (lo : Int) / 2 ^ (64 - s) = ((lo / 2 ^ (64 - s) : Nat) : Int) := by
      rw [hcast2]
      generalize 2 ^ (64 - s) = k
      exact (Int.natCast_ediv lo k).symm
    rw [e1, e2, u64_or_nat _ _ hh (by omega)]
    have := Nat.shiftLeft_add_eq_or_of_lt hlq hi
    rw [Nat.shiftLeft_eq] at this
    rw [this]
  · rw [IntKind.wrap_u64, hcast, ← Int.natCast_mul]; omega
  · omega
  · have e1 : ((hi * 2 ^ s + lo / 2 ^ (64 - s)) * 4294967296 + lo * 2 ^ s % 18446744073709551616 / 4294967296) * 4294967296 + lo * 2 ^ s % 18446744073709551616 % 4294967296 = (hi * 18446744073709551616 + lo) * 2 ^ s := by
      rw [hkey]; omega
    have e2 : y * 2 ^ s / 4294967296 * 4294967296 + y * 2 ^ s % 4294967296 = y * 2 ^ s := Nat.div_add_mod' _ _
    rw [e1, e2, Nat.mul_div_mul_right _ _ hs0]
  · rw [hkey]; omega

/-- The call returned a quotient and the remainder. -/
def RetD (q r : Nat) (w : World) (e : Ending) (w' : World) : Prop := e = .returned (.tuple #[.int .u64 (q : Int), .int .u64 (r : Int)]) ∧ ∃ n, w' = w.drewN n
theorem rem_end {W u0 q Y s U y : Nat} (hZ : W * 4294967296 + u0 = U * 2 ^ s) (hY : Y = y * 2 ^ s) (hY2 : Y < 18446744073709551616) (hy : 0 < y) (hq : q = U / y) :
    IntKind.u64.wrap (IntKind.u64.wrap (IntKind.u64.wrap ((W : Int) * 4294967296) + (u0 : Int)) - IntKind.u64.wrap ((q : Int) * (Y : Int))) / 2 ^ s = ((U % y : Nat) : Int) := by
  have hs0 : 0 < 2 ^ s := Nat.pow_pos (by omega)
  have hm : U % y * 2 ^ s < Y := by rw [hY]; exact Nat.mul_lt_mul_of_pos_right (Nat.mod_lt _ hy) hs0
  have hd : U * 2 ^ s = q * Y + U % y * 2 ^ s := by
    have h1 := Nat.div_add_mod U y
    rw [← hq] at h1
    have h2 : q * Y = y * q * 2 ^ s := by rw [hY, ← Nat.mul_assoc, Nat.mul_comm q y]
    rw [h2, ← Nat.add_mul, h1]
  rw [← hZ] at hd
  obtain ⟨m, hmm⟩ : ∃ m, m = U % y * 2 ^ s := ⟨_, rfl⟩
  obtain ⟨p, hp⟩ : ∃ p, p = q * Y := ⟨_, rfl⟩
  rw [← hmm, ← hp] at hd
  rw [← hmm] at hm
  have e1 : (q : Int) * (Y : Int) = (p : Int) := by rw [hp, Int.natCast_mul]
  have e2 : IntKind.u64.wrap (IntKind.u64.wrap (IntKind.u64.wrap ((W : Int) * 4294967296) + (u0 : Int)) - IntKind.u64.wrap ((q : Int) * (Y : Int))) = (m : Int) := by
    rw [e1]
    simp only [IntKind.wrap_u64]
    omega
  rw [e2, hmm]
  have hcast : (2 : Int) ^ s = ((2 ^ s : Nat) : Int) := by simp
  rw [hcast, ← Int.natCast_ediv, Nat.mul_div_cancel _ hs0]

set_option maxRecDepth 100000 in
set_option maxHeartbeats 4000000 in
theorem div64 (hi lo y : Nat) (w : World) (hlo : lo < 18446744073709551616) (hy1 : 16777216 ≤ y) (hy2 : y < 281474976710656) (hU : hi * 18446744073709551616 + lo < y * 33554432) (hh : hi ≠ 0) :
    Calls Try.prog 111 #[.int .u64 (hi : Int), .int .u64 (lo : Int), .int .u64 (y : Int)] w (RetD ((hi * 18446744073709551616 + lo) / y) ((hi * 18446744073709551616 + lo) % y) w) := by
  have hy0 : ((y : Int) == 0) = false := beq_eq_false_iff_ne.2 (by omega)
  have hyh : decide (y ≤ hi) = false := decide_eq_false (by omega)
  have hh0 : ((hi : Int) == 0) = false := beq_eq_false_iff_ne.2 (by omega)
  obtain ⟨b1, b2, b3⟩ : 25 ≤ Lib.bitLen y ∧ Lib.bitLen y ≤ 48 ∧ 2 ^ (Lib.bitLen y - 1) ≤ y ∧ y < 2 ^ Lib.bitLen y := by
    obtain ⟨h1, h2, h3⟩ := Lib.bitLenAux_bounds 64 y (by omega) (by omega)
    refine ⟨?_, Lib.bitLen_le y 48 (by omega) (by omega), h2, h3⟩
    rcases Nat.lt_or_ge (Lib.bitLen y) 25 with h | h
    · have : 2 ^ Lib.bitLen y ≤ 2 ^ 24 := Nat.pow_le_pow_right (by omega) (by omega)
      have h3' : y < 2 ^ Lib.bitLen y := h3
      omega
    · exact h
  have HZ := Lib.hid fun W => lz64 (y : Int) W (by omega) (by omega)
  rw [Int.toNat_natCast] at HZ
  obtain ⟨l, hl⟩ : ∃ l, l = Lib.bitLen y := ⟨_, rfl⟩
  rw [← hl] at HZ b1 b2 b3
  obtain ⟨s, hs⟩ : ∃ s : Nat, l + s = 64 := ⟨64 - l, by omega⟩
  rw [show (64 : Int) - (l : Int) = (s : Int) by omega] at HZ
  have hsI : (s : Int) ≤ 39 := by omega
  obtain ⟨Y, y1, y0, u32, V, u1, u0, e1, e2, e3, e4, e5, e6, e7, f1, f2, f3, f4, f5, f6, f7, f8, f9, f10⟩ := div_words hlo hU hs b1 b2 b3.1 b3.2
  obtain ⟨T, hT⟩ : ∃ T, T = (hi * 18446744073709551616 + lo) / y := ⟨_, rfl⟩
  rw [← hT] at f7 ⊢
  have HREM := Lib.hid (show ∀ q : Nat, q = T → IntKind.u64.wrap (IntKind.u64.wrap (IntKind.u64.wrap (((u32 * 4294967296 + u1 : Nat) : Int) * 4294967296) + (u0 : Int)) - IntKind.u64.wrap ((q : Int) * (Y : Int))) / 2 ^ s = (((hi * 18446744073709551616 + lo) % y : Nat) : Int) from
    fun q hq => rem_end f8 f9 f10 (by omega) (hq.trans hT))
  obtain ⟨RM, hRM⟩ : ∃ RM, RM = (hi * 18446744073709551616 + lo) % y := ⟨_, rfl⟩
  rw [← hRM] at HREM ⊢
  have g1 : ¬ y1 = 0 := by omega
  have g2 : (u32 : Int).tdiv (y1 : Int) = 0 := by rw [Int.tdiv_eq_ediv_of_nonneg (by omega)]; exact Int.ediv_eq_zero_of_lt (by omega) (by omega)
  have g3 : (u32 : Int) ≤ 33554432 := by omega
  have g4 : (u1 : Int) ≤ 4294967295 := by omega
  have g5 : (u0 : Int) ≤ 4294967295 := by omega
  have g6 : (y1 : Int) ≤ 4294967295 := by omega
  have F0 := Lib.hid (show 0 < y1 by omega)
  have F3 := Lib.hid f6
  have FY := Lib.hid f3
  have F7 := Lib.hid f7
  have FW := Lib.hid (show (u32 * 4294967296 + u1) / y1 ≤ 134217728 from by
    have : (u32 * 4294967296 + u1) / y1 ≤ (u32 * 4294967296 + u1) / 2147483648 := Nat.div_le_div_left f1 (by omega)
    omega)
  clear b1 b2 b3 hl hs hU hlo hy1 hy2 hh f1 f2 f3 f4 f5 f6 f7 f8 f9 f10 hT hRM
  go_enter Try.func111, Try.ntmps111
  go_wp2_with fail
  refine (HZ.out _).mono ?_
  rintro e w' ⟨rfl, rfl⟩
  go_wp2_with fail
  clear e1 e2 e3 e4 e5 e6 e7 hy0 hyh hh0 g2 HZ
  go_loop [15, 16] (fun a b => a = .int .u64 0 ∧ b = .int .u64 (u32 : Int)) (fun _ _ => 0)
  case atStart => exact ⟨rfl, rfl⟩
  case round =>
    obtain ⟨rfl, rfl⟩ := hrel
    obtain ⟨W, hW⟩ : ∃ W, W = u32 * 4294967296 + u1 := ⟨_, rfl⟩
    rw [← hW] at F7 FW HREM
    have k0 : (u32 : Int) * 4294967296 + (u1 : Int) = (W : Int) := by omega
    have hWb : (W : Int) ≤ 288230376151711744 := by omega
    have HD := Lib.hid (dinv_start (y0 := y0) F0.out F3.out FW.out : DInv W y1 y0 u0 (W / y1) (W % y1))
    have HR := Lib.hid (show W % y1 < 4294967296 from by have := Nat.mod_lt W F0.out; omega)
    obtain ⟨q, hq⟩ : ∃ q, q = W / y1 := ⟨_, rfl⟩
    obtain ⟨r, hr⟩ : ∃ r, r = W % y1 := ⟨_, rfl⟩
    have k1 : (W : Int).tdiv (y1 : Int) = (q : Int) := by rw [Int.tdiv_eq_ediv_of_nonneg (by omega), hq]; rfl
    rw [← hq] at HD FW
    rw [← hr] at HD HR
    obtain ⟨A, hA⟩ : ∃ A, A = q * y1 := ⟨_, rfl⟩
    have hqr : A + r = W := by rw [hA]; exact HD.out.eq
    have k2 : IntKind.u64.wrap ((q : Int) * (y1 : Int)) = (A : Int) := by rw [← Int.natCast_mul, ← hA, IntKind.wrap_u64]; omega
    have k3 : (W : Int) - (A : Int) = (r : Int) := by omega
    have hqI : (q : Int) ≤ 134217728 := by have := FW.out; omega
    have hrI : (r : Int) ≤ 4294967295 := by have := HR.out; omega
    clear hW hq hr hA hqr
    go_wp2_with fail
    clear k0 k1 k2 k3 hqI hWb
    have HR2 := Lib.hid hrI
    clear hrI
    go_loop [18, 16] (fun a b => ∃ q r : Nat, a = .int .u64 (q : Int) ∧ b = .int .u64 (r : Int) ∧ Hid (DInv W y1 y0 u0 q r) ∧ Hid ((r : Int) ≤ 4294967295)) (fun a _ => (intOf a).toNat)
    case atStart => exact ⟨q, r, rfl, rfl, HD, HR2⟩
    case round =>
      clear HD HR HR2 FW
      obtain ⟨qq, rr, rfl, rfl, hinv, hr⟩ := hrel
      have hq64 := hinv.out.qb
      have hr64 := hr.out
      have h0 := F3.out
      have hql : decide (4294967296 ≤ (qq : Int)) = false := decide_eq_false (by omega)
      obtain ⟨A, hA⟩ : ∃ A, A = qq * y0 := ⟨_, rfl⟩
      have hAb : A < 18446744073709551616 := by
        have h1 : qq * y0 ≤ 134217728 * 4294967296 := Nat.mul_le_mul hinv.out.qb (by have := FY.out; omega)
        omega
      have k2 : IntKind.u64.wrap ((qq : Int) * (y0 : Int)) = (A : Int) := by rw [← Int.natCast_mul, ← hA, IntKind.wrap_u64]; omega
      obtain ⟨M, hM⟩ : ∃ M, M = 4294967296 * rr := ⟨_, rfl⟩
      obtain ⟨M2, hM2⟩ : ∃ M2, M2 = M + u0 := ⟨_, rfl⟩
      have k3 : IntKind.u64.wrap (4294967296 * (rr : Int)) = (M : Int) := by rw [IntKind.wrap_u64]; omega
      have k4 : IntKind.u64.wrap ((M : Int) + (u0 : Int)) = (M2 : Int) := by rw [IntKind.wrap_u64]; omega
      have HA := Lib.hid hA
      have HM := Lib.hid (show M2 = 4294967296 * rr + u0 by omega)
      by_cases hc : M2 < A
      · obtain ⟨hq1, hst⟩ := dinv_step hinv.out F0.out (by rw [← HA.out]; omega)
        obtain ⟨q2, hq2⟩ : ∃ q2, q2 = qq - 1 := ⟨_, rfl⟩
        obtain ⟨r2, hr2⟩ : ∃ r2, r2 = rr + y1 := ⟨_, rfl⟩
        rw [← hq2, ← hr2] at hst
        have k5 : IntKind.u64.wrap ((qq : Int) - 1) = (q2 : Int) := by rw [IntKind.wrap_u64]; omega
        have k6 : IntKind.u64.wrap ((rr : Int) + (y1 : Int)) = (r2 : Int) := by rw [IntKind.wrap_u64]; omega
        have HST := Lib.hid hst
        have HQ2 := Lib.hid (show q2 < qq by omega)
        by_cases hb : 4294967296 ≤ r2
        · have HT := Lib.hid (show q2 = T from by
            have h1 := dinv_end HST.out F0.out (by
              have h2 : q2 * y0 ≤ q2 * 4294967296 := Nat.mul_le_mul_left _ (by have := FY.out; omega)
              have := HST.out.qb
              omega)
            rw [h1]; exact F7.out)
          have hbd : (4294967296 : Int) ≤ (r2 : Int) := by omega
          have k7 : IntKind.u64.wrap (q2 : Int) = (q2 : Int) := by rw [IntKind.wrap_u64]; omega
          clear hq64 hr64 h0 hA hAb hM hM2 hst hq1 hq2 hr2 hb
          go_wp2_with fail
          go_ret2
          exact ⟨by rw [← HREM.out q2 HT.out, ← HT.out]; rfl, 0, rfl⟩
        · have hbd : decide ((4294967296 : Int) ≤ (r2 : Int)) = false := decide_eq_false (by omega)
          have HR2 := Lib.hid (show (r2 : Int) ≤ 4294967295 by omega)
          clear hq64 hr64 h0 hA hAb hM hM2 hst hq1 hq2 hr2 hb
          go_wp2_with fail
          go_round
          case rel => exact ⟨q2, r2, rfl, rfl, HST, HR2⟩
          case measure => have := HQ2.out; simp [intOf]; omega
      · have hcd : decide (M2 < A) = false := decide_eq_false hc
        have HT := Lib.hid (show qq = T from by
          rw [dinv_end hinv.out F0.out (by rw [← HA.out]; omega)]; exact F7.out)
        have k7 : IntKind.u64.wrap (qq : Int) = (qq : Int) := by rw [IntKind.wrap_u64]; omega
        clear hq64 hr64 h0 hA hAb hM hM2 hc
        go_wp2_with fail
        go_ret2
        exact ⟨by rw [← HREM.out qq HT.out, ← HT.out]; rfl, 0, rfl⟩

set_option maxRecDepth 100000 in
set_option maxHeartbeats 1000000 in
theorem div64z (lo y : Nat) (w : World) (hlo : lo < 18446744073709551616) (hy1 : 0 < y) :
    Calls Try.prog 111 #[.int .u64 0, .int .u64 (lo : Int), .int .u64 (y : Int)] w (RetD (lo / y) (lo % y) w) := by
  have hy0 : ((y : Int) == 0) = false := beq_eq_false_iff_ne.2 (by omega)
  have hy2 : ¬ y = 0 := by omega
  have hyh : decide ((y : Int) ≤ 0) = false := decide_eq_false (by omega)
  have k1 : (lo : Int).tdiv (y : Int) = ((lo / y : Nat) : Int) := by rw [Int.tdiv_eq_ediv_of_nonneg (by omega)]; rfl
  have hle : lo / y ≤ lo := Nat.div_le_self _ _
  have k3 : (lo : Int).tmod (y : Int) = ((lo % y : Nat) : Int) := by rw [Int.tmod_eq_emod_of_nonneg (by omega)]; rfl
  have hlm : lo % y ≤ lo := Nat.mod_le _ _
  obtain ⟨rm, hrm⟩ : ∃ rm, rm = lo % y := ⟨_, rfl⟩
  rw [← hrm] at k3 hlm ⊢
  have k4 : IntKind.u64.wrap (rm : Int) = (rm : Int) := by rw [IntKind.wrap_u64]; omega
  obtain ⟨q, hq⟩ : ∃ q, q = lo / y := ⟨_, rfl⟩
  rw [← hq] at k1 hle ⊢
  have k2 : IntKind.u64.wrap (q : Int) = (q : Int) := by rw [IntKind.wrap_u64]; omega
  clear hlo hy1 hle hq hlm hrm
  go_enter Try.func111, Try.ntmps111
  go_wp2
  go_quiet (fail)
  go_wp2
  go_ret2
  exact ⟨rfl, _, rfl⟩
theorem div64all (hi lo y : Nat) (w : World) (hlo : lo < 18446744073709551616) (hy1 : 16777216 ≤ y) (hy2 : y < 281474976710656) (hU : hi * 18446744073709551616 + lo < y * 33554432) :
    Calls Try.prog 111 #[.int .u64 (hi : Int), .int .u64 (lo : Int), .int .u64 (y : Int)] w (RetD ((hi * 18446744073709551616 + lo) / y) ((hi * 18446744073709551616 + lo) % y) w) := by
  by_cases hh : hi = 0
  · subst hh
    rw [Nat.zero_mul, Nat.zero_add]
    exact div64z lo y w hlo (by omega)
  · exact div64 hi lo y w hlo hy1 hy2 hU hh
end Go.Proofs.Ytebkpaonmeokgaa
