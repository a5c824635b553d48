/-
  Contracts: bits.Len64, bits.LeadingZeros64 at every word; the mathematics of bits.Div64. No conditions. Contract: bits.Div64, where the quotient is small. Conditions: the divisor has 25 to 48 bits, the quotient at most 25. Contract: (*division).take. Conditions: the limbs can be read, the rest lies in a row of its own. Contract: (*division).guess. Conditions: the limbs can be read. A step of a division by limbs: the guess is the limb of the quotient, or too large by 1. Plain mathematics, no conditions. Contract: (*division).step. Conditions: the limbs can be read, the rest and the quotient lie in rows of their own. Contract: (*division).step, the walk. Conditions: the limbs can be read, the rest and the quotient lie in rows of their own. Contracts: dividedBy where the divisor is greater, or of one limb. Conditions: the limbs can be read. Contract: dividedBy. Conditions: the limbs can be read, the divisor is not 0. Contract: common, the greatest common divisor of two absolute values. Conditions: the limbs can be read. Contract: root, Newton's steps. Conditions: the limbs can be read. Contract: RootOfWhole of the program. Conditions: the limbs can be read. What loops over boxed variables share: worlds with a new variable, signs, shifts to the left by the model. Conditions: the limbs can be read. Contract of the model: roots bit by bit. Conditions: the limbs can be read.
-/
import Derived.Test.YtgppagmejhgmaaaGreatDoorUe
import Derived.Deep.AppendLies
import Derived.BigRegion
import Derived.Test.YtgppagmejhgmaaaGreatDoorTg
import Derived.Test.YtgppagmejhgmaaaGreatDoorVe
import Derived.Test.YtgppagmejhgmaaaGreatDoorVl
import Derived.Test.YtgppagmejhgmaaaGreatDoorLx
import Derived.Test.YtgppagmejhgmaaaGreatDoorUf
namespace Go.Proofs.YtgppagmejhgmaaaGreatDoor
set_option linter.unusedVariables false
open Go Go.RowKit

theorem len_case (x y : Int) (k l : Nat) (hk : k ≤ 56) (hxy : y.toNat = x.toNat / 2 ^ k) (h : 2 ^ k ≤ x.toNat) (hx : x < 18446744073709551616) (hl : l = Lib.bitLen y.toNat) (hl8 : l ≤ 8) :
    wrap64 ((k : Int) + (l : Int)) = (Lib.bitLen x.toNat : Int) := by
  have s := Lib.bitLen_shift k x.toNat h (by omega)
  rw [← hxy, ← hl] at s
  rw [s]
  unfold wrap64
  omega
theorem div_pow (x : Nat) (a b : Nat) : x / 2 ^ a / 2 ^ b = x / 2 ^ (a + b) := by rw [Nat.div_div_eq_div_mul, ← Nat.pow_add]

set_option maxRecDepth 100000 in
set_option maxHeartbeats 2000000 in
theorem len64w (x : Int) (w : World) (h0 : 0 ≤ x) (hx : x < 18446744073709551616) : Calls Tryz.prog 98 #[.int .u64 x] w fun e w' => e = .returned (.int .i64 (Lib.bitLen x.toNat : Nat)) ∧ w = w' := by
  have hsz : Lib.len8tab.size = 256 := by decide +kernel
  have HX := Lib.hid hx
  clear hx
  go_enter Tryz.func98, Tryz.ntmps98
  go_wp2
  all_goals (go_ret; refine ⟨congrArg Ending.returned (congrArg (Value.int IntKind.i64) ?_), rfl⟩)
  all_goals have hx := HX.out
  all_goals clear HX
  · have e : x / 4294967296 / 65536 / 256 % 256 = x / 4294967296 / 65536 / 256 := by omega
    rw [e, Lib.len8_of _ (by omega) (by omega)]
    have hb := Lib.bitLen_le8' (x / 4294967296 / 65536 / 256) (by omega) (by omega)
    rw [show wrap64 ((Lib.bitLen (x / 4294967296 / 65536 / 256).toNat : Nat) : Int) = ((Lib.bitLen (x / 4294967296 / 65536 / 256).toNat : Nat) : Int) from by unfold wrap64; omega]
    exact len_case x _ 56 _ (by omega) (by omega) (by omega) hx rfl hb
  · obtain ⟨e1, e2⟩ := tab_len (x / 4294967296 / 65536) (by omega) (by omega) (by omega)
    rw [e1]
    exact len_case x _ 48 _ (by omega) (by omega) (by omega) hx rfl e2
  · obtain ⟨e1, e2⟩ := tab_len (x / 4294967296 / 256) (by omega) (by omega) (by omega)
    rw [e1]
    exact len_case x _ 40 _ (by omega) (by omega) (by omega) hx rfl e2
  · obtain ⟨e1, e2⟩ := tab_len (x / 4294967296) (by omega) (by omega) (by omega)
    rw [e1]
    exact len_case x _ 32 _ (by omega) (by omega) (by omega) hx rfl e2
  · obtain ⟨e1, e2⟩ := tab_len (x / 65536 / 256) (by omega) (by omega) (by omega)
    rw [e1]
    exact len_case x _ 24 _ (by omega) (by omega) (by omega) hx rfl e2
  · obtain ⟨e1, e2⟩ := tab_len (x / 65536) (by omega) (by omega) (by omega)
    rw [e1]
    exact len_case x _ 16 _ (by omega) (by omega) (by omega) hx rfl e2
  · obtain ⟨e1, e2⟩ := tab_len (x / 256) (by omega) (by omega) (by omega)
    rw [e1]
    exact len_case x _ 8 _ (by omega) (by omega) (by omega) hx rfl e2
  · obtain ⟨e1, e2⟩ := tab_len x (by omega) (by omega) (by omega)
    rw [e1]
    unfold wrap64
    omega

theorem bit_le (x : Int) (h0 : 0 ≤ x) (hx : x < 18446744073709551616) : Lib.bitLen x.toNat ≤ 64 := Lib.bitLen_le _ 64 (by omega) (by omega)
set_option maxHeartbeats 400000 in
theorem lz64 (x : Int) (w : World) (h0 : 0 ≤ x) (hx : x < 18446744073709551616) : Calls Tryz.prog 150 #[.int .u64 x] w fun e w' => e = .returned (.int .i64 (64 - (Lib.bitLen x.toNat : Nat))) ∧ w = w' := by
  have H := Lib.hid fun W => len64w x W h0 hx
  have hb : ((Lib.bitLen x.toNat : Nat) : Int) ≤ 64 := by have := bit_le x h0 hx; omega
  obtain ⟨l, hl⟩ : ∃ l, l = Lib.bitLen x.toNat := ⟨_, rfl⟩
  rw [← hl] at H hb ⊢
  clear h0 hx hl
  go_enter Tryz.func150, Tryz.ntmps150
  go_wp2_with fail
  refine (H.out _).mono ?_
  rintro e w' ⟨rfl, rfl⟩
  go_wp2_with fail
  go_ret
  exact ⟨rfl, rfl⟩

structure DInv (W y1 y0 u0 q r : Nat) : Prop where
  eq : q * y1 + r = W
  ge : (W * 4294967296 + u0) / (y1 * 4294967296 + y0) ≤ q
  qb : q ≤ 134217728
theorem dinv_start {W y1 y0 u0 : Nat} (h1 : 0 < y1) (hu : u0 < 4294967296) (hb : W / y1 ≤ 134217728) : DInv W y1 y0 u0 (W / y1) (W % y1) := by
  refine ⟨by rw [Nat.mul_comm]; exact Nat.div_add_mod W y1, ?_, hb⟩
  refine Nat.le_trans (Nat.div_le_div_left (show y1 * 4294967296 ≤ y1 * 4294967296 + y0 by omega) (by omega)) ?_
  rw [Nat.mul_comm y1, ← Nat.div_div_eq_div_mul]
  have : (W * 4294967296 + u0) / 4294967296 = W := by omega
  rw [this]
  exact Nat.le_refl _
theorem dinv_step {W y1 y0 u0 q r : Nat} (h : DInv W y1 y0 u0 q r) (h1 : 0 < y1) (hc : 4294967296 * r + u0 < q * y0) : 1 ≤ q ∧ DInv W y1 y0 u0 (q - 1) (r + y1) := by
  have hq : 1 ≤ q := by
    rcases Nat.eq_zero_or_pos q with h0 | h0
    · subst h0; omega
    · exact h0
  refine ⟨hq, ?_, ?_, by have := h.qb; omega⟩
  · have e := h.eq
    have e2 : q * y1 = (q - 1) * y1 + y1 := by
      have : q = (q - 1) + 1 := by omega
      rw [this, Nat.add_mul, Nat.one_mul]; simp
    omega
  · have hlt : W * 4294967296 + u0 < q * (y1 * 4294967296 + y0) := by
      have e := h.eq
      have e2 : q * (y1 * 4294967296 + y0) = q * y1 * 4294967296 + q * y0 := by rw [Nat.mul_add, Nat.mul_assoc]
      rw [e2]
      omega
    have := (Nat.div_lt_iff_lt_mul (show 0 < y1 * 4294967296 + y0 by omega)).2 hlt
    omega
theorem dinv_end {W y1 y0 u0 q r : Nat} (h : DInv W y1 y0 u0 q r) (h1 : 0 < y1) (hc : q * y0 ≤ 4294967296 * r + u0) : q = (W * 4294967296 + u0) / (y1 * 4294967296 + y0) := by
  refine Nat.le_antisymm ?_ h.ge
  rw [Nat.le_div_iff_mul_le (by omega)]
  have e := h.eq
  have e2 : q * (y1 * 4294967296 + y0) = q * y1 * 4294967296 + q * y0 := by rw [Nat.mul_add, Nat.mul_assoc]
  rw [e2]
  omega
theorem and_low (v : Nat) (h : v < 18446744073709551616) : bits .and .u64 (v : Int) 4294967295 = ((v % 4294967296 : Nat) : Int) := by
  have := u64_and_nat v 4294967295 h (by decide)
  rw [show v &&& 4294967295 = v % 4294967296 from Nat.and_two_pow_sub_one_eq_mod v 32] at this
  exact this

/-- What Div64 makes of its words before the first loop. -/
theorem div_words {hi lo y s l : Nat} (hlo : lo < 18446744073709551616) (hU : hi * 18446744073709551616 + lo < y * 33554432) (hs : l + s = 64) (h25 : 25 ≤ l) (h48 : l ≤ 48) (hb1 : 2 ^ (l - 1) ≤ y) (hb2 : y < 2 ^ l) :
    ∃ Y y1 y0 u32 V u1 u0 : Nat, IntKind.u64.wrap ((y : Int) * 2 ^ s) = (Y : Int) ∧ (Y : Int) / 4294967296 = (y1 : Int) ∧ bits .and .u64 (Y : Int) 4294967295 = (y0 : Int) ∧
      bits .or .u64 (IntKind.u64.wrap ((hi : Int) * 2 ^ s)) ((lo : Int) / 2 ^ (64 - s)) = (u32 : Int) ∧ IntKind.u64.wrap ((lo : Int) * 2 ^ s) = (V : Int) ∧ (V : Int) / 4294967296 = (u1 : Int) ∧ bits .and .u64 (V : Int) 4294967295 = (u0 : Int) ∧
      2147483648 ≤ y1 ∧ y1 < 4294967296 ∧ y0 < 4294967296 ∧ u32 < 33554432 ∧ u1 < 4294967296 ∧ u0 < 4294967296 ∧
      ((u32 * 4294967296 + u1) * 4294967296 + u0) / (y1 * 4294967296 + y0) = (hi * 18446744073709551616 + lo) / y ∧ (u32 * 4294967296 + u1) * 4294967296 + u0 = (hi * 18446744073709551616 + lo) * 2 ^ s ∧ Y = y * 2 ^ s ∧ Y < 18446744073709551616 := by
  have p1 : 2 ^ (l - 1) * 2 ^ s = 9223372036854775808 := by rw [← Nat.pow_add, show l - 1 + s = 63 by omega]
  have p2 : 2 ^ l * 2 ^ s = 18446744073709551616 := by rw [← Nat.pow_add, show l + s = 64 by omega]
  have p3 : 2 ^ (64 - s) * 2 ^ s = 18446744073709551616 := by rw [← Nat.pow_add, show 64 - s + s = 64 by omega]
  have hs0 : 0 < 2 ^ s := Nat.pow_pos (by omega)
  have hsb : 2 ^ s ≤ 2 ^ 39 := Nat.pow_le_pow_right (by omega) (by omega)
  have y1' : 9223372036854775808 ≤ y * 2 ^ s := by rw [← p1]; exact Nat.mul_le_mul_right _ hb1
  have y2' : y * 2 ^ s < 18446744073709551616 := by rw [← p2]; exact Nat.mul_lt_mul_of_pos_right hb2 hs0
  have hy48 : y < 281474976710656 := Nat.lt_of_lt_of_le hb2 (Nat.le_trans (Nat.pow_le_pow_right (by omega) h48) (by decide))
  have hhi : hi < 512 := by omega
  have hh : hi * 2 ^ s < 18446744073709551616 := by
    have h1 : hi * 2 ^ s ≤ 511 * 2 ^ 39 := Nat.mul_le_mul (by omega) hsb
    omega
  have hlq : lo / 2 ^ (64 - s) < 2 ^ s := by
    rw [Nat.div_lt_iff_lt_mul (Nat.pow_pos (by omega)), Nat.mul_comm, p3]
    exact hlo
  have hdiv : lo * 2 ^ s / 18446744073709551616 = lo / 2 ^ (64 - s) := by rw [← p3, Nat.mul_div_mul_right _ _ hs0]
  have hV := Nat.div_add_mod (lo * 2 ^ s) 18446744073709551616
  rw [hdiv] at hV
  have hVlt := Nat.mod_lt (lo * 2 ^ s) (show 0 < 18446744073709551616 by decide)
  have hkey : (hi * 18446744073709551616 + lo) * 2 ^ s = (hi * 2 ^ s + lo / 2 ^ (64 - s)) * 18446744073709551616 + lo * 2 ^ s % 18446744073709551616 := by
    have e1 : hi * 18446744073709551616 * 2 ^ s = hi * 2 ^ s * 18446744073709551616 := by rw [Nat.mul_assoc, Nat.mul_comm 18446744073709551616, ← Nat.mul_assoc]
    rw [Nat.add_mul, e1]
    omega
  have hcast : (2 : Int) ^ s = ((2 ^ s : Nat) : Int) := by simp
  have hcast2 : (2 : Int) ^ (64 - s) = ((2 ^ (64 - s) : Nat) : Int) := by simp
  have hUs : (hi * 18446744073709551616 + lo) * 2 ^ s < y * 33554432 * 2 ^ s := Nat.mul_lt_mul_of_pos_right hU hs0
  have hUs2 : y * 33554432 * 2 ^ s = y * 2 ^ s * 33554432 := by rw [Nat.mul_assoc, Nat.mul_comm 33554432, ← Nat.mul_assoc]
  refine ⟨y * 2 ^ s, y * 2 ^ s / 4294967296, y * 2 ^ s % 4294967296, hi * 2 ^ s + lo / 2 ^ (64 - s), lo * 2 ^ s % 18446744073709551616, lo * 2 ^ s % 18446744073709551616 / 4294967296, lo * 2 ^ s % 18446744073709551616 % 4294967296, ?_, ?_, and_low _ y2', ?_, ?_, ?_, and_low _ hVlt, by omega, by omega, by omega, by omega, by omega, by omega, ?_, ?_, rfl, y2'⟩
  · rw [IntKind.wrap_u64, hcast, ← Int.natCast_mul]; omega
  · omega
  · have e1 : IntKind.u64.wrap ((hi : Int) * 2 ^ s) = ((hi * 2 ^ s : Nat) : Int) := by rw [IntKind.wrap_u64, hcast, ← Int.natCast_mul]; omega
    have e2 : (lo : Int) / 2 ^ (64 - s) = ((lo / 2 ^ (64 - s) : Nat) : Int) := by
      rw [hcast2]
      generalize 2 ^ (64 - s) = k
      exact (Int.natCast_ediv lo k).symm
    rw [e1, e2, u64_or_nat _ _ hh (by omega)]
    have := Nat.shiftLeft_add_eq_or_of_lt hlq hi
    rw [Nat.shiftLeft_eq] at this
    rw [this]
  · rw [IntKind.wrap_u64, hcast, ← Int.natCast_mul]; omega
  · omega
  · have e1 : ((hi * 2 ^ s + lo / 2 ^ (64 - s)) * 4294967296 + lo * 2 ^ s % 18446744073709551616 / 4294967296) * 4294967296 + lo * 2 ^ s % 18446744073709551616 % 4294967296 = (hi * 18446744073709551616 + lo) * 2 ^ s := by
      rw [hkey]; omega
    have e2 : y * 2 ^ s / 4294967296 * 4294967296 + y * 2 ^ s % 4294967296 = y * 2 ^ s := Nat.div_add_mod' _ _
    rw [e1, e2, Nat.mul_div_mul_right _ _ hs0]
  · rw [hkey]; omega

/-- The call returned a quotient and the remainder. -/
def RetD (q r : Nat) (w : World) (e : Ending) (w' : World) : Prop := e = .returned (.tuple #[.int .u64 (q : Int), .int .u64 (r : Int)]) ∧ ∃ n, w' = w.drewN n
theorem rem_end {W u0 q Y s U y : Nat} (hZ : W * 4294967296 + u0 = U * 2 ^ s) (hY : Y = y * 2 ^ s) (hY2 : Y < 18446744073709551616) (hy : 0 < y) (hq : q = U / y) :
    IntKind.u64.wrap (IntKind.u64.wrap (IntKind.u64.wrap ((W : Int) * 4294967296) + (u0 : Int)) - IntKind.u64.wrap ((q : Int) * (Y : Int))) / 2 ^ s = ((U % y : Nat) : Int) := by
  have hs0 : 0 < 2 ^ s := Nat.pow_pos (by omega)
  have hm : U % y * 2 ^ s < Y := by rw [hY]; exact Nat.mul_lt_mul_of_pos_right (Nat.mod_lt _ hy) hs0
  have hd : U * 2 ^ s = q * Y + U % y * 2 ^ s := by
    have h1 := Nat.div_add_mod U y
    rw [← hq] at h1
    have h2 : q * Y = y * q * 2 ^ s := by rw [hY, ← Nat.mul_assoc, Nat.mul_comm q y]
    rw [h2, ← Nat.add_mul, h1]
  rw [← hZ] at hd
  obtain ⟨m, hmm⟩ : ∃ m, m = U % y * 2 ^ s := ⟨_, rfl⟩
  obtain ⟨p, hp⟩ : ∃ p, p = q * Y := ⟨_, rfl⟩
  rw [← hmm, ← hp] at hd
  rw [← hmm] at hm
  have e1 : (q : Int) * (Y : Int) = (p : Int) := by rw [hp, Int.natCast_mul]
  have e2 : IntKind.u64.wrap (IntKind.u64.wrap (IntKind.u64.wrap ((W : Int) * 4294967296) + (u0 : Int)) - IntKind.u64.wrap ((q : Int) * (Y : Int))) = (m : Int) := by
    rw [e1]
    simp only [IntKind.wrap_u64]
    omega
  rw [e2, hmm]
  have hcast : (2 : Int) ^ s = ((2 ^ s : Nat) : Int) := by simp
  rw [hcast, ← Int.natCast_ediv, Nat.mul_div_cancel _ hs0]

set_option maxRecDepth 100000 in
set_option maxHeartbeats 4000000 in
theorem div64 (hi lo y : Nat) (w : World) (hlo : lo < 18446744073709551616) (hy1 : 16777216 ≤ y) (hy2 : y < 281474976710656) (hU : hi * 18446744073709551616 + lo < y * 33554432) (hh : hi ≠ 0) :
    Calls Tryz.prog 149 #[.int .u64 (hi : Int), .int .u64 (lo : Int), .int .u64 (y : Int)] w (RetD ((hi * 18446744073709551616 + lo) / y) ((hi * 18446744073709551616 + lo) % y) w) := by
  have hy0 : ((y : Int) == 0) = false := beq_eq_false_iff_ne.2 (by omega)
  have hyh : decide (y ≤ hi) = false := decide_eq_false (by omega)
  have hh0 : ((hi : Int) == 0) = false := beq_eq_false_iff_ne.2 (by omega)
  obtain ⟨b1, b2, b3⟩ : 25 ≤ Lib.bitLen y ∧ Lib.bitLen y ≤ 48 ∧ 2 ^ (Lib.bitLen y - 1) ≤ y ∧ y < 2 ^ Lib.bitLen y := by
    obtain ⟨h1, h2, h3⟩ := Lib.bitLenAux_bounds 64 y (by omega) (by omega)
    refine ⟨?_, Lib.bitLen_le y 48 (by omega) (by omega), h2, h3⟩
    rcases Nat.lt_or_ge (Lib.bitLen y) 25 with h | h
    · have : 2 ^ Lib.bitLen y ≤ 2 ^ 24 := Nat.pow_le_pow_right (by omega) (by omega)
      have h3' : y < 2 ^ Lib.bitLen y := h3
      omega
    · exact h
  have HZ := Lib.hid fun W => lz64 (y : Int) W (by omega) (by omega)
  rw [Int.toNat_natCast] at HZ
  obtain ⟨l, hl⟩ : ∃ l, l = Lib.bitLen y := ⟨_, rfl⟩
  rw [← hl] at HZ b1 b2 b3
  obtain ⟨s, hs⟩ : ∃ s : Nat, l + s = 64 := ⟨64 - l, by omega⟩
  rw [show (64 : Int) - (l : Int) = (s : Int) by omega] at HZ
  have hsI : (s : Int) ≤ 39 := by omega
  obtain ⟨Y, y1, y0, u32, V, u1, u0, e1, e2, e3, e4, e5, e6, e7, f1, f2, f3, f4, f5, f6, f7, f8, f9, f10⟩ := div_words hlo hU hs b1 b2 b3.1 b3.2
  obtain ⟨T, hT⟩ : ∃ T, T = (hi * 18446744073709551616 + lo) / y := ⟨_, rfl⟩
  rw [← hT] at f7 ⊢
  have HREM := Lib.hid (show ∀ q : Nat, q = T → IntKind.u64.wrap (IntKind.u64.wrap (IntKind.u64.wrap (((u32 * 4294967296 + u1 : Nat) : Int) * 4294967296) + (u0 : Int)) - IntKind.u64.wrap ((q : Int) * (Y : Int))) / 2 ^ s = (((hi * 18446744073709551616 + lo) % y : Nat) : Int) from
    fun q hq => rem_end f8 f9 f10 (by omega) (hq.trans hT))
  obtain ⟨RM, hRM⟩ : ∃ RM, RM = (hi * 18446744073709551616 + lo) % y := ⟨_, rfl⟩
  rw [← hRM] at HREM ⊢
  have g1 : ¬ y1 = 0 := by omega
  have g2 : (u32 : Int).tdiv (y1 : Int) = 0 := by rw [Int.tdiv_eq_ediv_of_nonneg (by omega)]; exact Int.ediv_eq_zero_of_lt (by omega) (by omega)
  have g3 : (u32 : Int) ≤ 33554432 := by omega
  have g4 : (u1 : Int) ≤ 4294967295 := by omega
  have g5 : (u0 : Int) ≤ 4294967295 := by omega
  have g6 : (y1 : Int) ≤ 4294967295 := by omega
  have F0 := Lib.hid (show 0 < y1 by omega)
  have F3 := Lib.hid f6
  have FY := Lib.hid f3
  have F7 := Lib.hid f7
  have FW := Lib.hid (show (u32 * 4294967296 + u1) / y1 ≤ 134217728 from by
    have : (u32 * 4294967296 + u1) / y1 ≤ (u32 * 4294967296 + u1) / 2147483648 := Nat.div_le_div_left f1 (by omega)
    omega)
  clear b1 b2 b3 hl hs hU hlo hy1 hy2 hh f1 f2 f3 f4 f5 f6 f7 f8 f9 f10 hT hRM
  go_enter Tryz.func149, Tryz.ntmps149
  go_wp2_with fail
  refine (HZ.out _).mono ?_
  rintro e w' ⟨rfl, rfl⟩
  go_wp2_with fail
  clear e1 e2 e3 e4 e5 e6 e7 hy0 hyh hh0 g2 HZ
  go_loop [15, 16] (fun a b => a = .int .u64 0 ∧ b = .int .u64 (u32 : Int)) (fun _ _ => 0)
  case atStart => exact ⟨rfl, rfl⟩
  case round =>
    obtain ⟨rfl, rfl⟩ := hrel
    obtain ⟨W, hW⟩ : ∃ W, W = u32 * 4294967296 + u1 := ⟨_, rfl⟩
    rw [← hW] at F7 FW HREM
    have k0 : (u32 : Int) * 4294967296 + (u1 : Int) = (W : Int) := by omega
    have hWb : (W : Int) ≤ 288230376151711744 := by omega
    have HD := Lib.hid (dinv_start (y0 := y0) F0.out F3.out FW.out : DInv W y1 y0 u0 (W / y1) (W % y1))
    have HR := Lib.hid (show W % y1 < 4294967296 from by have := Nat.mod_lt W F0.out; omega)
    obtain ⟨q, hq⟩ : ∃ q, q = W / y1 := ⟨_, rfl⟩
    obtain ⟨r, hr⟩ : ∃ r, r = W % y1 := ⟨_, rfl⟩
    have k1 : (W : Int).tdiv (y1 : Int) = (q : Int) := by rw [Int.tdiv_eq_ediv_of_nonneg (by omega), hq]; rfl
    rw [← hq] at HD FW
    rw [← hr] at HD HR
    obtain ⟨A, hA⟩ : ∃ A, A = q * y1 := ⟨_, rfl⟩
    have hqr : A + r = W := by rw [hA]; exact HD.out.eq
    have k2 : IntKind.u64.wrap ((q : Int) * (y1 : Int)) = (A : Int) := by rw [← Int.natCast_mul, ← hA, IntKind.wrap_u64]; omega
    have k3 : (W : Int) - (A : Int) = (r : Int) := by omega
    have hqI : (q : Int) ≤ 134217728 := by have := FW.out; omega
    have hrI : (r : Int) ≤ 4294967295 := by have := HR.out; omega
    clear hW hq hr hA hqr
    go_wp2_with fail
    clear k0 k1 k2 k3 hqI hWb
    have HR2 := Lib.hid hrI
    clear hrI
    go_loop [18, 16] (fun a b => ∃ q r : Nat, a = .int .u64 (q : Int) ∧ b = .int .u64 (r : Int) ∧ Hid (DInv W y1 y0 u0 q r) ∧ Hid ((r : Int) ≤ 4294967295)) (fun a _ => (intOf a).toNat)
    case atStart => exact ⟨q, r, rfl, rfl, HD, HR2⟩
    case round =>
      clear HD HR HR2 FW
      obtain ⟨qq, rr, rfl, rfl, hinv, hr⟩ := hrel
      have hq64 := hinv.out.qb
      have hr64 := hr.out
      have h0 := F3.out
      have hql : decide (4294967296 ≤ (qq : Int)) = false := decide_eq_false (by omega)
      obtain ⟨A, hA⟩ : ∃ A, A = qq * y0 := ⟨_, rfl⟩
      have hAb : A < 18446744073709551616 := by
        have h1 : qq * y0 ≤ 134217728 * 4294967296 := Nat.mul_le_mul hinv.out.qb (by have := FY.out; omega)
        omega
      have k2 : IntKind.u64.wrap ((qq : Int) * (y0 : Int)) = (A : Int) := by rw [← Int.natCast_mul, ← hA, IntKind.wrap_u64]; omega
      obtain ⟨M, hM⟩ : ∃ M, M = 4294967296 * rr := ⟨_, rfl⟩
      obtain ⟨M2, hM2⟩ : ∃ M2, M2 = M + u0 := ⟨_, rfl⟩
      have k3 : IntKind.u64.wrap (4294967296 * (rr : Int)) = (M : Int) := by rw [IntKind.wrap_u64]; omega
      have k4 : IntKind.u64.wrap ((M : Int) + (u0 : Int)) = (M2 : Int) := by rw [IntKind.wrap_u64]; omega
      have HA := Lib.hid hA
      have HM := Lib.hid (show M2 = 4294967296 * rr + u0 by omega)
      by_cases hc : M2 < A
      · obtain ⟨hq1, hst⟩ := dinv_step hinv.out F0.out (by rw [← HA.out]; omega)
        obtain ⟨q2, hq2⟩ : ∃ q2, q2 = qq - 1 := ⟨_, rfl⟩
        obtain ⟨r2, hr2⟩ : ∃ r2, r2 = rr + y1 := ⟨_, rfl⟩
        rw [← hq2, ← hr2] at hst
        have k5 : IntKind.u64.wrap ((qq : Int) - 1) = (q2 : Int) := by rw [IntKind.wrap_u64]; omega
        have k6 : IntKind.u64.wrap ((rr : Int) + (y1 : Int)) = (r2 : Int) := by rw [IntKind.wrap_u64]; omega
        have HST := Lib.hid hst
        have HQ2 := Lib.hid (show q2 < qq by omega)
        by_cases hb : 4294967296 ≤ r2
        · have HT := Lib.hid (show q2 = T from by
            have h1 := dinv_end HST.out F0.out (by
              have h2 : q2 * y0 ≤ q2 * 4294967296 := Nat.mul_le_mul_left _ (by have := FY.out; omega)
              have := HST.out.qb
              omega)
            rw [h1]; exact F7.out)
          have hbd : (4294967296 : Int) ≤ (r2 : Int) := by omega
          have k7 : IntKind.u64.wrap (q2 : Int) = (q2 : Int) := by rw [IntKind.wrap_u64]; omega
          clear hq64 hr64 h0 hA hAb hM hM2 hst hq1 hq2 hr2 hb
          go_wp2_with fail
          go_ret2
          exact ⟨by rw [← HREM.out q2 HT.out, ← HT.out]; rfl, 0, rfl⟩
        · have hbd : decide ((4294967296 : Int) ≤ (r2 : Int)) = false := decide_eq_false (by omega)
          have HR2 := Lib.hid (show (r2 : Int) ≤ 4294967295 by omega)
          clear hq64 hr64 h0 hA hAb hM hM2 hst hq1 hq2 hr2 hb
          go_wp2_with fail
          go_round
          case rel => exact ⟨q2, r2, rfl, rfl, HST, HR2⟩
          case measure => have := HQ2.out; simp [intOf]; omega
      · have hcd : decide (M2 < A) = false := decide_eq_false hc
        have HT := Lib.hid (show qq = T from by
          rw [dinv_end hinv.out F0.out (by rw [← HA.out]; omega)]; exact F7.out)
        have k7 : IntKind.u64.wrap (qq : Int) = (qq : Int) := by rw [IntKind.wrap_u64]; omega
        clear hq64 hr64 h0 hA hAb hM hM2 hc
        go_wp2_with fail
        go_ret2
        exact ⟨by rw [← HREM.out qq HT.out, ← HT.out]; rfl, 0, rfl⟩

set_option maxRecDepth 100000 in
set_option maxHeartbeats 1000000 in
theorem div64z (lo y : Nat) (w : World) (hlo : lo < 18446744073709551616) (hy1 : 0 < y) :
    Calls Tryz.prog 149 #[.int .u64 0, .int .u64 (lo : Int), .int .u64 (y : Int)] w (RetD (lo / y) (lo % y) w) := by
  have hy0 : ((y : Int) == 0) = false := beq_eq_false_iff_ne.2 (by omega)
  have hy2 : ¬ y = 0 := by omega
  have hyh : decide ((y : Int) ≤ 0) = false := decide_eq_false (by omega)
  have k1 : (lo : Int).tdiv (y : Int) = ((lo / y : Nat) : Int) := by rw [Int.tdiv_eq_ediv_of_nonneg (by omega)]; rfl
  have hle : lo / y ≤ lo := Nat.div_le_self _ _
  have k3 : (lo : Int).tmod (y : Int) = ((lo % y : Nat) : Int) := by rw [Int.tmod_eq_emod_of_nonneg (by omega)]; rfl
  have hlm : lo % y ≤ lo := Nat.mod_le _ _
  obtain ⟨rm, hrm⟩ : ∃ rm, rm = lo % y := ⟨_, rfl⟩
  rw [← hrm] at k3 hlm ⊢
  have k4 : IntKind.u64.wrap (rm : Int) = (rm : Int) := by rw [IntKind.wrap_u64]; omega
  obtain ⟨q, hq⟩ : ∃ q, q = lo / y := ⟨_, rfl⟩
  rw [← hq] at k1 hle ⊢
  have k2 : IntKind.u64.wrap (q : Int) = (q : Int) := by rw [IntKind.wrap_u64]; omega
  clear hlo hy1 hle hq hlm hrm
  go_enter Tryz.func149, Tryz.ntmps149
  go_wp2
  go_quiet (fail)
  go_wp2
  go_ret2
  exact ⟨rfl, _, rfl⟩
theorem div64all (hi lo y : Nat) (w : World) (hlo : lo < 18446744073709551616) (hy1 : 16777216 ≤ y) (hy2 : y < 281474976710656) (hU : hi * 18446744073709551616 + lo < y * 33554432) :
    Calls Tryz.prog 149 #[.int .u64 (hi : Int), .int .u64 (lo : Int), .int .u64 (y : Int)] w (RetD ((hi * 18446744073709551616 + lo) / y) ((hi * 18446744073709551616 + lo) % y) w) := by
  by_cases hh : hi = 0
  · subst hh
    rw [Nat.zero_mul, Nat.zero_add]
    exact div64z lo y w hlo (by omega)
  · exact div64 hi lo y w hlo hy1 hy2 hU hh

def segI (R : List Int) (i : Nat) : Nat → Int
  | 0 => 0
  | k + 1 => segI R i k + 16777216 ^ k * R.getD (i + k) 0
theorem segI_same {R S : List Int} {i : Nat} : ∀ {k : Nat}, (∀ j, j < k → S.getD (i + j) 0 = R.getD (i + j) 0) → segI S i k = segI R i k
  | 0, _ => rfl
  | k + 1, h => by rw [segI, segI, segI_same (fun j hj => h j (by omega)), h k (by omega)]
theorem getD_set_ne {R : List Int} {a b : Nat} (x : Int) (h : a ≠ b) : (R.set a x).getD b 0 = R.getD b 0 := by
  simp [List.getD, List.getElem?_set_ne h]
theorem getD_set_eq {R : List Int} {a : Nat} (x : Int) (h : a < R.length) : (R.set a x).getD a 0 = x := by
  simp [List.getD, List.getElem?_set_self h]
/-- How often the divisor may be taken. -/
def Times (t : Int) : Prop := t = -1 ∨ (0 ≤ t ∧ t ≤ 16777216)
structure TakeInv (R : List Int) (D : List Nat) (t : Int) (i : Nat) (S : List Int) (k : Nat) (c : Int) : Prop where
  len : S.length = R.length
  same : ∀ j, (j < i ∨ i + k ≤ j) → S.getD j 0 = R.getD j 0
  digs : ∀ j, j < k → 0 ≤ S.getD (i + j) 0 ∧ S.getD (i + j) 0 < 16777216
  eq : segI S i k + 16777216 ^ k * c = segI R i k - t * (val (D.take k) : Int)
  lo : -16777216 ≤ c
  hi : c ≤ 1
theorem takeInv_start (R : List Int) (D : List Nat) (t : Int) (i : Nat) : TakeInv R D t i R 0 0 :=
  ⟨rfl, fun _ _ => rfl, fun j hj => absurd hj (Nat.not_lt_zero _), by
    have e : ((val (D.take 0) : Nat) : Int) = 0 := by rw [List.take_zero]; rfl
    rw [e, Int.mul_zero, Int.mul_zero, Int.add_zero, Int.sub_zero], by omega, by omega⟩
theorem take_part {t : Int} (ht : Times t) {d : Nat} (hd : d < 16777216) {r c : Int} (hr : 0 ≤ r ∧ r < 16777216) (hc : -16777216 ≤ c ∧ c ≤ 1) :
    -281474976710656 ≤ c + (r - (d : Int) * t) ∧ c + (r - (d : Int) * t) ≤ 33554431 ∧ -281474959933440 ≤ r - (d : Int) * t ∧ r - (d : Int) * t ≤ 33554430 ∧ -16777216 ≤ (d : Int) * t ∧ (d : Int) * t ≤ 281474959933440 := by
  rcases ht with rfl | ⟨h0, h1⟩
  · omega
  · have h2 : 0 ≤ (d : Int) * t := Int.mul_nonneg (by omega) h0
    have h3 : (d : Int) * t ≤ 16777215 * 16777216 := Int.mul_le_mul (by omega) h1 h0 (by omega)
    omega
theorem takeInv_step {R S : List Int} {D : List Nat} {t c : Int} {i k : Nat} (h : TakeInv R D t i S k c) (ht : Times t) (hD : Small D) (hk : k < D.length) (hl : i + k < R.length) (hr : 0 ≤ R.getD (i + k) 0 ∧ R.getD (i + k) 0 < 16777216) :
    TakeInv R D t i (S.set (i + k) ((c + (R.getD (i + k) 0 - (D[k] : Int) * t)) % 16777216)) (k + 1) ((c + (R.getD (i + k) 0 - (D[k] : Int) * t)) / 16777216) := by
  have hp := take_part ht (hD k hk) hr ⟨h.lo, h.hi⟩
  obtain ⟨x, hx⟩ : ∃ x, x = c + (R.getD (i + k) 0 - (D[k] : Int) * t) := ⟨_, rfl⟩
  rw [← hx] at hp ⊢
  have hlS : i + k < S.length := by rw [h.len]; exact hl
  refine ⟨by rw [List.length_set]; exact h.len, fun j hj => ?_, fun j hj => ?_, ?_, by omega, by omega⟩
  · rw [getD_set_ne _ (by omega)]
    exact h.same j (by omega)
  · by_cases hjk : j = k
    · subst hjk
      rw [getD_set_eq _ hlS]
      omega
    · rw [getD_set_ne _ (by omega)]
      exact h.digs j (by omega)
  · have e := h.eq
    have e2 : segI (S.set (i + k) (x % 16777216)) i k = segI S i k := segI_same fun j hj => getD_set_ne _ (by omega)
    have e3 : ((val (D.take (k + 1)) : Nat) : Int) = (val (D.take k) : Int) + 16777216 ^ k * (D[k] : Int) := by
      rw [val_take_getD, getD_of_lt hk, Int.natCast_add, Int.natCast_mul, Int.natCast_pow]
      congr 1
    rw [segI, segI, e2, getD_set_eq _ hlS, e3, Int.pow_succ]
    have e4 : x % 16777216 + 16777216 * (x / 16777216) = x := Int.emod_add_mul_ediv x 16777216
    generalize x % 16777216 = u at *
    generalize x / 16777216 = v at *
    generalize (16777216 : Int) ^ k = P at *
    generalize segI S i k = a1 at *
    generalize segI R i k = a2 at *
    generalize R.getD (i + k) 0 = r at *
    generalize ((val (D.take k) : Nat) : Int) = w at *
    generalize (D[k] : Int) = d at *
    grind

/-- The divisor was taken off, t times. -/
def RetT (gr i n : Nat) (R : List Int) (v t : Int) (w : World) (w' : World) : Prop := ∃ S : List Int, S.length = R.length ∧ (∀ j, (j < i ∨ i + n < j) → S.getD j 0 = R.getD j 0) ∧ (∀ j, j < n → 0 ≤ S.getD (i + j) 0 ∧ S.getD (i + j) 0 < 16777216) ∧ segI S i (n + 1) = segI R i (n + 1) - t * v ∧ -16777216 + R.getD (i + n) 0 ≤ S.getD (i + n) 0 ∧ S.getD (i + n) 0 ≤ R.getD (i + n) 0 + 1 ∧ RowI w' gr S ∧ w.grownBy w' (some gr)

set_option maxRecDepth 100000 in
set_option maxHeartbeats 4000000 in
theorem iTake (gd gr i : Nat) (D : List Nat) (R : List Int) (t : Int) (da qa : Option Addr) (dc ql qc rc : Nat) (w : World) (B : Nat) (hbox : BoxAt w gd 155 #[.slice da D.length dc, .slice qa ql qc, .slice (some ⟨gr, 0, none⟩) R.length rc])
    (hx : Ints w B da (ofN D)) (hB : B ≤ gr) (hgd : gd ≠ gr) (hrow : RowI w gr R) (sD : Small D) (ht : Times t) (hl : R.length ≤ 1048576) (hi : i + D.length < R.length)
    (hr : ∀ j, j < D.length → 0 ≤ R.getD (i + j) 0 ∧ R.getD (i + j) 0 < 16777216) (htop : -33554432 ≤ R.getD (i + D.length) 0 ∧ R.getD (i + D.length) 0 ≤ 33554432) :
    Calls Tryz.prog 148 #[.pointer (some ⟨gd, 0, none⟩), .int .i64 (i : Int), .int .i64 t] w fun e w' => e = .returned (.tuple #[]) ∧ RetT gr i D.length R (val D) t w w' := by
  have HX := Lib.hid hx
  have HBX := Lib.hid hbox
  have HR0 := Lib.hid hrow
  have HT := Lib.hid ht
  have SD := Lib.hid sD
  have HRR := Lib.hid hr
  have HTOP := Lib.hid htop
  have HI := Lib.hid hi
  have c0 := hbox.cell 0
  have c2 := hbox.cell 2
  simp at c0 c2
  have hdl : (D.length : Int) ≤ 1048576 := by omega
  have hil : (i : Int) ≤ 1048576 := by omega
  have htb : (-1 : Int) ≤ t ∧ t ≤ 16777216 := by unfold Times at ht; omega
  have HTB := Lib.hid htb
  have hm := i64_mask24
  clear hx hbox hrow ht sD hr htop hi htb hl
  go_enter Tryz.func148, Tryz.ntmps148
  go_wp2
  go_loopw [14, 6] (fun a b wr => ∃ (k : Nat) (S : List Int) (c : Int), k ≤ D.length ∧ a = .int .i64 (k : Int) ∧ b = .int .i64 c ∧ Hid (TakeInv R D t i S k c) ∧ RowI wr gr S ∧ w.grownBy wr (some gr)) (fun a _ _ => D.length - (intOf a).toNat)
  case atStart => exact ⟨0, R, 0, Nat.zero_le _, rfl, rfl, takeInv_start R D t i, HR0.out, World.grownBy.refl _ _⟩
  case round =>
    obtain ⟨k, S, c, hk, rfl, rfl, hinv, hrow, hgr⟩ := hrel
    have HS := Lib.hid hrow
    have HG := Lib.hid hgr
    have HB2 := Lib.hid (HBX.out.grown hgr (by simp; omega))
    have d0 := HB2.out.cell 0
    have d2 := HB2.out.cell 2
    simp at d0 d2
    have hlS := hinv.out.len
    clear c0 c2 hrow hgr
    by_cases hkn : k < D.length
    · obtain ⟨b, o, ha, hcB, hcell⟩ := HX.out k (by rw [ofN_length]; exact hkn)
      rw [ofN_at] at hcell
      subst ha
      obtain ⟨d, hd⟩ : ∃ d : Nat, d = D[k] := ⟨_, rfl⟩
      rw [← hd] at hcell
      have hx1 := (HG.out.cell_far ⟨b, o + k, none⟩ (by have := HR0.out.lt; show b < _; omega) (by simp; omega)).trans hcell
      clear hcell
      have hik : i + k < S.length := by have := HI.out; omega
      have hcR := HS.out.cell (i + k) hik
      have hfR := HS.out.frozen (i + k)
      have hsame := hinv.out.same (i + k) (.inr (Nat.le_refl _))
      have hge : S[i + k] = S.getD (i + k) 0 := by simp [List.getD, List.getElem?_eq_getElem hik]
      obtain ⟨r, hr⟩ : ∃ r, r = R.getD (i + k) 0 := ⟨_, rfl⟩
      rw [hge, hsame, ← hr] at hcR
      have hrb := HRR.out k hkn
      rw [← hr] at hrb
      have hst := takeInv_step hinv.out HT.out SD.out hkn (by rw [← hlS]; exact hik) (by rw [← hr]; exact hrb)
      rw [← hr, ← hd] at hst
      have hp := take_part HT.out (SD.out k hkn) hrb ⟨hinv.out.lo, hinv.out.hi⟩
      rw [← hd] at hp
      have hclo := hinv.out.lo
      have hchi := hinv.out.hi
      obtain ⟨P, hP⟩ : ∃ P, P = (d : Int) * t := ⟨_, rfl⟩
      rw [← hP] at hst hp
      have k1 : wrap64 ((d : Int) * t) = P := by rw [← hP]; unfold wrap64; omega
      have k2 : wrap64 (r - P) = r - P := by unfold wrap64; omega
      have k3 : wrap64 (c + (r - P)) = c + (r - P) := by unfold wrap64; omega
      have HST := Lib.hid hst
      have hidx : ((i : Int) + (k : Int)).toNat = i + k := by omega
      have hidx2 : (i : Int) + (k : Int) < (R.length : Int) := by have := HI.out; omega
      have hidx3 : (0 : Int) ≤ (i : Int) + (k : Int) := by omega
      have hkI : (k : Int) < (D.length : Int) := by omega
      have HIK := Lib.hid hik
      clear hd hge hsame hr hrb hst hp hclo hchi hP hlS hik
      go_wp2
      go_roundw
      case rel =>
        refine ⟨k + 1, _, _, by omega, by go_num, rfl, HST, ?_, grown_set HG.out _ _⟩
        exact HS.out.set_ (i + k) HIK.out _
      case measure => simp [intOf]; omega
    · obtain rfl : k = D.length := by omega
      have hik : i + D.length < S.length := by have := HI.out; omega
      have hcR := HS.out.cell (i + D.length) hik
      have hfR := HS.out.frozen (i + D.length)
      have hsame := hinv.out.same (i + D.length) (.inr (Nat.le_refl _))
      have hge : S[i + D.length] = S.getD (i + D.length) 0 := by simp [List.getD, List.getElem?_eq_getElem hik]
      obtain ⟨r, hr⟩ : ∃ r, r = R.getD (i + D.length) 0 := ⟨_, rfl⟩
      rw [hge, hsame, ← hr] at hcR
      have hrb := HTOP.out
      rw [← hr] at hrb
      have hclo := hinv.out.lo
      have hchi := hinv.out.hi
      have k3 : wrap64 (r + c) = r + c := by unfold wrap64; omega
      have hidx : ((i : Int) + (D.length : Int)).toNat = i + D.length := by omega
      have hidx2 : (i : Int) + (D.length : Int) < (R.length : Int) := by have := HI.out; omega
      have hidx3 : (0 : Int) ≤ (i : Int) + (D.length : Int) := by omega
      have HEND := Lib.hid (show RetT gr i D.length R (val D) t w (wr.setCell ⟨gr, i + D.length, none⟩ (.int .i64 (r + c))).drew from by
        refine ⟨S.set (i + D.length) (r + c), by rw [List.length_set]; exact hlS, fun j hj => ?_, fun j hj => ?_, ?_, ?_, ?_, (HS.out.set_ _ hik _).drew, grown_drewN (grown_set HG.out _ _) 1⟩
        · rw [getD_set_ne _ (by omega)]; exact hinv.out.same j (by omega)
        · rw [getD_set_ne _ (by omega)]; exact hinv.out.digs j hj
        · have e := hinv.out.eq
          rw [List.take_length] at e
          have e2 : segI (S.set (i + D.length) (r + c)) i D.length = segI S i D.length := segI_same fun j hj => getD_set_ne _ (by omega)
          rw [segI, segI, e2, getD_set_eq _ hik, ← hr, Int.mul_add]
          omega
        · rw [getD_set_eq _ hik, ← hr]; omega
        · rw [getD_set_eq _ hik, ← hr]; omega)
      clear hge hsame hr hrb hclo hchi hlS hik hinv
      go_wp2
      go_region
      all_goals
        refine bodyPost_end (v := .tuple #[]) (by simp [results, Tryz.results148, go_sem]) rfl ?_
        exact ⟨rfl, HEND.out⟩

theorem quietDL {P : Program} {f : FuncId} {args : Array Value} {w : World} {v : Value} (h : ∀ W, Calls P f args W fun e w' => e = .returned v ∧ ∃ n, w' = W.drewN n) (q : Nat) :
    Calls P f args (w.drewN q) fun e w'' => e = .returned v ∧ ∃ m, w'' = w.drewN (q + m) := (h _).mono fun _ _ ⟨he, n, hn⟩ => ⟨he, n, by rw [hn, World.drewN_drewN]⟩
theorem quietDA {P : Program} {f : FuncId} {args : Array Value} {w : World} {v : Value} (h : ∀ W, Calls P f args W fun e w' => e = .returned v ∧ ∃ n, w' = W.drewN n) (q n : Nat) :
    Calls P f args (w.drewN (q + n)) fun e w'' => e = .returned v ∧ ∃ m, w'' = w.drewN (q + m) := (h _).mono fun _ _ ⟨he, n', hn⟩ => ⟨he, n + n', by rw [hn, World.drewN_drewN, Nat.add_assoc]⟩
theorem guess_low (f s t : Nat) (hf : f < 16777216) (hs : s < 16777216) (ht : t < 16777216) :
    bits .or .u64 (bits .or .u64 (IntKind.u64.wrap ((f : Int) * 281474976710656)) ((s : Int) * 16777216)) (t : Int) = ((f % 65536 * 281474976710656 + s * 16777216 + t : Nat) : Int) := by
  have e1 : IntKind.u64.wrap ((f : Int) * 281474976710656) = ((f % 65536 * 2 ^ 48 : Nat) : Int) := by rw [IntKind.wrap_u64]; omega
  have e2 : (s : Int) * 16777216 = ((s * 16777216 : Nat) : Int) := by omega
  have h1 := Nat.shiftLeft_add_eq_or_of_lt (show s * 16777216 < 2 ^ 48 by omega) (f % 65536)
  rw [Nat.shiftLeft_eq] at h1
  rw [e1, e2, u64_or_nat _ _ (by omega) (by omega), ← h1]
  have h2 := Nat.shiftLeft_add_eq_or_of_lt (show t < 2 ^ 24 by omega) (f % 65536 * 16777216 + s)
  rw [Nat.shiftLeft_eq] at h2
  have e3 : f % 65536 * 2 ^ 48 + s * 16777216 = (f % 65536 * 16777216 + s) * 2 ^ 24 := by
    generalize f % 65536 = g
    rw [Nat.add_mul, Nat.mul_assoc]
  rw [e3] at *
  rw [u64_or_nat _ _ (by omega) (by omega), ← h2]

set_option maxRecDepth 100000 in
set_option maxHeartbeats 4000000 in
theorem iGuess (gd gr i : Nat) (D : List Nat) (R : List Int) (f s t d1 d0 : Nat) (da qa : Option Addr) (dc ql qc rc : Nat) (w : World) (B : Nat) (hbox : BoxAt w gd 155 #[.slice da D.length dc, .slice qa ql qc, .slice (some ⟨gr, 0, none⟩) R.length rc])
    (hB : B ≤ w.heap.size) (hx : Ints w B da (ofN D)) (hrow : RowI w gr R) (sD : Small D) (hl : R.length ≤ 1048576) (hn : 2 ≤ D.length) (hi : i + D.length < R.length)
    (hf : R.getD (i + D.length) 0 = (f : Int)) (hs : R.getD (i + D.length - 1) 0 = (s : Int)) (ht : R.getD (i + D.length - 2) 0 = (t : Int)) (fb : f < 16777216) (sb : s < 16777216) (tb : t < 16777216)
    (hd1 : D.getD (D.length - 1) 0 = d1) (hd0 : D.getD (D.length - 2) 0 = d0) (hd : d1 ≠ 0) (hU : f * 281474976710656 + s * 16777216 + t < (d1 * 16777216 + d0) * 33554432) :
    Calls Tryz.prog 147 #[.pointer (some ⟨gd, 0, none⟩), .int .i64 (i : Int)] w (RetB (.int .i64 (((f * 281474976710656 + s * 16777216 + t) / (d1 * 16777216 + d0) : Nat) : Int)) w) := by
  have d1b : d1 < 16777216 := by rw [← hd1]; exact getD_lt sD _
  have d0b : d0 < 16777216 := by rw [← hd0]; exact getD_lt sD _
  have c0 := hbox.cell 0
  have c2 := hbox.cell 2
  simp at c0 c2
  have rc1 := hrow.cell (i + D.length) hi
  have rc2 := hrow.cell (i + D.length - 1) (by omega)
  have rc3 := hrow.cell (i + D.length - 2) (by omega)
  have g1 : R[i + D.length] = R.getD (i + D.length) 0 := by simp [List.getD, List.getElem?_eq_getElem hi]
  have g2 : R[i + D.length - 1]'(by omega) = R.getD (i + D.length - 1) 0 := by simp [List.getD, List.getElem?_eq_getElem (show i + D.length - 1 < R.length by omega)]
  have g3 : R[i + D.length - 2]'(by omega) = R.getD (i + D.length - 2) 0 := by simp [List.getD, List.getElem?_eq_getElem (show i + D.length - 2 < R.length by omega)]
  rw [g1, hf] at rc1
  rw [g2, hs] at rc2
  rw [g3, ht] at rc3
  obtain ⟨b, o, ha, hbl0, dc1⟩ := hx (D.length - 1) (by rw [ofN_length]; omega)
  obtain ⟨b', o', ha', _, dc2⟩ := hx (D.length - 2) (by rw [ofN_length]; omega)
  have hbl : b < w.heap.size := by omega
  subst ha
  simp at ha'
  obtain ⟨rfl, rfl⟩ := ha'
  rw [ofN_at] at dc1 dc2
  have g4 : D[D.length - 1]'(by omega) = d1 := by rw [← hd1, getD_of_lt (by omega)]
  have g5 : D[D.length - 2]'(by omega) = d0 := by rw [← hd0, getD_of_lt (by omega)]
  rw [g4] at dc1
  rw [g5] at dc2
  have low := guess_low f s t fb sb tb
  obtain ⟨L, hL⟩ : ∃ L, L = f % 65536 * 281474976710656 + s * 16777216 + t := ⟨_, rfl⟩
  rw [← hL] at low
  have hyo := i64_or_add d0 d1 d0b (by omega)
  obtain ⟨y, hy⟩ : ∃ y, y = d1 * 16777216 + d0 := ⟨_, rfl⟩
  rw [← hy] at hyo hU ⊢
  obtain ⟨h, hh⟩ : ∃ h, h = f / 65536 := ⟨_, rfl⟩
  have hhI : (f : Int) / 65536 = (h : Int) := by omega
  have hUe : f * 281474976710656 + s * 16777216 + t = h * 18446744073709551616 + L := by omega
  rw [hUe] at hU ⊢
  have HD0 := Lib.hid (fun W => div64all h L y W (by omega) (by omega) (by omega) hU)
  obtain ⟨q, hq⟩ : ∃ q, q = (h * 18446744073709551616 + L) / y := ⟨_, rfl⟩
  have hqb : q ≤ 33554432 := by rw [hq]; exact Nat.le_of_lt ((Nat.div_lt_iff_lt_mul (by omega)).2 (by omega))
  rw [← hq] at HD0 ⊢
  obtain ⟨rm, hrm⟩ : ∃ rm, rm = (h * 18446744073709551616 + L) % y := ⟨_, rfl⟩
  rw [← hrm] at HD0
  have HD := Lib.hid (show ∀ W, Calls Tryz.prog 149 #[.int .u64 (h : Int), .int .u64 (L : Int), .int .u64 (y : Int)] W fun e w' => e = .returned (.tuple #[.int .u64 (q : Int), .int .u64 (rm : Int)]) ∧ ∃ n, w' = W.drewN n from HD0.out)
  have i1 : ((i : Int) + (D.length : Int)).toNat = i + D.length := by omega
  have i2 : ((i : Int) + (D.length : Int) - 1).toNat = i + D.length - 1 := by omega
  have i3 : ((i : Int) + (D.length : Int) - 2).toNat = i + D.length - 2 := by omega
  have i4 : ((D.length : Int) - 1).toNat = D.length - 1 := by omega
  have i5 : ((D.length : Int) - 1 - 1).toNat = D.length - 2 := by omega
  have i6 : ((D.length : Int) - 2).toNat = D.length - 2 := by omega
  have j5 : (0 : Int) ≤ (D.length : Int) - 1 := by omega
  have j6 : (D.length : Int) - 1 < (D.length : Int) := by omega
  have j7 : (0 : Int) ≤ (D.length : Int) - 1 - 1 := by omega
  have j8 : (D.length : Int) - 1 - 1 < (D.length : Int) := by omega
  have j9 : (0 : Int) ≤ (D.length : Int) - 2 := by omega
  have j0 : (D.length : Int) - 2 < (D.length : Int) := by omega
  have j1 : (i : Int) + (D.length : Int) < (R.length : Int) := by omega
  have j2 : (2 : Int) ≤ (D.length : Int) := by omega
  have j3 : (D.length : Int) ≤ 1048576 := by omega
  have j4 : (i : Int) ≤ 1048576 := by omega
  have fI : (f : Int) ≤ 549755813887 := by omega
  have sI : (s : Int) ≤ 549755813887 := by omega
  have tI : (t : Int) ≤ 549755813887 := by omega
  have HQ := Lib.hid (show q ≤ 9223372036854775807 by omega)
  have HY := Lib.hid (show y ≤ 9223372036854775807 by omega)
  have d1I : (d1 : Int) ≤ 549755813887 := by omega
  have hT : Below w.heap.size w w := Below.refl _ _
  clear HD0 hrm hbl hbl0 hB hU hUe hh hy hL hq hbox hx hrow sD hl hn hi hf hs ht fb sb tb hd1 hd0 hd d1b d0b g1 g2 g3 g4 g5
  go_enter Tryz.func147, Tryz.ntmps147
  go_wp2
  go_quiet (fail)
  go_wp2_with fail
  clear low hhI fI sI tI rc1 rc2 rc3 c2 i1 i2 i3 j1
  obtain ⟨E, hE⟩ : ∃ E : Int, E = (D.length : Int) - 1 := ⟨_, rfl⟩
  rw [← hE]
  rw [← hE] at i4 i5 j5 j6 j7 j8
  obtain ⟨n, hn⟩ : ∃ n, n = D.length := ⟨_, rfl⟩
  rw [← hn] at c0 dc1 dc2 i4 i5 j6 j8 j3
  have hEb : E ≤ 1048576 := by omega
  obtain ⟨m1, hm1⟩ : ∃ m, m = o + (n - 1) := ⟨_, rfl⟩
  obtain ⟨m2, hm2⟩ : ∃ m, m = o + (n - 2) := ⟨_, rfl⟩
  have hw1 : IntKind.i64.wrap (E - 1) = E - 1 := by rw [IntKind.wrap_i64]; omega
  have hw2 : IntKind.i64.wrap ((d1 : Int) * 16777216) = (d1 : Int) * 16777216 := by rw [IntKind.wrap_i64]; omega
  have hw3 : IntKind.u64.wrap (y : Int) = (y : Int) := by rw [IntKind.wrap_u64]; have := HY.out; omega
  clear hE hn i6 j9 j0 j2 j4
  go_quiet ((go_at_call 149; first | exact quietDL HD.out _ | exact quietDA HD.out _ _))
  have HQ2 := Lib.hid (show IntKind.i64.wrap (q : Int) = (q : Int) from by rw [IntKind.wrap_i64]; have := HQ.out; omega)
  go_wp2_with fail
  go_ret
  exact ⟨rfl, (by repeat (first | exact Below.refl _ _ | assumption | refine Below.alloc ?_ (by simp <;> omega) _ | refine Below.setCell ?_ (by simp <;> omega) _ | refine below_drewN ?_ _))⟩

theorem guess_bounds {P V v u d t0 t1 : Nat} (hV : V = u * P + t0) (ht0 : t0 < P) (hv : v = d * P + t1) (ht1 : t1 < P) (hd : 16777216 ≤ d) (hlt : V < 16777216 * v) :
    V / v ≤ u / d ∧ u / d ≤ V / v + 1 := by
  have hP : 0 < P := by omega
  have hdP : P ≤ d * P := Nat.le_mul_of_pos_left _ (by omega)
  have hv0 : 0 < v := by omega
  have hq : V / v < 16777216 := (Nat.div_lt_iff_lt_mul hv0).2 hlt
  have h1 : V / v * v ≤ V := Nat.div_mul_le_self V v
  have h2 : V < (V / v + 1) * v := by
    rw [Nat.mul_comm]; exact Nat.lt_mul_div_succ V hv0
  generalize V / v = q at *
  constructor
  · rw [Nat.le_div_iff_mul_le (by omega)]
    have h3 : q * (d * P) ≤ q * v := Nat.mul_le_mul_left _ (by omega)
    have h4 : q * d * P < (u + 1) * P := by
      rw [Nat.mul_assoc, Nat.add_mul, Nat.one_mul]; omega
    have := Nat.lt_of_mul_lt_mul_right h4
    omega
  · have h3 : u / d < q + 2 := by
      rw [Nat.div_lt_iff_lt_mul (by omega)]
      have h5 : (q + 1) * v ≤ (q + 1) * ((d + 1) * P) := Nat.mul_le_mul_left _ (by rw [Nat.add_mul, Nat.one_mul]; omega)
      have h6 : u * P < (q + 1) * (d + 1) * P := by rw [Nat.mul_assoc]; omega
      have h7 := Nat.lt_of_mul_lt_mul_right h6
      have h8 : (q + 1) * (d + 1) = (q + 1) * d + (q + 1) := by rw [Nat.mul_add, Nat.mul_one]
      have h9 : (q + 2) * d = (q + 1) * d + d := by rw [show q + 2 = (q + 1) + 1 by omega, Nat.add_mul, Nat.one_mul]
      omega
    omega

theorem segI_bounds {R : List Int} {i : Nat} : ∀ {k : Nat}, (∀ j, j < k → 0 ≤ R.getD (i + j) 0 ∧ R.getD (i + j) 0 < 16777216) → 0 ≤ segI R i k ∧ segI R i k < 16777216 ^ k
  | 0, _ => ⟨Int.le_refl 0, by show (0 : Int) < 1; omega⟩
  | k + 1, h => by
    obtain ⟨h1, h2⟩ := segI_bounds (k := k) (fun j hj => h j (by omega))
    obtain ⟨h3, h4⟩ := h k (by omega)
    rw [segI, Int.pow_succ]
    have hp : (0 : Int) < 16777216 ^ k := Int.pow_pos (by omega)
    generalize (16777216 : Int) ^ k = P at *
    generalize R.getD (i + k) 0 = r at *
    have h5 : 0 ≤ P * r := Int.mul_nonneg (by omega) h3
    have h6 : P * r ≤ P * 16777215 := Int.mul_le_mul_of_nonneg_left (by omega) (by omega)
    omega
/-- The top limb tells the sign. -/
theorem seg_top {S : List Int} {i n : Nat} {W : Int} (hd : ∀ j, j < n → 0 ≤ S.getD (i + j) 0 ∧ S.getD (i + j) 0 < 16777216) (e : segI S i (n + 1) = W) (h1 : -(16777216 ^ n) ≤ W) (h2 : W < 16777216 ^ n) :
    (W < 0 → S.getD (i + n) 0 = -1) ∧ (0 ≤ W → S.getD (i + n) 0 = 0) := by
  obtain ⟨b1, b2⟩ := segI_bounds hd
  rw [segI] at e
  have hp : (0 : Int) < 16777216 ^ n := Int.pow_pos (by omega)
  generalize (16777216 : Int) ^ n = P at *
  generalize S.getD (i + n) 0 = t at *
  generalize segI S i n = a at *
  have hm : ∀ k : Int, k + 1 ≤ t → P * (k + 1) ≤ P * t := fun k h => Int.mul_le_mul_of_nonneg_left h (by omega)
  have hm' : ∀ k : Int, t ≤ k → P * t ≤ P * k := fun k h => Int.mul_le_mul_of_nonneg_left h (by omega)
  constructor
  · intro hW
    rcases Int.lt_trichotomy t (-1) with h | h | h
    · have := hm' (-2) (by omega); omega
    · exact h
    · have := hm (-1) (by omega); omega
  · intro hW
    rcases Int.lt_trichotomy t 0 with h | h | h
    · have := hm' (-1) (by omega); omega
    · exact h
    · have := hm 0 (by omega); omega
/-- What a step knows of the rest and the divisor. -/
structure StepAt (R : List Int) (D : List Nat) (i : Nat) (V : Nat) : Prop where
  two : 2 ≤ D.length
  fits : i + D.length < R.length
  digs : ∀ j, j ≤ D.length → 0 ≤ R.getD (i + j) 0 ∧ R.getD (i + j) 0 < 16777216
  eq : segI R i (D.length + 1) = V
  lt : V < 16777216 * val D
  top : D.getD (D.length - 1) 0 ≠ 0
theorem stepAt_guess {R : List Int} {D : List Nat} {i V : Nat} (h : StepAt R D i V) (sD : Small D) {f s t d1 d0 : Nat}
    (hf : R.getD (i + D.length) 0 = (f : Int)) (hs : R.getD (i + D.length - 1) 0 = (s : Int)) (ht : R.getD (i + D.length - 2) 0 = (t : Int)) (hd1 : D.getD (D.length - 1) 0 = d1) (hd0 : D.getD (D.length - 2) 0 = d0) :
    V / val D ≤ (f * 281474976710656 + s * 16777216 + t) / (d1 * 16777216 + d0) ∧ (f * 281474976710656 + s * 16777216 + t) / (d1 * 16777216 + d0) ≤ V / val D + 1 ∧ V / val D < 16777216 ∧ 0 < val D := by
  obtain ⟨n, hn⟩ : ∃ n, D.length = n + 2 := ⟨D.length - 2, by have := h.two; omega⟩
  have htop := h.top
  rw [hd1] at htop
  have hdv : val D = val (D.take n) + 16777216 ^ n * d0 + 16777216 ^ (n + 1) * d1 := by
    have e1 := val_take_getD D n
    have e2 := val_take_getD D (n + 1)
    rw [show n + 1 + 1 = D.length by omega, List.take_length] at e2
    rw [show D.length - 1 = n + 1 by omega] at hd1
    rw [show D.length - 2 = n by omega] at hd0
    rw [hd1] at e2
    rw [hd0] at e1
    omega
  have hlow := val_lt (small_take sD n)
  rw [List.length_take, Nat.min_eq_left (by omega)] at hlow
  have hseg := h.eq
  rw [show D.length + 1 = n + 1 + 1 + 1 by omega, segI, segI, segI] at hseg
  rw [show i + D.length = i + (n + 2) by omega] at hf
  rw [show i + D.length - 1 = i + (n + 1) by omega] at hs
  rw [show i + D.length - 2 = i + n by omega] at ht
  rw [show i + (n + 1 + 1) = i + (n + 2) by omega, hf, hs, ht] at hseg
  obtain ⟨b1, b2⟩ := segI_bounds (R := R) (i := i) (k := n) (fun j hj => h.digs j (by omega))
  obtain ⟨z, hz⟩ := Int.eq_ofNat_of_zero_le b1
  rw [hz] at hseg b2
  have hpz : z < 16777216 ^ n := by
    have : ((16777216 ^ n : Nat) : Int) = (16777216 : Int) ^ n := cast_pow n
    omega
  have hV : V = (f * 281474976710656 + s * 16777216 + t) * 16777216 ^ n + z := by
    have : ((16777216 ^ n : Nat) : Int) = (16777216 : Int) ^ n := cast_pow n
    simp only [Int.pow_succ] at hseg
    rw [← this] at hseg
    obtain ⟨u, hu⟩ : ∃ u, u = f * 281474976710656 + s * 16777216 + t := ⟨_, rfl⟩
    have huI : (u : Int) = (f : Int) * 281474976710656 + (s : Int) * 16777216 + (t : Int) := by omega
    rw [← hu]
    have e3 : (V : Int) = ((u * 16777216 ^ n + z : Nat) : Int) := by
      rw [← hseg, Int.natCast_add, Int.natCast_mul, huI]
      generalize ((16777216 ^ n : Nat) : Int) = P
      grind
    exact Int.ofNat.inj e3
  have hD2 : val D = (d1 * 16777216 + d0) * 16777216 ^ n + val (D.take n) := by
    rw [hdv, Nat.pow_succ]
    generalize (16777216 : Nat) ^ n = P
    grind
  have hlt := h.lt
  obtain ⟨g1, g2⟩ := guess_bounds hV hpz hD2 hlow (by omega) hlt
  have hv0 : 0 < val D := by omega
  exact ⟨g1, g2, (Nat.div_lt_iff_lt_mul hv0).2 hlt, hv0⟩
/-! The whole division -/
theorem ofN_of {S : List Int} (h : ∀ j, j < S.length → 0 ≤ S.getD j 0 ∧ S.getD j 0 < 16777216) : ∃ L : List Nat, S = ofN L ∧ Small L := by
  refine ⟨S.map Int.toNat, ?_, ?_⟩
  · apply List.ext_getElem
    · simp [ofN]
    · intro i h1 h2
      have := h i h1
      simp [List.getD, List.getElem?_eq_getElem h1] at this
      simp [ofN]
      omega
  · intro i hi
    have hi' : i < S.length := by simpa using hi
    have := h i hi'
    simp [List.getD, List.getElem?_eq_getElem hi'] at this
    simp
    omega
theorem ofN_getD (L : List Nat) (j : Nat) : (ofN L).getD j 0 = ((L.getD j 0 : Nat) : Int) := by
  by_cases h : j < L.length
  · simp [ofN, List.getD, List.getElem?_eq_getElem h]
  · simp [ofN, List.getD, List.getElem?_eq_none (by omega : L.length ≤ j)]
theorem getD_drop' (L : List Nat) (i k : Nat) : (L.drop i).getD k 0 = L.getD (i + k) 0 := by
  simp [List.getD, List.getElem?_drop]
theorem segI_ofN (L : List Nat) (i : Nat) : ∀ k, segI (ofN L) i k = (val ((L.drop i).take k) : Int)
  | 0 => by rw [List.take_zero]; rfl
  | k + 1 => by
    rw [segI, segI_ofN L i k, val_take_getD, getD_drop', ofN_getD, Int.natCast_add, Int.natCast_mul, cast_pow]
structure DivInv (M : Nat) (D : List Nat) (lm : Nat) (R Q : List Nat) (i : Nat) : Prop where
  rl : R.length = lm + 1
  rs : Small R
  ql : Q.length = lm - D.length + 1
  qs : Small Q
  low : ∀ j, j < i → Q.getD j 0 = 0
  lt : val (R.drop i) < val D
  eq : val R + val D * val Q = M
theorem divInv_start {M : Nat} {D : List Nat} (hD : Norm D) (h2 : 2 ≤ D.length) (hl : D.length ≤ (dig M).length) :
    DivInv M D (dig M).length (dig M ++ [0]) (List.replicate ((dig M).length - D.length + 1) 0) ((dig M).length - D.length + 1) := by
  refine ⟨by simp, small_append (small_dig M) (small_cons (by omega) small_nil), by simp, small_zeros _, fun j hj => ?_, ?_, ?_⟩
  · simp [List.getD, hj]
  · have e : (dig M ++ [0]).drop ((dig M).length - D.length + 1) = (dig M).drop ((dig M).length - D.length + 1) ++ [0] := by
      rw [List.drop_append_of_le_length (by omega)]
    rw [e, val_append]
    have h3 := val_lt (small_drop (small_dig M) ((dig M).length - D.length + 1))
    have h4 := val_ge hD (by omega)
    rw [List.length_drop, show (dig M).length - ((dig M).length - D.length + 1) = D.length - 1 by omega] at h3
    simp [val]
    omega
  · rw [val_zeros, val_append, val_dig]
    simp [val]
theorem divInv_at {M : Nat} {D : List Nat} {lm : Nat} {R Q : List Nat} {i : Nat} (h : DivInv M D lm R Q (i + 1)) (hD : Norm D) (h2 : 2 ≤ D.length) (hl : D.length ≤ lm) (hi : i < Q.length) :
    StepAt (ofN R) D i (val (R.drop i)) ∧ val ((R.drop i).take (D.length + 1)) = val (R.drop i) ∧ val (R.drop (i + D.length + 1)) = 0 := by
  have hql := h.ql
  have hrl := h.rl
  have hiR : i < R.length := by omega
  have e1 := val_drop R i hiR
  have hx := h.rs i hiR
  have hlt := h.lt
  have hvd := val_lt hD.1
  have s1 := val_split (R.drop (i + 1)) D.length (by rw [List.length_drop]; omega)
  rw [List.drop_drop] at s1
  have hz : val (R.drop (i + 1 + D.length)) = 0 := by
    rcases Nat.eq_zero_or_pos (val (R.drop (i + 1 + D.length))) with h0 | h0
    · exact h0
    · have : 16777216 ^ D.length * 1 ≤ 16777216 ^ D.length * val (R.drop (i + 1 + D.length)) := Nat.mul_le_mul_left _ h0
      omega
  have s2 := val_split (R.drop i) (D.length + 1) (by rw [List.length_drop]; omega)
  rw [List.drop_drop] at s2
  have hz2 : val (R.drop (i + (D.length + 1))) = 0 := by rw [show i + (D.length + 1) = i + 1 + D.length by omega]; exact hz
  rw [hz2, Nat.mul_zero, Nat.add_zero] at s2
  refine ⟨⟨h2, by rw [ofN_length]; omega, fun j hj => ?_, ?_, by omega, ?_⟩, s2.symm, by rw [show i + D.length + 1 = i + 1 + D.length by omega]; exact hz⟩
  · rw [ofN_getD]
    have := getD_lt h.rs (i + j)
    omega
  · rw [segI_ofN, ← s2]
  · have := hD.2 (by omega)
    rwa [getD_of_lt (by omega)]
theorem divInv_step {M : Nat} {D : List Nat} {lm : Nat} {R Q R' : List Nat} {i : Nat} (h : DivInv M D lm R Q (i + 1)) (hD : Norm D) (h2 : 2 ≤ D.length) (hl : D.length ≤ lm) (hi : i < Q.length)
    (rs : Small R') (rl : R'.length = R.length) (same : ∀ j, (j < i ∨ i + D.length < j) → R'.getD j 0 = R.getD j 0) (hv : val ((R'.drop i).take (D.length + 1)) = val (R.drop i) % val D) :
    DivInv M D lm R' (Q.set i (val (R.drop i) / val D)) i := by
  obtain ⟨st, e1, hz⟩ := divInv_at h hD h2 hl hi
  have hql := h.ql
  have hrl := h.rl
  have hv0 : 0 < val D := by have := h.lt; omega
  have hq : val (R.drop i) / val D < 16777216 := (Nat.div_lt_iff_lt_mul hv0).2 st.lt
  have ext : ∀ {A B : List Nat}, A.length = B.length → (∀ j, j < A.length → A.getD j 0 = B.getD j 0) → A = B := fun {A B} hlen hh => by
    apply List.ext_getElem hlen
    intro j h1 h2
    have := hh j h1
    rwa [getD_of_lt h1, getD_of_lt h2] at this
  have t1 : R'.take i = R.take i := by
    refine ext (by simp [rl]) fun j hj => ?_
    have hj' : j < i := by rw [List.length_take] at hj; omega
    have := same j (.inl hj')
    simpa [List.getD, List.getElem?_take, hj'] using this
  have t2 : R'.drop (i + D.length + 1) = R.drop (i + D.length + 1) := by
    refine ext (by simp [rl]) fun j hj => ?_
    rw [getD_drop', getD_drop']
    exact same _ (.inr (by omega))
  have s3 := val_split (R'.drop i) (D.length + 1) (by rw [List.length_drop]; omega)
  rw [List.drop_drop, show i + (D.length + 1) = i + D.length + 1 by omega, t2, hz, Nat.mul_zero, Nat.add_zero, hv] at s3
  refine ⟨by omega, rs, by rw [List.length_set]; exact hql, small_set h.qs i hq, fun j hj => ?_, ?_, ?_⟩
  · have := h.low j (by omega)
    rwa [show (Q.set i (val (R.drop i) / val D)).getD j 0 = Q.getD j 0 by simp [List.getD, List.getElem?_set_ne (show i ≠ j by omega)]]
  · rw [s3]; exact Nat.mod_lt _ hv0
  · have u1 := val_split R' i (by omega)
    have u2 := val_split R i (by omega)
    have u3 := val_set (xs := Q) i hi (val (R.drop i) / val D)
    have hq0 := h.low i (by omega)
    rw [getD_of_lt hi] at hq0
    rw [hq0, Nat.mul_zero, Nat.add_zero] at u3
    rw [t1, s3] at u1
    have e := h.eq
    have e4 := Nat.div_add_mod (val (R.drop i)) (val D)
    rw [u1, u3, ← e, u2]
    generalize val (R.drop i) % val D = r at *
    generalize val (R.drop i) / val D = q at *
    rw [← e4]
    generalize val (R.take i) = a at *
    generalize 16777216 ^ i = P at *
    grind
theorem divInv_end {M : Nat} {D : List Nat} {lm : Nat} {R Q : List Nat} (h : DivInv M D lm R Q 0) : val Q = M / val D ∧ val R = M % val D := by
  have h1 := h.lt
  rw [List.drop_zero] at h1
  have e := h.eq
  rw [← e]
  constructor
  · rw [Nat.add_mul_div_left _ _ (by omega), Nat.div_eq_of_lt h1, Nat.zero_add]
  · rw [Nat.add_mul_mod_self_left, Nat.mod_eq_of_lt h1]

/-- A division under way. -/
structure DivSt (w0 : World) (B gd gr gq : Nat) (da : Option Addr) (dc qc rc : Nat) (D : List Nat) (R Q : List Nat) (w : World) : Prop where
  bel : Below B w0 w
  box : BoxAt w gd 155 #[.slice da D.length dc, .slice (some ⟨gq, 0, none⟩) Q.length qc, .slice (some ⟨gr, 0, none⟩) R.length rc]
  row : RowI w gr (ofN R)
  quo : RowI w gq (ofN Q)
theorem DivSt.grown {w0 w w' : World} {B gd gr gq : Nat} {da : Option Addr} {dc qc rc : Nat} {D R Q R' : List Nat} (h : DivSt w0 B gd gr gq da dc qc rc D R Q w) (hg : w.grownBy w' (some gr)) (hB : B ≤ w.heap.size) (hBr : B ≤ gr) (h1 : gd ≠ gr) (h2 : gq ≠ gr) (hr : RowI w' gr (ofN R')) (hl : R'.length = R.length) :
    DivSt w0 B gd gr gq da dc qc rc D R' Q w' :=
  ⟨h.bel.trans (below_of_grown hg hB (fun g e => by cases e; exact hBr)), by rw [hl]; exact h.box.grown hg (by simp; omega), hr, h.quo.keep (hg.block gq h.quo.lt (by simp; omega))⟩
theorem DivSt.below {w0 w w' : World} {B gd gr gq : Nat} {da : Option Addr} {dc qc rc : Nat} {D R Q : List Nat} (h : DivSt w0 B gd gr gq da dc qc rc D R Q w) (hb : Below w.heap.size w w') (hB : B ≤ w.heap.size) : DivSt w0 B gd gr gq da dc qc rc D R Q w' :=
  ⟨h.bel.trans (hb.mono hB), h.box.below hb, h.row.below hb h.row.lt, h.quo.below hb h.quo.lt⟩

/-- The rest behind a step. -/
structure Stepped (R S : List Int) (D : List Nat) (i r : Nat) : Prop where
  len : S.length = R.length
  same : ∀ j, (j < i ∨ i + D.length < j) → S.getD j 0 = R.getD j 0
  digs : ∀ j, j ≤ D.length → 0 ≤ S.getD (i + j) 0 ∧ S.getD (i + j) 0 < 16777216
  eq : segI S i (D.length + 1) = r
theorem stepped_one {R S : List Int} {D : List Nat} {i V q : Nat} (sD : Small D) (hl : S.length = R.length) (hs : ∀ j, (j < i ∨ i + D.length < j) → S.getD j 0 = R.getD j 0) (hd : ∀ j, j < D.length → 0 ≤ S.getD (i + j) 0 ∧ S.getD (i + j) 0 < 16777216)
    (hR : segI R i (D.length + 1) = (V : Int)) (e : segI S i (D.length + 1) = segI R i (D.length + 1) - (q : Int) * (val D : Int)) (hq : V / val D ≤ q ∧ q ≤ V / val D + 1) (hv : 0 < val D) :
    (q = V / val D ∧ S.getD (i + D.length) 0 = 0 ∧ Stepped R S D i (V % val D)) ∨
    (q = V / val D + 1 ∧ S.getD (i + D.length) 0 = -1 ∧ segI S i (D.length + 1) = ((V % val D : Nat) : Int) - (val D : Int)) := by
  have hdm := Nat.div_add_mod V (val D)
  have hml := Nat.mod_lt V hv
  have hvl := val_lt sD
  have hvI : ((val D : Nat) : Int) < 16777216 ^ D.length := by rw [← cast_pow]; omega
  rw [hR] at e
  rcases (show q = V / val D ∨ q = V / val D + 1 by omega) with rfl | rfl
  · left
    have hW : segI S i (D.length + 1) = ((V % val D : Nat) : Int) := by
      rw [e, ← Int.natCast_mul, Nat.mul_comm]
      omega
    obtain ⟨_, h2⟩ := seg_top hd hW (by omega) (by omega)
    have h3 := h2 (by omega)
    refine ⟨rfl, h3, hl, hs, fun j hj => ?_, hW⟩
    by_cases hjd : j < D.length
    · exact hd j hjd
    · obtain rfl : j = D.length := by omega
      rw [h3]; omega
  · right
    have hW : segI S i (D.length + 1) = ((V % val D : Nat) : Int) - (val D : Int) := by
      rw [e, ← Int.natCast_mul, Nat.add_mul, Nat.one_mul, Nat.mul_comm]
      omega
    obtain ⟨h2, _⟩ := seg_top hd hW (by omega) (by omega)
    exact ⟨rfl, h2 (by omega), hW⟩
theorem stepped_two {R S T : List Int} {D : List Nat} {i r : Nat} (sD : Small D) (hl : S.length = R.length) (hs : ∀ j, (j < i ∨ i + D.length < j) → S.getD j 0 = R.getD j 0)
    (hT : T.length = S.length) (hs2 : ∀ j, (j < i ∨ i + D.length < j) → T.getD j 0 = S.getD j 0) (hd2 : ∀ j, j < D.length → 0 ≤ T.getD (i + j) 0 ∧ T.getD (i + j) 0 < 16777216)
    (hW : segI S i (D.length + 1) = (r : Int) - (val D : Int)) (e : segI T i (D.length + 1) = segI S i (D.length + 1) - (-1) * (val D : Int)) (hr : r < val D) : Stepped R T D i r := by
  have hvl := val_lt sD
  have hvI : ((val D : Nat) : Int) < 16777216 ^ D.length := by rw [← cast_pow]; omega
  have hW2 : segI T i (D.length + 1) = (r : Int) := by omega
  obtain ⟨_, h2⟩ := seg_top hd2 hW2 (by omega) (by omega)
  have h3 := h2 (by omega)
  refine ⟨by omega, fun j hj => (hs2 j hj).trans (hs j hj), fun j hj => ?_, hW2⟩
  by_cases hjd : j < D.length
  · exact hd2 j hjd
  · obtain rfl : j = D.length := by omega
    rw [h3]; omega
/-- The rest as numbers again. -/
theorem Stepped.nat {R : List Nat} {S : List Int} {D : List Nat} {i r : Nat} (h : Stepped (ofN R) S D i r) (rs : Small R) : ∃ R' : List Nat, S = ofN R' ∧ Small R' ∧ R'.length = R.length ∧ (∀ j, (j < i ∨ i + D.length < j) → R'.getD j 0 = R.getD j 0) ∧ val ((R'.drop i).take (D.length + 1)) = r := by
  obtain ⟨R', rfl, hs⟩ := ofN_of (S := S) (fun j hj => by
    by_cases h1 : i ≤ j ∧ j ≤ i + D.length
    · have := h.digs (j - i) (by omega)
      rwa [show i + (j - i) = j by omega] at this
    · rw [h.same j (by omega), ofN_getD]
      have := getD_lt rs j
      omega)
  have hl := h.len
  rw [ofN_length, ofN_length] at hl
  refine ⟨R', rfl, hs, hl, fun j hj => ?_, ?_⟩
  · have := h.same j hj
    rw [ofN_getD, ofN_getD] at this
    exact Int.ofNat.inj this
  · have := h.eq
    rw [segI_ofN] at this
    exact Int.ofNat.inj this

/-- What a step leaves. -/
def StepDone (w0 : World) (B gd gr gq : Nat) (da : Option Addr) (dc qc rc : Nat) (D R Q : List Nat) (i r q : Nat) (w' : World) : Prop :=
  ∃ R' : List Nat, Small R' ∧ R'.length = R.length ∧ (∀ j, (j < i ∨ i + D.length < j) → R'.getD j 0 = R.getD j 0) ∧ val ((R'.drop i).take (D.length + 1)) = r ∧ DivSt w0 B gd gr gq da dc qc rc D R' (Q.set i q) w'
theorem DivSt.setQ {w0 w : World} {B gd gr gq : Nat} {da : Option Addr} {dc qc rc : Nat} {D R Q : List Nat} (h : DivSt w0 B gd gr gq da dc qc rc D R Q w) (hBq : B ≤ gq) (h1 : gd ≠ gq) (h2 : gq ≠ gr) {i : Nat} (hi : i < Q.length) (q : Nat) :
    DivSt w0 B gd gr gq da dc qc rc D R (Q.set i q) (w.setCell ⟨gq, i, none⟩ (.int .i64 (q : Int))) :=
  ⟨h.bel.setCell hBq _, by rw [List.length_set]; exact h.box.far h1 _, h.row.far (by simpa using h2.symm) _, by rw [← ofN_set]; exact h.quo.set_ i (by rw [ofN_length]; exact hi) _⟩

set_option maxRecDepth 100000 in
set_option maxHeartbeats 4000000 in
theorem iStep (w0 : World) (B gd gr gq i V : Nat) (da : Option Addr) (dc qc rc : Nat) (D R Q : List Nat) (w : World) (h : DivSt w0 B gd gr gq da dc qc rc D R Q w) (hx : Ints w B da (ofN D)) (hB : B ≤ w.heap.size) (hBd : B ≤ gd) (hBr : B ≤ gr) (hBq : B ≤ gq)
    (h1 : gd ≠ gr) (h2 : gq ≠ gr) (h3 : gd ≠ gq) (sD : Small D) (rs : Small R) (hst : StepAt (ofN R) D i V) (hi : i < Q.length) (hl : R.length ≤ 1048576) :
    Calls Tryz.prog 146 #[.pointer (some ⟨gd, 0, none⟩), .int .i64 (i : Int)] w fun e w' => e = .returned (.tuple #[]) ∧ StepDone w0 B gd gr gq da dc qc rc D R Q i (V % val D) (V / val D) w' := by
  have hfit := hst.fits
  rw [ofN_length] at hfit
  have htwo := hst.two
  obtain ⟨f, hf⟩ : ∃ f, f = R.getD (i + D.length) 0 := ⟨_, rfl⟩
  obtain ⟨s, hs⟩ : ∃ s, s = R.getD (i + D.length - 1) 0 := ⟨_, rfl⟩
  obtain ⟨t, ht⟩ : ∃ t, t = R.getD (i + D.length - 2) 0 := ⟨_, rfl⟩
  have hf' : (ofN R).getD (i + D.length) 0 = (f : Int) := by rw [ofN_getD, hf]
  have hs' : (ofN R).getD (i + D.length - 1) 0 = (s : Int) := by rw [ofN_getD, hs]
  have ht' : (ofN R).getD (i + D.length - 2) 0 = (t : Int) := by rw [ofN_getD, ht]
  have fb : f < 16777216 := by rw [hf]; exact getD_lt rs _
  have sb : s < 16777216 := by rw [hs]; exact getD_lt rs _
  have tb : t < 16777216 := by rw [ht]; exact getD_lt rs _
  obtain ⟨g1, g2, g3, g4⟩ := stepAt_guess hst sD hf' hs' ht' rfl rfl
  obtain ⟨U, hU⟩ : ∃ U, U = f * 281474976710656 + s * 16777216 + t := ⟨_, rfl⟩
  obtain ⟨d, hd⟩ : ∃ d, d = D.getD (D.length - 1) 0 * 16777216 + D.getD (D.length - 2) 0 := ⟨_, rfl⟩
  have hd0 : 0 < d := by have := hst.top; omega
  have hUd : U < d * 33554432 := by
    rw [← hU, ← hd] at g2
    have : U / d < 33554432 := by omega
    rw [Nat.div_lt_iff_lt_mul hd0] at this
    rw [Nat.mul_comm]; exact this
  have hlen : (ofN R).length = R.length := ofN_length R
  have hbox' : BoxAt w gd 155 #[.slice da D.length dc, .slice (some ⟨gq, 0, none⟩) Q.length qc, .slice (some ⟨gr, 0, none⟩) (ofN R).length rc] := by rw [hlen]; exact h.box
  have HG := Lib.hid (iGuess gd gr i D (ofN R) f s t _ _ da (some ⟨gq, 0, none⟩) dc Q.length qc rc w B hbox' hB hx h.row sD (by rw [hlen]; exact hl) htwo (by rw [hlen]; exact hfit) hf' hs' ht' fb sb tb rfl rfl hst.top (by rw [← hU, ← hd]; exact hUd))
  rw [← hU, ← hd] at HG g1 g2
  obtain ⟨q, hq⟩ : ∃ q, q = U / d := ⟨_, rfl⟩
  rw [← hq] at HG g1 g2
  have HR0 := Lib.hid (show ∀ j, j < D.length → 0 ≤ (ofN R).getD (i + j) 0 ∧ (ofN R).getD (i + j) 0 < 16777216 from fun j hj => hst.digs j (by omega))
  have HT1 := Lib.hid (show ∀ w1, Below w.heap.size w w1 → Calls Tryz.prog 148 #[.pointer (some ⟨gd, 0, none⟩), .int .i64 (i : Int), .int .i64 (q : Int)] w1 fun e w' => e = .returned (.tuple #[]) ∧ RetT gr i D.length (ofN R) (val D) (q : Int) w1 w' from
    fun w1 hb => iTake gd gr i D (ofN R) (q : Int) da (some ⟨gq, 0, none⟩) dc Q.length qc rc w1 B (hbox'.below hb) (hx.below (hb.mono hB)) hBr h1 (h.row.below hb h.row.lt) sD (.inr (by omega)) (by rw [hlen]; exact hl) (by rw [hlen]; exact hfit) HR0.out (by rw [hf']; omega))
  have HT2 := Lib.hid (show ∀ (S : List Int) w2, S.length = R.length → BoxAt w2 gd 155 #[.slice da D.length dc, .slice (some ⟨gq, 0, none⟩) Q.length qc, .slice (some ⟨gr, 0, none⟩) R.length rc] → Ints w2 B da (ofN D) → RowI w2 gr S → (∀ j, j < D.length → 0 ≤ S.getD (i + j) 0 ∧ S.getD (i + j) 0 < 16777216) → S.getD (i + D.length) 0 = -1 →
      Calls Tryz.prog 148 #[.pointer (some ⟨gd, 0, none⟩), .int .i64 (i : Int), .int .i64 (-1)] w2 fun e w' => e = .returned (.tuple #[]) ∧ RetT gr i D.length S (val D) (-1) w2 w' from
    fun S w2 hsl hb hx2 hr hdg htop => iTake gd gr i D S (-1) da (some ⟨gq, 0, none⟩) dc Q.length qc rc w2 B (by rw [hsl]; exact hb) hx2 hBr h1 hr sD (.inl rfl) (by rw [hsl]; exact hl) (by rw [hsl]; exact hfit) hdg (by rw [htop]; omega))
  have HST := Lib.hid hst
  have HH := Lib.hid h
  have HX := Lib.hid hx
  have SD := Lib.hid sD
  have RS := Lib.hid rs
  have HI := Lib.hid hi
  have G := Lib.hid (show V / val D ≤ q ∧ q ≤ V / val D + 1 from ⟨g1, g2⟩)
  have HV := Lib.hid g4
  have HN := Lib.hid (show B ≤ w.heap.size ∧ B ≤ gd ∧ B ≤ gr ∧ B ≤ gq ∧ gd ≠ gr ∧ gq ≠ gr ∧ gd ≠ gq from ⟨hB, hBd, hBr, hBq, h1, h2, h3⟩)
  have hqI : (q : Int) ≤ 16777216 := by omega
  have hiI : (i : Int) ≤ 1048576 := by omega
  have hdl : (D.length : Int) ≤ 1048576 := by omega
  have hidx : ((i : Int) + (D.length : Int)).toNat = i + D.length := by omega
  have hidx2 : (i : Int) + (D.length : Int) < (R.length : Int) := by omega
  have hidx3 : (0 : Int) ≤ (i : Int) + (D.length : Int) := by omega
  have hiQ : (i : Int) < (Q.length : Int) := by omega
  have HFIT := Lib.hid hfit
  clear h hx hB hBd hBr hBq h1 h2 h3 sD rs hst hi hfit htwo hf hs ht hf' hs' ht' fb sb tb g1 g2 g3 g4 hU hd hd0 hUd hlen hbox' hq hl
  go_enter Tryz.func146, Tryz.ntmps146
  go_wp2_with fail
  refine HG.out.mono ?_
  rintro e w1 ⟨rfl, hb⟩
  go_wp2_with fail
  refine (HT1.out w1 hb).mono ?_
  rintro e w2 ⟨rfl, S, hSl, hSs, hSd, hSe, _, _, hSr, hSg⟩
  rw [ofN_length] at hSl
  have hst2 := stepped_one SD.out (by rw [ofN_length]; exact hSl) hSs hSd HST.out.eq hSe G.out HV.out
  have HH1 := Lib.hid (HH.out.below hb HN.out.1)
  have hsz1 := hb.size
  have HB2 := Lib.hid (HH1.out.box.grown hSg (by have := HN.out; simp; omega))
  have HX2 := Lib.hid (show Ints w2 B da (ofN D) from (HX.out.below (hb.mono HN.out.1)).grown hSg (by have := HN.out; omega) (fun g e => by cases e; exact HN.out.2.2.1))
  have HSR := Lib.hid hSr
  have HSG := Lib.hid hSg
  have hc0 := HB2.out.cell 0
  have hc2 := HB2.out.cell 2
  have hc1 := HB2.out.cell 1
  simp at hc0 hc1 hc2
  have hiS : i + D.length < S.length := by have := HFIT.out; omega
  have hcS := hSr.cell (i + D.length) hiS
  rw [show S[i + D.length] = S.getD (i + D.length) 0 by simp [List.getD, List.getElem?_eq_getElem hiS]] at hcS
  have HSD := Lib.hid hSd
  have HSL := Lib.hid hSl
  have HSS := Lib.hid (show ∀ j, (j < i ∨ i + D.length < j) → S.getD j 0 = (ofN R).getD j 0 from hSs)
  clear hb hSs hSd hSe hSr hSg hSl hiS hsz1
  rcases hst2 with ⟨hq1, htop, hdone⟩ | ⟨hq1, htop, hneg⟩
  · have HQ1 := Lib.hid hq1
    have HD := Lib.hid hdone
    rw [htop] at hcS
    have hqf := HH1.out.quo.frozen i
    clear htop hdone hq1
    have HEND := Lib.hid (show ∀ n, StepDone w0 B gd gr gq da dc qc rc D R Q i (V % val D) (V / val D) ((w2.drewN n).setCell ⟨gq, i, none⟩ (.int .i64 (q : Int))) from fun n => by
      rw [← HQ1.out]
      obtain ⟨R', rfl, s1, s2, s3, s4⟩ := HD.out.nat RS.out
      obtain ⟨n1, n2, n3, n4, n5, n6, n7⟩ := HN.out
      have hd2 := HH1.out.grown (R' := R') HSG.out (by have := HH1.out.row.lt; omega) n3 n5 n6 HSR.out s2
      have hd3 : DivSt w0 B gd gr gq da dc qc rc D R' Q (w2.drewN n) := ⟨below_drewN hd2.bel n, hd2.box, hd2.row, hd2.quo⟩
      exact ⟨R', s1, s2, s3, s4, hd3.setQ n4 n7 n6 HI.out q⟩)
    have hqf2 : w2.frozen? ⟨gq, i, none⟩ = false := by
      obtain ⟨n1, n2, n3, n4, n5, n6, n7⟩ := HN.out
      have := (HH1.out.quo.keep (HSG.out.block gq HH1.out.quo.lt (by simp; omega))).frozen i
      exact this
    have hqc : ∃ v, w2.cell? ⟨gq, i, none⟩ = some v := by
      obtain ⟨n1, n2, n3, n4, n5, n6, n7⟩ := HN.out
      exact ⟨_, (HH1.out.quo.keep (HSG.out.block gq HH1.out.quo.lt (by simp; omega))).cell i (by rw [ofN_length]; exact HI.out)⟩
    obtain ⟨v0, hqc⟩ := hqc
    go_wp2
    go_quiet (fail)
    go_wp2
    refine bodyPost_end (v := .tuple #[]) (by simp [results, Tryz.results146, go_sem]) rfl ?_
    exact ⟨rfl, HEND.out nq⟩
  · have HQ1 := Lib.hid hq1
    have HW := Lib.hid hneg
    have HTOP := Lib.hid htop
    rw [htop] at hcS
    have hq1I : (1 : Int) ≤ (q : Int) := by
      have h := hq1
      revert h
      generalize V / val D = z
      intro h
      omega
    have HML := Lib.hid (Nat.mod_lt V HV.out)
    clear htop hneg hq1
    go_wp2
    go_quiet (fail)
    go_wp2_with fail
    refine (HT2.out S (w2.drewN nq) HSL.out HB2.out HX2.out HSR.out HSD.out HTOP.out).mono ?_
    rintro e w3 ⟨rfl, T, hTl, hTs, hTd, hTe, _, _, hTr, hTg⟩
    have hTg : w2.grownBy w3 (some gr) := ⟨hTg.os, hTg.tape, hTg.output, hTg.size, hTg.block⟩
    have hdone := stepped_two (R := ofN R) SD.out (by rw [ofN_length]; exact HSL.out) HSS.out hTl hTs hTd HW.out hTe HML.out
    have HD := Lib.hid hdone
    have hsz2 : w2.heap.size ≤ w3.heap.size := hTg.size
    have HB3 := Lib.hid (show BoxAt w3 gd 155 #[.slice da D.length dc, .slice (some ⟨gq, 0, none⟩) Q.length qc, .slice (some ⟨gr, 0, none⟩) R.length rc] from HB2.out.grown hTg (by have := HN.out; simp; omega))
    have HTR := Lib.hid hTr
    have HTG := Lib.hid hTg
    clear hTl hTs hTd hTe hTr hTg hdone hc0 hc1 hc2 hcS
    have hc1 := HB3.out.cell 1
    simp at hc1
    have HQ3 := Lib.hid (show RowI w3 gq (ofN Q) from by
      obtain ⟨n1, n2, n3, n4, n5, n6, n7⟩ := HN.out
      have h1 := HH1.out.quo.keep (HSG.out.block gq HH1.out.quo.lt (by simp; omega))
      exact h1.keep (HTG.out.block gq h1.lt (by simp; omega)))
    have hqf2 := HQ3.out.frozen i
    have hqc := HQ3.out.cell i (by rw [ofN_length]; exact HI.out)
    have HEND := Lib.hid (show StepDone w0 B gd gr gq da dc qc rc D R Q i (V % val D) (V / val D) (w3.setCell ⟨gq, i, none⟩ (.int .i64 ((q : Int) - 1))) from by
      rw [show (q : Int) - 1 = ((V / val D : Nat) : Int) by
        have h := HQ1.out
        revert h
        generalize V / val D = z
        intro h
        omega]
      obtain ⟨R', rfl, s1, s2, s3, s4⟩ := HD.out.nat RS.out
      obtain ⟨n1, n2, n3, n4, n5, n6, n7⟩ := HN.out
      have hlt := HH1.out.row.lt
      have hsg := HSG.out.size
      have hG : w1.grownBy w3 (some gr) := ⟨HTG.out.os.trans HSG.out.os, HTG.out.tape.trans HSG.out.tape, HTG.out.output.trans HSG.out.output, Nat.le_trans hsg hsz2, fun j hj hne => (HTG.out.block j (by show j < w2.heap.size; omega) hne).trans (HSG.out.block j hj hne)⟩
      have hd2 := HH1.out.grown (R' := R') hG (by omega) n3 n5 n6 HTR.out s2
      exact ⟨R', s1, s2, s3, s4, hd2.setQ n4 n7 n6 HI.out _⟩)
    go_wp2
    refine bodyPost_end (v := .tuple #[]) (by simp [results, Tryz.results146, go_sem]) rfl ?_
    exact ⟨rfl, HEND.out⟩

/-- Two slices of the call's own that share no memory. -/
def Apart (a b : Option Addr) (xs ys : List Int) : Prop := xs = [] ∨ ys = [] ∨ a ≠ b
/-- The call returned a quotient and a remainder. -/
def RetQR (q r : Nat) (w : World) (e : Ending) (w' : World) : Prop := ∃ a c a' c', e = .returned (.tuple #[.slice a (lim q).length c, .slice a' (lim r).length c']) ∧ (lim q).length ≤ c ∧ (lim r).length ≤ c' ∧ Own w' w.heap.size a (lim q) ∧ Own w' w.heap.size a' (lim r) ∧ Apart a a' (lim q) (lim r) ∧ Below w.heap.size w w'

set_option maxHeartbeats 400000 in
theorem iCloneV (a : Option Addr) (xs : List Int) (c : Nat) (w : World) (B : Nat) (hB : B ≤ w.heap.size) (hl : xs.length ≤ 8388608) (hx : Ints w B a xs) :
    Calls Tryz.prog 142 #[.slice a xs.length c] w fun e w' => ∃ v, e = .returned v ∧ OwnV w' w.heap.size v xs ∧ Below w.heap.size w w' := by
  have hnil := fun (W : World) (a : Option Addr) (n c : Nat) => Lib.run_eql_slice_nil W 92 2 a n c 0 0 Tryz.underlying92
  cases a with
  | none =>
    have h0 : xs = [] := by
      rcases Nat.eq_zero_or_pos xs.length with h | h
      · exact List.eq_nil_of_length_eq_zero h
      · obtain ⟨_, _, he, _⟩ := hx 0 h; cases he
    subst h0
    clear hx hl
    simp only [List.length_nil]
    go_enter Tryz.func142, Tryz.ntmps142
    go_wp2
    go_ret
    exact ⟨_, rfl, OwnV.nil _ _, (by repeat (first | exact Below.refl _ _ | assumption | refine Below.alloc ?_ (by simp <;> omega) _ | refine Below.setCell ?_ (by simp <;> omega) _ | refine below_drewN ?_ _))⟩
  | some ad =>
    have HX := Lib.hid hx
    have HL := Lib.hid hl
    clear hx hl
    go_enter Tryz.func142, Tryz.ntmps142
    go_wp2_with (at_builtin; refine wp_app rfl _ _ 92 rfl Tryz.underlying92 w.heap.size _ [] (OwnV.empty w _ (Nat.le_refl _)) rfl ad xs.length c xs rfl rfl (ints_add (HX.out.alloc hB _)) (by have := HL.out; simp; omega) (by simp) ?_; intro v' w' hown hgrow)
    have HO := Lib.hid hown
    have HB := Lib.hid ((Below.alloc (Below.refl w.heap.size w) (Nat.le_refl _) (.cells #[] 2)).grown hgrow (by simp) (fun g hg => by simp [Value.ownBlock] at hg; omega))
    obtain ⟨a', c', rfl, _, _, _⟩ := hown.parts
    clear hgrow hown
    go_wp2_with fail
    go_ret
    exact ⟨_, rfl, HO.out, HB.out⟩

set_option maxRecDepth 100000 in
set_option maxHeartbeats 1000000 in
theorem iDivLess (a b : Option Addr) (m n c1 c2 : Nat) (w : World) (B C : Nat) (hB : B ≤ w.heap.size) (hx : Ints w B a (lim m)) (hy : Ints w C b (lim n)) (hl : (lim m).length ≤ 1048000) (hl' : (lim n).length ≤ 1048000) (hlt : m < n) :
    Calls Tryz.prog 143 #[.slice a (lim m).length c1, .slice b (lim n).length c2] w (RetQR (m / n) (m % n) w) := by
  have HCMP := Lib.hid (iMagCompare a b m n c1 c2 w B C hx hy (by omega) (by omega))
  rw [cmpZ_lt (show (m : Int) < (n : Int) by omega)] at HCMP
  have HCL := Lib.hid (show ∀ W, Below w.heap.size w W → Calls Tryz.prog 142 #[.slice a (lim m).length c1] W fun e w' => ∃ a' c', e = .returned (.slice a' (lim m).length c') ∧ (lim m).length ≤ c' ∧ Own w' w.heap.size a' (lim m) ∧ Below w.heap.size w w' from
    fun W hW => (iClone a (lim m) c1 W B (by have := hW.size; omega) (by omega) (hx.below (hW.mono hB))).mono fun e w' ⟨a', c', he, hc, ho, hb⟩ => ⟨a', c', he, hc, ho.mono hW.size, hW.trans (hb.mono hW.size)⟩)
  have hq : m / n = 0 := Nat.div_eq_of_lt hlt
  have hr : m % n = m := Nat.mod_eq_of_lt hlt
  rw [hq, hr]
  have HT := Lib.hid (Below.refl w.heap.size w)
  clear hx hy hl hl' hlt hq hr hB
  go_enter Tryz.func143, Tryz.ntmps143
  go_wp2_with fail
  refine HCMP.out.mono ?_
  rintro e w1 ⟨q, rfl, rfl⟩
  go_wp2_with fail
  refine (HCL.out _ (below_drewN HT.out _)).mono ?_
  rintro e w2 ⟨a', c', rfl, hc, ho, hb⟩
  go_wp2_with fail
  go_ret2
  exact ⟨none, 0, a', c', by rw [lim_zero]; rfl, by rw [lim_zero]; exact Nat.le_refl _, hc, by rw [lim_zero]; exact Own.nil, ho, .inl lim_zero, hb⟩

theorem dig_one {n : Nat} (h : (dig n).length = 1) : n < 16777216 ∧ n ≠ 0 := by
  have h1 := dig_lt n
  rw [h] at h1
  refine ⟨by omega, ?_⟩
  rintro rfl
  rw [dig_zero] at h
  cases h
set_option maxRecDepth 100000 in
set_option maxHeartbeats 1000000 in
theorem iDivOne (a b : Option Addr) (m n c1 c2 : Nat) (w : World) (B C : Nat) (hB : B ≤ w.heap.size) (hC : C ≤ w.heap.size) (hx : Ints w B a (lim m)) (hy : Ints w C b (lim n)) (hl : (lim m).length ≤ 1048000) (hle : n ≤ m) (h1 : (dig n).length = 1) :
    Calls Tryz.prog 143 #[.slice a (lim m).length c1, .slice b (lim n).length c2] w (RetQR (m / n) (m % n) w) := by
  obtain ⟨hn, hn0⟩ := dig_one h1
  have h1' : (lim n).length = 1 := by rw [lim_length, h1]
  have HCMP := Lib.hid (iMagCompare a b m n c1 c2 w B C hx hy (by omega) (by omega))
  have hcm : cmpZ (m : Int) (n : Int) = 0 ∨ cmpZ (m : Int) (n : Int) = 1 := by
    rcases Nat.lt_or_ge n m with h | h
    · right; exact cmpZ_gt (by omega)
    · left; exact cmpZ_eq (by omega)
  obtain ⟨z, hz⟩ : ∃ z, z = cmpZ (m : Int) (n : Int) := ⟨_, rfl⟩
  rw [← hz] at HCMP hcm
  have hz0 : decide (z < 0) = false := decide_eq_false (by omega)
  have hg : (lim n)[0]'(by omega) = ((n % 16777216 : Nat) : Int) := by
    have : (lim n).getD 0 0 = ((n % 16777216 : Nat) : Int) := by rw [lim, dig_pos hn0]; rfl
    rw [← this]
    simp [List.getD, List.getElem?_eq_getElem (show 0 < (lim n).length by omega)]
  obtain ⟨c, o, hb, hcC, hcell⟩ := hy 0 (by omega)
  subst hb
  rw [hg, Nat.mod_eq_of_lt hn, Nat.add_zero] at hcell
  have HPT := Lib.hid (show ∀ W, Below w.heap.size w W → Calls Tryz.prog 145 #[.slice a (lim m).length c1, .int .i64 (n : Int)] W fun e w' => ∃ a' c', e = .returned (.tuple #[.slice a' (lim (m / n)).length c', .int .i64 ((m % n : Nat) : Int)]) ∧ (lim (m / n)).length ≤ c' ∧ Own2 w' w.heap.size w'.heap.size a' (lim (m / n)) ∧ Below w.heap.size w w' from
    fun W hW => (iByPart a m c1 n W B (by have := hW.size; omega) (hx.below (hW.mono hB)) (by omega) (by omega) (by omega)).mono fun e w' ⟨a', c', he, hc, ho, hb⟩ => ⟨a', c', he, hc, (Own2.of (ho.mono hW.size)), hW.trans (hb.mono hW.size)⟩)
  have hrl : m % n < n := Nat.mod_lt _ (by omega)
  have HMG := Lib.hid (show ∀ W, Calls Tryz.prog 135 #[.int .u64 ((m % n : Nat) : Int)] W (RetL (lim (m % n)) W) from fun W => iMagOf (m % n) (by omega) W)
  obtain ⟨q, hq⟩ : ∃ q, q = m / n := ⟨_, rfl⟩
  obtain ⟨r, hr⟩ : ∃ r, r = m % n := ⟨_, rfl⟩
  rw [← hq, ← hr] at HPT ⊢
  rw [← hr] at HMG hrl
  have hrI : (r : Int) ≤ 9223372036854775807 := by omega
  have hru : IntKind.u64.wrap (r : Int) = (r : Int) := by rw [IntKind.wrap_u64]; omega
  have HT := Lib.hid (Below.refl w.heap.size w)
  rw [h1'] at HCMP ⊢
  clear hx hy hl hle hn hn0 hg hrl hq hr hB hC h1 h1' hz hcm hcC
  go_enter Tryz.func143, Tryz.ntmps143
  go_wp2_with fail
  refine HCMP.out.mono ?_
  rintro e w1 ⟨k, rfl, rfl⟩
  go_wp2_with fail
  refine (HPT.out _ (below_drewN HT.out _)).mono ?_
  rintro e w2 ⟨a1, k1, rfl, hk1, ho1, hb1⟩
  go_wp2_with fail
  refine (HMG.out w2).mono ?_
  rintro e w3 ⟨a2, k2, rfl, hk2, ho2, hb2⟩
  have HEND := Lib.hid (show RetQR q r w (.returned (.tuple #[.slice a1 (lim q).length k1, .slice a2 (lim r).length k2])) w3 from
    ⟨a1, k1, a2, k2, rfl, hk1, hk2, (ho1.below hb2 (Nat.le_refl _)).own, ho2.mono hb1.size, by
      rcases ho1 with h | ⟨g, rfl, _, hg, _⟩
      · exact .inl h
      · rcases ho2 with h | ⟨g2, rfl, hg2, _⟩
        · exact .inr (.inl h)
        · refine .inr (.inr fun e => ?_)
          simp at e
          try omega, hb1.trans (hb2.mono hb1.size)⟩)
  clear hk1 ho1 hb1 hk2 ho2 hb2
  go_wp2_with fail
  go_ret2
  exact HEND.out

/-- The division as it begins. -/
theorem divSt_start {w W' : World} {gr rc lq : Nat} {da : Option Addr} {dc : Nat} {D R : List Nat} {n : Nat} (hb : Below w.heap.size w W') (hr : RowI W' gr (ofN R)) (hn : R.length = n) :
    DivSt w w.heap.size W'.heap.size gr (W'.heap.size + 1) da dc lq rc D R (List.replicate lq 0)
      ((W'.alloc (.cells #[.slice da D.length dc, .slice (some ⟨W'.heap.size + 1, 0, none⟩) lq lq, .slice (some ⟨gr, 0, none⟩) n rc] 155)).alloc (.cells (madeCells #[.int .i64 0] lq) 2)) := by
  subst hn
  have hlt := hr.lt
  have h1 := (BoxAt.new W' 155 #[.slice da D.length dc, .slice (some ⟨W'.heap.size + 1, 0, none⟩) lq lq, .slice (some ⟨gr, 0, none⟩) R.length rc]).alloc (.cells (madeCells #[.int .i64 0] lq) 2)
  have h3 := RowI.made (W'.alloc (.cells #[.slice da D.length dc, .slice (some ⟨W'.heap.size + 1, 0, none⟩) lq lq, .slice (some ⟨gr, 0, none⟩) R.length rc] 155)) lq
  refine ⟨(hb.alloc (by exact hb.size) _).alloc (by have := hb.size; simp; omega) _, ?_, (hr.alloc _).alloc _, ?_⟩
  · rw [List.length_replicate]
    exact h1
  · rw [ofN_zeros]
    simpa using h3
theorem quietT {w : World} {a : Option Addr} {L : List Nat} {c B : Nat} (hx : Ints w B a (ofN L)) (hs : Small L) (hc : L.length ≤ c) (hc2 : c ≤ 9223372036854775807) (n : Nat) :
    Calls Tryz.prog 136 #[.slice a L.length c] (w.drewN n) fun e w'' => e = .returned (.slice a (dig (val L)).length c) ∧ ∃ m, w'' = w.drewN m :=
  (iTrimmed a L c (w.drewN n) B hx hs hc hc2).mono fun _ _ ⟨he, hm⟩ => ⟨he, n, hm.symm⟩
theorem quietT2 {w : World} {a : Option Addr} {L : List Nat} {c B : Nat} (hx : Ints w B a (ofN L)) (hs : Small L) (hc : L.length ≤ c) (hc2 : c ≤ 9223372036854775807) (q n : Nat) :
    Calls Tryz.prog 136 #[.slice a L.length c] (w.drewN (q + n)) fun e w'' => e = .returned (.slice a (dig (val L)).length c) ∧ ∃ m, w'' = w.drewN (q + m) :=
  (iTrimmed a L c (w.drewN (q + n)) B hx hs hc hc2).mono fun _ _ ⟨he, hm⟩ => ⟨he, n, hm.symm⟩

theorem OwnV.row1 {w : World} {lo : Nat} {v : Value} {xs : List Int} {z : Int} {n : Nat} (h : OwnV w lo v (xs ++ [z])) (hn : xs.length = n) : ∃ g c, v = .slice (some ⟨g, 0, none⟩) (n + 1) c ∧ n + 1 ≤ c ∧ c ≤ 9223372036854775807 ∧ lo ≤ g ∧ RowI w g (xs ++ [z]) := by
  obtain ⟨a, c, rfl, h1, h2, h3⟩ := h.parts
  rcases h3 with h3 | ⟨g, rfl, hg, hr⟩
  · simp at h3
  · exact ⟨g, c, by simp [hn], by simpa [hn] using h1, h2, hg, hr⟩
set_option maxRecDepth 100000 in
set_option maxHeartbeats 4000000 in
theorem iDivMany (a b : Option Addr) (m n c1 c2 : Nat) (w : World) (B C : Nat) (hB : B ≤ w.heap.size) (hC : C ≤ w.heap.size) (hx : Ints w B a (lim m)) (hy : Ints w C b (lim n)) (hl : (lim m).length ≤ 1048000) (hle : n ≤ m) (h2 : 2 ≤ (dig n).length) :
    Calls Tryz.prog 143 #[.slice a (lim m).length c1, .slice b (lim n).length c2] w (RetQR (m / n) (m % n) w) := by
  have hll : (lim n).length ≤ (lim m).length := lim_le_of_le hle
  have HCMP := Lib.hid (iMagCompare a b m n c1 c2 w B C hx hy (by omega) (by omega))
  have hcm : cmpZ (m : Int) (n : Int) = 0 ∨ cmpZ (m : Int) (n : Int) = 1 := by
    rcases Nat.lt_or_ge n m with h | h
    · right; exact cmpZ_gt (by omega)
    · left; exact cmpZ_eq (by omega)
  obtain ⟨z, hz⟩ : ∃ z, z = cmpZ (m : Int) (n : Int) := ⟨_, rfl⟩
  rw [← hz] at HCMP hcm
  have hz0 : decide (z < 0) = false := decide_eq_false (by omega)
  have HCL := Lib.hid (show ∀ W, Below w.heap.size w W → Calls Tryz.prog 142 #[.slice a (lim m).length c1] W fun e w' => ∃ v, e = .returned v ∧ OwnV w' w.heap.size v (lim m) ∧ Below w.heap.size w w' from
    fun W hW => (iCloneV a (lim m) c1 W B (by have := hW.size; omega) (by omega) (hx.below (hW.mono hB))).mono fun e w' ⟨v, he, ho, hb⟩ => ⟨v, he, ⟨ho.1, by
      rcases ho.2 with h | ⟨g, cap, cur, h1, h2, h3⟩
      · exact .inl h
      · exact .inr ⟨g, cap, cur, h1, Nat.le_trans hW.size h2, h3⟩⟩, hW.trans (hb.mono hW.size)⟩)
  obtain ⟨lm, hlm⟩ : ∃ lm, lm = (dig m).length := ⟨_, rfl⟩
  obtain ⟨D, hD⟩ : ∃ D, D = dig n := ⟨_, rfl⟩
  have hDl : (lim n).length = D.length := by rw [lim_length, hD]
  have hml : (lim m).length = lm := by rw [lim_length, hlm]
  rw [hDl, hml] at HCMP
  rw [hml] at HCL hl
  rw [hDl, hml] at hll ⊢
  rw [← hD] at h2
  have hy' : Ints w C b (ofN D) := by rw [hD]; exact hy
  have hND : Norm D := by rw [hD]; exact norm_dig n
  have hvD : val D = n := by rw [hD, val_dig]
  have HY := Lib.hid hy'
  have HND := Lib.hid hND
  have HVD := Lib.hid hvD
  have HDV := Lib.hid (divInv_start (M := m) hND h2 (by rw [← hlm]; exact hll))
  rw [← hlm] at HDV
  have hmk := mk_mag (lm - D.length + 1) (by omega)
  have e1 : (((lm - D.length + 1 : Nat)) : Int) = (lm : Int) - (D.length : Int) + 1 := by omega
  rw [e1] at hmk
  have HT := Lib.hid (Below.refl w.heap.size w)
  have HLM := Lib.hid (show lm = (dig m).length from hlm)
  have hlI : (lm : Int) ≤ 1048000 := by omega
  have hdI : (D.length : Int) ≤ (lm : Int) := by omega
  have hd2 : (2 : Int) ≤ (D.length : Int) := by omega
  have hne : ((D.length : Int) == 1) = false := beq_eq_false_iff_ne.2 (by omega)
  have HC := Lib.hid hC
  have H2 := Lib.hid h2
  have HLL := Lib.hid hll
  clear hx hy hl hle hz hcm hB hC hy' hND hvD hlm hD hDl hml e1 h2 hll
  go_enter Tryz.func143, Tryz.ntmps143
  go_wp2_with fail
  refine HCMP.out.mono ?_
  rintro e w1 ⟨k, rfl, rfl⟩
  go_wp2_with fail
  refine (HCL.out _ (below_drewN HT.out _)).mono ?_
  rintro e w2 ⟨v, rfl, hown, hb⟩
  have OW := Lib.hid hown
  have HB2 := Lib.hid hb
  have hs2 := hb.size
  clear hown hb
  go_wp2_with (at_builtin; refine wp_app1 rfl _ _ 92 rfl Tryz.underlying92 w2 (0 : Int) (by simp) w.heap.size _ (lim m) OW.out rfl rfl (by rw [lim_length, ← HLM.out]; omega) (by omega) ?_; intro v' w' hown hb hs; obtain ⟨gr, rc, rfl, hrc, hrc2, hgr, hrow⟩ := OwnV.row1 hown (show (lim m).length = lm by rw [lim_length, HLM.out]); have HROW := Lib.hid hrow; have HB3 := Lib.hid (hb w.heap.size (by omega) (Nat.le_refl _)); clear hown hb hrow)
  have hRl : (dig m ++ [0]).length = lm + 1 := by simp [HLM.out]
  have hst0 := divSt_start (lq := lm - D.length + 1) (rc := rc) (da := b) (dc := c2) (D := D) (R := dig m ++ [0]) (HB2.out.trans HB3.out) (by rw [ofN_append]; exact HROW.out) hRl
  have HST := Lib.hid hst0
  have hszw : w.heap.size ≤ w'.heap.size := (HB2.out.trans HB3.out).size
  have HGR := Lib.hid (show gr < w'.heap.size from HROW.out.lt)
  have HSZ := Lib.hid hszw
  have HGR0 := Lib.hid hgr
  have HRC := Lib.hid (show lm + 1 ≤ rc ∧ rc ≤ 9223372036854775807 from ⟨hrc, hrc2⟩)
  clear hst0 hRl OW HB2 HB3 HROW hgr hrc hrc2 HCL HCMP hmk
  go_loopw [9] (fun q wr => ∃ (k : Nat) (R Q : List Nat), k ≤ lm - D.length + 1 ∧ q = .int .i64 ((k : Int) - 1) ∧ Hid (DivInv m D lm R Q k) ∧ Hid (DivSt w w.heap.size w'.heap.size gr (w'.heap.size + 1) b c2 (lm - D.length + 1) rc D R Q wr)) (fun q _ => (intOf q + 1).toNat)
  case atStart => exact ⟨lm - D.length + 1, _, _, Nat.le_refl _, by congr 1; omega, HDV, HST⟩
  case round =>
    obtain ⟨k, R, Q, hk, rfl, hinv, hst⟩ := hrel
    by_cases hk0 : 0 < k
    · have hI : DivInv m D lm R Q ((k - 1) + 1) := by rw [show k - 1 + 1 = k by omega]; exact hinv.out
      have hiQ : k - 1 < Q.length := by rw [hI.ql]; omega
      obtain ⟨hat, hv1, hz⟩ := divInv_at hI HND.out H2.out HLL.out hiQ
      have hbel := hst.out.bel
      have hsz := hbel.size
      have hcall := iStep w w.heap.size w'.heap.size gr (w'.heap.size + 1) (k - 1) (val (R.drop (k - 1))) b c2 (lm - D.length + 1) rc D R Q wr hst.out ((HY.out.below (hbel.mono HC.out)).more HC.out) hsz HSZ.out HGR0.out (by have := HSZ.out; omega) (by have := HGR.out; omega) (by have := HGR.out; omega) (by omega) HND.out.1 hI.rs hat hiQ (by rw [hI.rl]; omega)
      have ek : (((k - 1 : Nat)) : Int) = (k : Int) - 1 := by omega
      rw [ek] at hcall
      have HCALL := Lib.hid hcall
      have HNXT := Lib.hid (fun R' s1 s2 s3 s4 => divInv_step (R' := R') hI HND.out H2.out HLL.out hiQ s1 s2 s3 s4)
      have hkI : (0 : Int) ≤ (k : Int) - 1 := by omega
      have hkb : (k : Int) ≤ 1048576 := by omega
      clear hcall hat hv1 hz hbel hI hiQ ek
      go_wp2_with fail
      refine HCALL.out.mono ?_
      rintro e w3 ⟨rfl, R', s1, s2, s3, s4, s5⟩
      have HIN := Lib.hid (HNXT.out R' s1 s2 s3 s4)
      have HS5 := Lib.hid s5
      clear s1 s2 s3 s4 s5
      go_wp2_with fail
      go_roundw
      case rel => exact ⟨k - 1, R', _, by omega, by congr 1; omega, HIN, HS5⟩
      case measure => simp [intOf]; omega
    · obtain rfl : k = 0 := by omega
      obtain ⟨d1, d2⟩ := divInv_end hinv.out
      rw [HVD.out] at d1 d2
      have hql := hinv.out.ql
      have hrl := hinv.out.rl
      have hqs := hinv.out.qs
      have hrs := hinv.out.rs
      have hbox := hst.out.box
      have hc1 := hbox.cell 1
      have hc2 := hbox.cell 2
      simp at hc1 hc2
      have HQ1 := Lib.hid (fun k => quietT (c := lm - D.length + 1) hst.out.quo.ints hqs (by omega) (by omega) k)
      have HQ2 := Lib.hid (fun q k => quietT2 (c := lm - D.length + 1) hst.out.quo.ints hqs (by omega) (by omega) q k)
      have HR1 := Lib.hid (fun k => quietT (c := rc) hst.out.row.ints hrs (by have := HRC.out; omega) HRC.out.2 k)
      have HR2 := Lib.hid (fun q k => quietT2 (c := rc) hst.out.row.ints hrs (by have := HRC.out; omega) HRC.out.2 q k)
      have HEND := Lib.hid (show ∀ j, RetQR (m / n) (m % n) w (.returned (.tuple #[.slice (some ⟨w'.heap.size + 1, 0, none⟩) (dig (val Q)).length (lm - D.length + 1), .slice (some ⟨gr, 0, none⟩) (dig (val R)).length rc])) (wr.drewN j) from fun j => by
        have hle := dig_length_val_le hqs
        have hle2 := dig_length_val_le hrs
        have hg := HGR.out
        have hs := HSZ.out
        have hg0 := HGR0.out
        rw [← d1, ← d2]
        refine ⟨_, _, _, _, by rw [lim_length (val Q), lim_length (val R)], by rw [lim_length]; omega, by rw [lim_length]; have := HRC.out; omega, Own.row ?_ (by omega), Own.row ?_ hg0, .inr (.inr (fun e => by simp at e; try omega)), below_drewN hst.out.bel _⟩
        · have := hst.out.quo.take (dig (val Q)).length
          rwa [ofN_take, take_dig_len hqs] at this
        · have := hst.out.row.take (dig (val R)).length
          rwa [ofN_take, take_dig_len hrs] at this)
      obtain ⟨uq, huq⟩ : ∃ u, u = (dig (val Q)).length := ⟨_, rfl⟩
      obtain ⟨ur, hur⟩ : ∃ u, u = (dig (val R)).length := ⟨_, rfl⟩
      rw [← huq] at HQ1 HQ2 HEND
      rw [← hur] at HR1 HR2 HEND
      clear hinv hst d1 d2 hqs hrs hbox hql hrl hk hk0 huq hur
      go_wp2
      go_quiet ((go_at_call 136; first | (with_reducible exact HQ1.out _) | (with_reducible exact HQ2.out _ _) | (with_reducible exact HR1.out _) | (with_reducible exact HR2.out _ _)))
      go_wp2_with fail
      go_ret2
      exact HEND.out _

set_option maxHeartbeats 1000000 in
/-- **dividedBy**, whatever the divisor but 0. -/
theorem iDividedBy (a b : Option Addr) (m n c1 c2 : Nat) (w : World) (B C : Nat) (hB : B ≤ w.heap.size) (hC : C ≤ w.heap.size) (hx : Ints w B a (lim m)) (hy : Ints w C b (lim n)) (hl : (lim m).length ≤ 1048000) (hl' : (lim n).length ≤ 1048000) (hn : n ≠ 0) :
    Calls Tryz.prog 143 #[.slice a (lim m).length c1, .slice b (lim n).length c2] w (RetQR (m / n) (m % n) w) := by
  by_cases hlt : m < n
  · exact iDivLess a b m n c1 c2 w B C hB hx hy hl hl' hlt
  · by_cases h1 : (dig n).length = 1
    · exact iDivOne a b m n c1 c2 w B C hB hC hx hy hl (by omega) h1
    · have := dig_length_pos hn
      exact iDivMany a b m n c1 c2 w B C hB hC hx hy hl (by omega) (by omega)

theorem ints_unique {w : World} {B B' : Nat} {a : Option Addr} {xs ys : List Int} (h : Ints w B a xs) (k : Ints w B' a ys) (hl : xs.length = ys.length) : xs = ys := by
  refine List.ext_getElem hl fun i h1 h2 => ?_
  obtain ⟨c, o, rfl, _, hx⟩ := h i h1
  obtain ⟨c', o', e, _, hy⟩ := k i h2
  cases e
  rw [hx] at hy
  injection hy with hy
  injection hy with _ hy
/-- The number whose limbs a slice holds. -/
noncomputable def magAt (v : Value) (w : World) : Nat :=
  @dite _ (∃ (y : Nat) (a : Option Addr) (c B : Nat), v = .slice a (lim y).length c ∧ Ints w B a (lim y)) (Classical.propDecidable _) (fun h => Classical.choose h) (fun _ => 0)
theorem magAt_eq {w : World} {y : Nat} {a : Option Addr} {c B : Nat} (h : Ints w B a (lim y)) : magAt (.slice a (lim y).length c) w = y := by
  have hex : ∃ (z : Nat) (a' : Option Addr) (c' B : Nat), Value.slice a (lim y).length c = .slice a' (lim z).length c' ∧ Ints w B a' (lim z) := ⟨y, a, c, B, rfl, h⟩
  unfold magAt
  rw [dif_pos hex]
  obtain ⟨a', c', B', he, h'⟩ := Classical.choose_spec hex
  obtain ⟨z, hz⟩ : ∃ z, z = Classical.choose hex := ⟨_, rfl⟩
  rw [← hz] at he h' ⊢
  injection he with e1 e2 e3
  subst e1
  exact lim_inj (ints_unique h' h e2.symm)

theorem lim1 : lim 1 = [1] := by
  rw [lim, dig_pos (by decide)]
  have : dig (1 / 16777216) = [] := by rw [show 1 / 16777216 = 0 by decide, dig_zero]
  rw [this]
  rfl
theorem ints1 (w : World) (z : Int) (t : TypeId) : Ints (w.alloc (.cells #[.int .i64 z] t)) (w.alloc (.cells #[.int .i64 z] t)).heap.size (some ⟨w.heap.size, 0, none⟩) [z] := fun i hi => by
  have h0 : i = 0 := by simpa using hi
  subst h0
  refine ⟨w.heap.size, 0, rfl, by simp, ?_⟩
  simp
theorem pow_len {K L : Nat} (h : K < 24 * L) : (lim (2 ^ K)).length ≤ L := by
  rw [lim_length]
  refine dig_length_le ?_
  rw [two24]
  exact Nat.pow_lt_pow_right (by omega) h
/-- How many bits, as a natural number. -/
theorem blen_nat {n : Nat} (h : n ≠ 0) (hl : (lim n).length ≤ 200) : ∃ b : Nat, blen n = (b : Int) ∧ b ≤ 4800 ∧ n < 2 ^ b := by
  rw [lim_length] at hl
  have hp := dig_length_pos h
  have hb := bitLen_le24 (show (dig n).getD ((dig n).length - 1) 0 < 16777216 from getD_lt (small_dig n) _)
  have e := blen_pos h
  obtain ⟨b, hb'⟩ := Int.eq_ofNat_of_zero_le (show 0 ≤ blen n by omega)
  exact ⟨b, hb', by omega, blen_le.1 (by omega)⟩
theorem root_start {n b K : Nat} (h : n < 2 ^ b) (hK : K = (b + 1) / 2) : n < (2 ^ K + 1) * (2 ^ K + 1) := by
  have h1 : 2 ^ b ≤ 2 ^ (K + K) := Nat.pow_le_pow_right (by omega) (by omega)
  rw [Nat.pow_add] at h1
  have h2 : 2 ^ K * 2 ^ K ≤ (2 ^ K + 1) * (2 ^ K + 1) := Nat.mul_le_mul (by omega) (by omega)
  omega

set_option maxRecDepth 100000 in
set_option maxHeartbeats 2000000 in
theorem iRoot (a : Option Addr) (n c1 r : Nat) (w : World) (B : Nat) (hB : B ≤ w.heap.size) (hx : Ints w B a (lim n)) (hl : (lim n).length ≤ 200) (h1 : r * r ≤ n) (h2 : n < (r + 1) * (r + 1)) :
    Calls Tryz.prog 128 #[.slice a (lim n).length c1] w (RetL (lim r) w) := by
  by_cases h0 : n = 0
  · subst h0
    have hr : r = 0 := by
      rcases Nat.eq_zero_or_pos r with h | h
      · exact h
      · have := Nat.mul_pos h h; omega
    subst hr
    have HEND := Lib.hid (show RetL (lim 0) w (.returned (.slice none 0 0)) w from ⟨none, 0, by rw [lim_zero]; rfl, by rw [lim_zero]; exact Nat.le_refl _, by rw [lim_zero]; exact Own.nil, Below.refl _ _⟩)
    have hl0 : (lim 0).length = 0 := by rw [lim_zero]; rfl
    rw [hl0]
    clear hx hB hl h1 h2 hl0
    go_enter Tryz.func128, Tryz.ntmps128
    go_wp2
    go_ret
    exact HEND.out
  · obtain ⟨b, hb, hb2, hb3⟩ := blen_nat h0 hl
    obtain ⟨K, hK⟩ : ∃ K, K = (b + 1) / 2 := ⟨_, rfl⟩
    have hst := root_start hb3 hK
    have hqK : Int.tdiv ((b : Int) + 1) 2 = (K : Int) := by rw [Int.tdiv_eq_ediv_of_nonneg (by omega)]; omega
    have hlen := pow_len (K := K) (L := 400) (by omega)
    have HX := Lib.hid (show ∀ W, Below w.heap.size w W → Ints W W.heap.size a (lim n) from fun W hW => (hx.below (hW.mono hB)).more (by have := hW.size; omega))
    have HLEN := Lib.hid (show ∀ W, Below w.heap.size w W → Calls Tryz.prog 66 #[.slice a (lim n).length c1] W fun e w' => e = .returned (.int .i64 (b : Int)) ∧ W = w' from
      fun W hW => by rw [← hb]; exact iMagLength a n c1 W _ (HX.out W hW) (by omega))
    have HUP := Lib.hid (show ∀ W x, Below w.heap.size w W → Ints W W.heap.size x [1] → Calls Tryz.prog 116 #[.slice x 1 1, .int .i64 (K : Int)] W fun e w' => ∃ a c, e = .returned (.slice a (lim (2 ^ K)).length c) ∧ (lim (2 ^ K)).length ≤ c ∧ Own w' w.heap.size a (lim (2 ^ K)) ∧ Below w.heap.size w w' from
      fun W x hW hI => by
        have := iShiftedUp x 1 1 K W _ (Nat.le_refl _) (by rw [lim1]; exact hI) (by rw [lim1]; simp) (by omega)
        rw [lim1, Nat.one_mul] at this
        exact this.mono fun e w' ⟨a, c, he, hc, ho, hb⟩ => ⟨a, c, he, hc, ho.mono hW.size, hW.trans (hb.mono hW.size)⟩)
    have HST := Lib.hid hst
    have HLN := Lib.hid hlen
    obtain ⟨R0, hR0⟩ : ∃ R, R = 2 ^ K := ⟨_, rfl⟩
    rw [← hR0] at HUP HST HLN
    have HR := Lib.hid (show r * r ≤ n ∧ n < (r + 1) * (r + 1) ∧ n ≠ 0 ∧ (lim n).length ≤ 200 from ⟨h1, h2, h0, hl⟩)
    obtain ⟨L, hL⟩ : ∃ L, L = (lim n).length := ⟨_, rfl⟩
    have hL0 : 0 < L := by rw [hL, lim_length]; exact dig_length_pos h0
    have hLe : ((L : Int) == 0) = false := beq_eq_false_iff_ne.2 (by omega)
    have hbI : (b : Int) ≤ 4800 := by omega
    have hbI0 : (0 : Int) ≤ (b : Int) := by omega
    have hKI : (K : Int) ≤ 4800 := by omega
    have hKI0 : (0 : Int) ≤ (K : Int) := by omega
    have HLL := Lib.hid hL
    rw [← hL] at HLEN ⊢
    have HT := Lib.hid (Below.refl w.heap.size w)
    clear hx hB hl h1 h2 h0 hb hb2 hb3 hK hst hlen hR0 hL hL0
    go_enter Tryz.func128, Tryz.ntmps128
    go_wp2_with fail
    refine (HLEN.out _ (HT.out.alloc (Nat.le_refl _) _)).mono ?_
    rintro e w1 ⟨rfl, rfl⟩
    go_wp2_with fail
    refine (HUP.out _ _ (HT.out.alloc (Nat.le_refl _) _) (ints1 _ _ _)).mono ?_
    rintro e w2 ⟨b0, d0, rfl, hc0, ho0, hb0⟩
    have HC0 := Lib.hid hc0
    have HO0 := Lib.hid ho0
    have HB0 := Lib.hid hb0
    clear hc0 ho0 hb0
    go_wp2
    go_loopw [3] (fun q wr => ∃ (x : Nat) (b : Option Addr) (d : Nat), q = .slice b (lim x).length d ∧ Hid (Own wr w.heap.size b (lim x)) ∧ Hid ((lim x).length ≤ d ∧ (lim x).length ≤ 400 ∧ n < (x + 1) * (x + 1)) ∧ Hid (Below w.heap.size w wr)) (fun q wr => magAt q wr)
    case atStart => exact ⟨R0, b0, d0, rfl, HO0, Lib.hid ⟨HC0.out, HLN.out, HST.out⟩, HB0⟩
    case round =>
      obtain ⟨x, b, d, rfl, hown, hh, hb⟩ := hrel
      have hx0 : x ≠ 0 := by
        intro h
        subst h
        have := hh.out.2.2
        have := HR.out.2.2.1
        omega
      have hsz := hb.out.size
      obtain ⟨q, hq⟩ : ∃ q, q = n / x := ⟨_, rfl⟩
      obtain ⟨y, hy⟩ : ∃ y, y = (x + q) / 2 := ⟨_, rfl⟩
      have hln : (lim n).length ≤ 200 := HR.out.2.2.2
      have hlx : (lim x).length ≤ 400 := hh.out.2.1
      have hlq : (lim q).length ≤ 200 := by rw [hq]; exact Nat.le_trans (lim_le_of_le (Nat.div_le_self _ _)) hln
      have hls : (lim (x + q)).length ≤ 401 := by have := lim_add_len x q; omega
      have hown' := hown.out
      have HDIV := Lib.hid (show Calls Tryz.prog 143 #[.slice a L c1, .slice b (lim x).length d] wr (RetQR q (n % x) wr) from by
        rw [HLL.out, hq]
        exact iDividedBy a b n x c1 d wr _ _ (Nat.le_refl _) (Nat.le_refl _) (HX.out _ hb.out) hown'.ints (by omega) (by omega) hx0)
      have HPL := Lib.hid (show ∀ w2 a1 e1, Below wr.heap.size wr w2 → Own w2 wr.heap.size a1 (lim q) → Calls Tryz.prog 118 #[.slice b (lim x).length d, .slice a1 (lim q).length e1] w2 fun e w' => ∃ a c, e = .returned (.slice a (lim (x + q)).length c) ∧ Own w' wr.heap.size a (lim (x + q)) ∧ Below wr.heap.size wr w' from
        fun w2 a1 e1 hW ho => (iMagPlus b a1 x q d e1 w2 _ _ (Nat.le_refl _) (Nat.le_refl _) (hown'.below hW).ints ho.ints (by omega) (by omega)).mono fun e w' ⟨a, c, he, hc, ho, hb⟩ => ⟨a, c, he, ho.mono hW.size, hW.trans (hb.mono hW.size)⟩)
      have HSD := Lib.hid (show ∀ w2 a1 e1, Below wr.heap.size wr w2 → Own w2 wr.heap.size a1 (lim (x + q)) → Calls Tryz.prog 117 #[.slice a1 (lim (x + q)).length e1, .int .i64 1] w2 fun e w' => ∃ a c, e = .returned (.slice a (lim y).length c) ∧ (lim y).length ≤ c ∧ Own w' wr.heap.size a (lim y) ∧ Below wr.heap.size wr w' from
        fun w2 a1 e1 hW ho => by
          have := iShiftedDown a1 (x + q) e1 1 w2 _ (Nat.le_refl _) ho.ints (by omega) (by omega)
          rw [Nat.pow_one, ← hy] at this
          exact this.mono fun e w' ⟨a, c, he, hc, ho, hb⟩ => ⟨a, c, he, hc, ho.mono hW.size, hW.trans (hb.mono hW.size)⟩)
      have hly : (lim y).length ≤ 401 := by rw [hy]; exact Nat.le_trans (lim_le_of_le (Nat.div_le_self _ _)) hls
      have HCM := Lib.hid (show ∀ w2 a1 e1, Below wr.heap.size wr w2 → Own w2 wr.heap.size a1 (lim y) → Calls Tryz.prog 120 #[.slice a1 (lim y).length e1, .slice b (lim x).length d] w2 (RetQ (.int .i64 (cmpZ (y : Int) (x : Int))) w2) from
        fun w2 a1 e1 hW ho => iMagCompare a1 b y x e1 d w2 _ _ ho.ints (hown'.below hW).ints (by omega) (by omega))
      have HM := Lib.hid (show magAt (.slice b (lim x).length d) wr = x from magAt_eq hown'.ints)
      have HAB := Lib.hid (show n < (y + 1) * (y + 1) by rw [hy, hq]; exact newton_above (by omega))
      have HDN := Lib.hid (show x ≤ y → x = r from fun h => root_unique (newton_done (by omega) (by rw [← hq, ← hy]; exact h)) hh.out.2.2 HR.out.1 HR.out.2.1)
      have HLT := Lib.hid (show y < x → (lim y).length ≤ 400 from fun h => Nat.le_trans (lim_le_of_le (Nat.le_of_lt h)) hlx)
      have HKEEP := Lib.hid (show ∀ w2, Below wr.heap.size wr w2 → Own w2 w.heap.size b (lim x) from fun w2 hW => hown'.below hW)
      have HD := Lib.hid hh.out.1
      have HSZ := Lib.hid hsz
      clear hown hown' hh hx0 hq hy hln hlx hlq hls hly hsz
      rcases Nat.lt_or_ge y x with hlt | hge
      · rw [cmpZ_lt (show (y : Int) < (x : Int) by omega)] at HCM
        have HY := Lib.hid hlt
        clear hlt HDN
        go_wp2_with fail
        refine HDIV.out.mono ?_
        rintro e w3 ⟨a1, e1, a2, e2, rfl, k1, k2, o1, o2, hap, hb2⟩
        clear k1 k2 o2 hap
        go_wp2_with fail
        refine (HPL.out _ _ _ hb2 o1).mono ?_
        rintro e w4 ⟨a3, c3, rfl, o3, hb3⟩
        go_wp2_with fail
        refine (HSD.out _ _ _ hb3 o3).mono ?_
        rintro e w5 ⟨a4, c4, rfl, k4, o4, hb4⟩
        have HO := Lib.hid o4
        have HC4 := Lib.hid k4
        clear hb2 o1 o3 hb3 o4 k4
        go_wp2_with fail
        refine (HCM.out _ _ _ hb4 HO.out).mono ?_
        rintro e w6 ⟨k, rfl, rfl⟩
        go_wp2_with fail
        go_roundw
        case rel => exact ⟨y, a4, c4, rfl, Lib.hid ((HO.out.mono HSZ.out).drewN _), Lib.hid ⟨HC4.out, HLT.out HY.out, HAB.out⟩, Lib.hid (below_drewN (hb.out.trans (hb4.mono HSZ.out)) _)⟩
        case measure =>
          rw [HM.out, magAt_eq (HO.out.drewN _).ints]
          exact HY.out
      · have hxr := HDN.out hge
        have hcm : cmpZ (y : Int) (x : Int) = 0 ∨ cmpZ (y : Int) (x : Int) = 1 := by
          rcases Nat.lt_or_ge x y with h | h
          · right; exact cmpZ_gt (by omega)
          · left; exact cmpZ_eq (by omega)
        obtain ⟨z, hz⟩ : ∃ z, z = cmpZ (y : Int) (x : Int) := ⟨_, rfl⟩
        rw [← hz] at HCM hcm
        have hz0 : decide (z ≥ 0) = true := decide_eq_true (by omega)
        have hz1 : decide (0 ≤ z) = true := decide_eq_true (by omega)
        have HXR := Lib.hid hxr
        clear hz hcm hge hxr
        go_wp2_with fail
        refine HDIV.out.mono ?_
        rintro e w3 ⟨a1, e1, a2, e2, rfl, k1, k2, o1, o2, hap, hb2⟩
        clear k1 k2 o2 hap
        go_wp2_with fail
        refine (HPL.out _ _ _ hb2 o1).mono ?_
        rintro e w4 ⟨a3, c3, rfl, o3, hb3⟩
        go_wp2_with fail
        refine (HSD.out _ _ _ hb3 o3).mono ?_
        rintro e w5 ⟨a4, c4, rfl, k4, o4, hb4⟩
        have HO := Lib.hid o4
        clear hb2 o1 o3 hb3 o4 k4
        go_wp2_with fail
        refine (HCM.out _ _ _ hb4 HO.out).mono ?_
        rintro e w6 ⟨k, rfl, rfl⟩
        have HEND := Lib.hid (show RetL (lim r) w (.returned (.slice b (lim x).length d)) (w5.drewN k) from ⟨b, d, by rw [HXR.out], by rw [← HXR.out]; exact HD.out, by rw [← HXR.out]; exact (HKEEP.out _ hb4).drewN _, below_drewN (hb.out.trans (hb4.mono HSZ.out)) _⟩)
        go_wp2_with fail
        go_ret
        exact HEND.out

/-- The root of a number, rounded down. -/
def rootN : Nat → Nat
  | 0 => 0
  | n + 1 => if (rootN n + 1) * (rootN n + 1) ≤ n + 1 then rootN n + 1 else rootN n
theorem rootN_spec (n : Nat) : rootN n * rootN n ≤ n ∧ n < (rootN n + 1) * (rootN n + 1) := by
  induction n with
  | zero => exact ⟨Nat.le_refl _, by decide⟩
  | succ n ih =>
    obtain ⟨h1, h2⟩ := ih
    unfold rootN
    generalize rootN n = r at *
    split
    · rename_i h
      have e : (r + 1 + 1) * (r + 1 + 1) = (r + 1) * (r + 1) + (r + 1) + (r + 1) + 1 := by grind
      exact ⟨h, by omega⟩
    · exact ⟨by omega, by omega⟩
theorem rootN_le (n : Nat) : rootN n ≤ n := by
  have h := (rootN_spec n).1
  rcases Nat.eq_zero_or_pos (rootN n) with h0 | h0
  · omega
  · exact Nat.le_trans (Nat.le_mul_of_pos_right _ h0) h
/-- What RootOfWhole answers. -/
noncomputable def rootR (s : Int) (xs : List Int) : Int × List Int × Int := @ite _ (IsWh s xs) (Classical.propDecidable _) (if s < 0 then (0, [], 5) else (sgnOf 1 (rootN (val (xs.map Int.toNat))), lim (rootN (val (xs.map Int.toNat))), 0)) (0, [], 1)
theorem rootR_yes {s : Int} {xs : List Int} (h : IsWh s xs) (h1 : ¬ s < 0) : rootR s xs = (sgnOf 1 (rootN (val (xs.map Int.toNat))), lim (rootN (val (xs.map Int.toNat))), 0) := by unfold rootR; rw [if_pos h, if_neg h1]
theorem rootR_neg {s : Int} {xs : List Int} (h : IsWh s xs) (h1 : s < 0) : rootR s xs = (0, [], 5) := by unfold rootR; rw [if_pos h, if_pos h1]
theorem rootR_no {s : Int} {xs : List Int} (h : ¬ IsWh s xs) : rootR s xs = (0, [], 1) := by unfold rootR; rw [if_neg h]
theorem rootR_len (s : Int) (xs : List Int) : (rootR s xs).2.1.length ≤ 200 := by
  by_cases h : IsWh s xs
  · by_cases h1 : s < 0
    · rw [rootR_neg h h1]; simp
    · rw [rootR_yes h h1]
      obtain ⟨m, rfl, hm, sm⟩ := isWh_of h
      rw [val_lim]
      exact Nat.le_trans (lim_le_of_le (rootN_le m)) hm
  · rw [rootR_no h]; simp
theorem retWC_zeroC {w W0 W : World} (code : Int) (P3 : Below w.heap.size w W0) (P4 : W0.heap.size = w.heap.size + 2) (hb : Below W0.heap.size W0 W) (u v : Value) :
    RetWC (0, [], code) w.heap.size w (.returned (.tuple #[.agg #[.int .i64 0, .slice none 0 0], .int .i64 code])) ((W.setCell ⟨w.heap.size + 1, 0, none⟩ u).setCell ⟨w.heap.size + 1, 1, none⟩ v) :=
  ⟨none, 0, rfl, Nat.le_refl _, Own.nil, ((P3.trans (hb.mono (by omega))).setCell (by simp <;> omega) _).setCell (by simp <;> omega) _⟩
theorem retWC_endC {w W0 W : World} {r : Int × List Int × Int} {a : Option Addr} {c : Nat} (P3 : Below w.heap.size w W0) (P4 : W0.heap.size = w.heap.size + 2) (hb : Below W0.heap.size W0 W) (u v : Value) (ho : Own W W0.heap.size a r.2.1) (hc : r.2.1.length ≤ c) :
    RetWC r w.heap.size w (.returned (.tuple #[.agg #[.int .i64 r.1, .slice a r.2.1.length c], .int .i64 r.2.2])) ((W.setCell ⟨w.heap.size + 1, 0, none⟩ u).setCell ⟨w.heap.size + 1, 1, none⟩ v) :=
  ⟨a, c, rfl, hc, ((ho.setFar (by simp; omega) _).setFar (by simp; omega) _).mono (by omega), ((P3.trans (hb.mono (by omega))).setCell (by simp <;> omega) _).setCell (by simp <;> omega) _⟩

theorem bal {w W : World} {o : Obj} (h : Below w.heap.size w W) : Below w.heap.size w (W.alloc o) := h.alloc h.size o
theorem sgn_mul {x y : Nat} (hy : y ≠ 0) : sgnOf (sgnOf 1 x) (x * y) = sgnOf 1 (x * y) := by
  by_cases h : x = 0
  · subst h; simp [sgnOf]
  · rw [sgnOf_pos h]
theorem sLeftN (n : Nat) (a : Option Addr) (c1 K0 : Nat) (w : World) (hx : Ints w w.heap.size a (lim n)) (hl : (lim n).length ≤ 1048576) (hk : K0 ≤ 100000000) :
    Calls Tryz.prog 79 #[.agg #[.int .i64 (sgnOf 1 n), .slice a (lim n).length c1], .int .i64 (K0 : Int)] w (RetN (sgnOf 1 (n * 2 ^ K0)) (n * 2 ^ K0) w) := by
  have h := sLeft (sgnOf 1 n) a n c1 K0 w _ (Nat.le_refl _) hx hl hk
  rwa [sgn_mul (by have := Nat.pow_pos (n := K0) (show 0 < 2 by omega); omega)] at h
theorem sgn_self (m : Nat) : Sg (sgnOf 1 m) m ∧ sgnOf 1 m * (m : Int) = (m : Int) := by
  by_cases h : m = 0
  · subst h; exact ⟨.inl ⟨rfl, sgnOf_zero _⟩, by simp⟩
  · rw [sgnOf_pos h]; exact ⟨.inr ⟨h, .inl rfl⟩, by simp⟩

theorem blen_nat' {n : Nat} (hl : (lim n).length ≤ 200) : ∃ b : Nat, blen n = (b : Int) ∧ b ≤ 4800 ∧ n < 2 ^ b := by
  by_cases h : n = 0
  · subst h; exact ⟨0, by simp [blen], by omega, by simp⟩
  · exact blen_nat h hl
/-- A variable of the root's loop: the number it holds, whose limbs lie from block lo on. -/
structure VarAt (w : World) (lo g n : Nat) (a : Option Addr) (c : Nat) : Prop where
  fit : (lim n).length ≤ c
  own : Own w lo a (lim n)
  box : BoxAt w g 60 #[.int .i64 (sgnOf 1 n), .slice a (lim n).length c]
theorem VarAt.zero {w : World} {lo g : Nat} (h : BoxAt w g 60 #[.int .i64 0, .slice none 0 0]) : VarAt w lo g 0 none 0 := by
  have e : (lim 0).length = 0 := by rw [lim_zero]; rfl
  refine ⟨by rw [e]; exact Nat.le_refl _, by rw [lim_zero]; exact Own.nil, ?_⟩
  rw [e, sgnOf_zero]
  exact h
/-- The root's loop in memory. -/
structure RootSt (w2 wr : World) (g out : Nat) (b : Option Addr) (d : Nat) : Prop where
  bel : Below g w2 wr
  size : g + 3 ≤ wr.heap.size
  outV : ∃ a c, VarAt wr (g + 3) g out a c
  sqV : ∃ a c, VarAt wr (g + 3) (g + 1) (out * out) a c
  one : BoxAt wr (g + 2) 60 #[.int .i64 1, .slice b 1 d]

theorem VarAt.below {w w' : World} {lo g n : Nat} {a : Option Addr} {c : Nat} (h : VarAt w lo g n a c) (hb : Below w.heap.size w w') : VarAt w' lo g n a c := ⟨h.fit, h.own.below hb, h.box.below hb⟩
theorem RootSt.keep {w2 wr W : World} {out : Nat} {b : Option Addr} {d : Nat} (h : RootSt w2 wr w2.heap.size out b d) (hb : Below wr.heap.size wr W) : RootSt w2 W w2.heap.size out b d := by
  obtain ⟨a3, c3, h3⟩ := h.outV
  obtain ⟨a4, c4, h4⟩ := h.sqV
  have hs := h.size
  exact ⟨h.bel.trans (hb.mono (by omega)), by have := hb.size; omega, ⟨a3, c3, h3.below hb⟩, ⟨a4, c4, h4.below hb⟩, h.one.below hb⟩
theorem RootSt.next {w2 wr W : World} {out out' N : Nat} {b x y : Option Addr} {d c e : Nat} (h : RootSt w2 wr w2.heap.size out b d) (hb : Below wr.heap.size wr W) (hx : (lim out').length ≤ c) (ox : Own W wr.heap.size x (lim out')) (hy : (lim N).length ≤ e) (oy : Own W wr.heap.size y (lim N)) (hN : N = out' * out') :
    RootSt w2 ((((W.setCell ⟨w2.heap.size, 0, none⟩ (.int .i64 (sgnOf 1 out'))).setCell ⟨w2.heap.size, 1, none⟩ (.slice x (lim out').length c)).setCell ⟨w2.heap.size + 1, 0, none⟩ (.int .i64 (sgnOf 1 N))).setCell ⟨w2.heap.size + 1, 1, none⟩ (.slice y (lim N).length e)) w2.heap.size out' b d := by
  obtain ⟨a3, c3, h3⟩ := h.outV
  obtain ⟨a4, c4, h4⟩ := h.sqV
  have hs := h.size
  have hsW := hb.size
  have hB := h.bel.trans (hb.mono (show w2.heap.size ≤ wr.heap.size by omega))
  refine ⟨(((hB.setCell (by simp <;> omega) _).setCell (by simp <;> omega) _).setCell (by simp <;> omega) _).setCell (by simp <;> omega) _, by simp [World.setCell]; omega, ⟨x, c, hx, ?_, ?_⟩, ⟨y, e, by rw [← hN]; exact hy, ?_, ?_⟩, ?_⟩
  · exact ((((ox.setFar (by simp; omega) _).setFar (by simp; omega) _).setFar (by simp; omega) _).setFar (by simp; omega) _).mono (by omega)
  · have := (((h3.box.below hb).set_ 0 (.int .i64 (sgnOf 1 out'))).set_ 1 (.slice x (lim out').length c)).far (p := ⟨w2.heap.size + 1, 0, none⟩) (by simp <;> omega) (.int .i64 (sgnOf 1 N)) |>.far (p := ⟨w2.heap.size + 1, 1, none⟩) (by simp <;> omega) (.slice y (lim N).length e)
    simpa using this
  · rw [← hN]
    exact ((((oy.setFar (by simp; omega) _).setFar (by simp; omega) _).setFar (by simp; omega) _).setFar (by simp; omega) _).mono (by omega)
  · rw [← hN]
    have := ((((h4.box.below hb).far (p := ⟨w2.heap.size, 0, none⟩) (by simp <;> omega) (.int .i64 (sgnOf 1 out'))).far (p := ⟨w2.heap.size, 1, none⟩) (by simp <;> omega) (.slice x (lim out').length c)).set_ 0 (.int .i64 (sgnOf 1 N))).set_ 1 (.slice y (lim N).length e)
    simpa using this
  · exact ((((h.one.below hb).far (by simp <;> omega) _).far (by simp <;> omega) _).far (by simp <;> omega) _).far (by simp <;> omega) _
theorem RootSt.start {w2 w4 : World} {b : Option Addr} {d : Nat}
    (hb : Below (((w2.alloc (.cells #[.int .i64 0, .slice none 0 0] 60)).alloc (.cells #[.int .i64 0, .slice none 0 0] 60)).alloc (.cells #[.int .i64 1, .slice b 1 d] 60)).heap.size (((w2.alloc (.cells #[.int .i64 0, .slice none 0 0] 60)).alloc (.cells #[.int .i64 0, .slice none 0 0] 60)).alloc (.cells #[.int .i64 1, .slice b 1 d] 60)) w4) :
    RootSt w2 w4 w2.heap.size 0 b d := by
  have hsz := hb.size
  simp at hsz
  refine ⟨(((Below.refl _ _).alloc (Nat.le_refl _) _).alloc (by simp) _ |>.alloc (by simp; omega) _).trans (hb.mono (by simp; omega)), by omega, ⟨none, 0, VarAt.zero ?_⟩, ⟨none, 0, VarAt.zero ?_⟩, ?_⟩
  · exact (((BoxAt.new w2 _ _).alloc _).alloc _).below hb
  · have := ((BoxAt.new (w2.alloc (.cells #[.int .i64 0, .slice none 0 0] 60)) 60 #[.int .i64 0, .slice none 0 0]).alloc (.cells #[.int .i64 1, .slice b 1 d] 60)).below hb
    simpa using this
  · have := (BoxAt.new ((w2.alloc (.cells #[.int .i64 0, .slice none 0 0] 60)).alloc (.cells #[.int .i64 0, .slice none 0 0] 60)) 60 #[.int .i64 1, .slice b 1 d]).below hb
    simpa using this
/-- The next square in its variable. -/
def NextAt (wr W : World) (p : Value) (N : Nat) : Prop := ∃ h x c, p = .pointer (some ⟨h, 0, none⟩) ∧ wr.heap.size ≤ h ∧ (lim N).length ≤ c ∧ Own W wr.heap.size x (lim N) ∧ BoxAt W h 60 #[.int .i64 (sgnOf 1 N), .slice x (lim N).length c] ∧ Below wr.heap.size wr W
theorem NextAt.mk1 {wr W : World} {N lo c : Nat} {x : Option Addr} (hc : (lim N).length ≤ c) (ho : Own W lo x (lim N)) (hlo : wr.heap.size ≤ lo) (hb : Below wr.heap.size wr W) :
    NextAt wr (W.alloc (.cells #[.int .i64 (sgnOf 1 N), .slice x (lim N).length c] 60)) (.pointer (some ⟨W.heap.size, 0, none⟩)) N :=
  ⟨_, x, c, rfl, hb.size, hc, (ho.alloc _).mono hlo, BoxAt.new W 60 #[.int .i64 (sgnOf 1 N), .slice x (lim N).length c], hb.alloc hb.size _⟩
theorem NextAt.mk2 {wr W : World} {N lo c h : Nat} {x : Option Addr} {v0 v1 : Value} (hq : BoxAt W h 60 #[v0, v1]) (hh : wr.heap.size ≤ h) (hl : h < lo) (hc : (lim N).length ≤ c) (ho : Own W lo x (lim N)) (hb : Below wr.heap.size wr W) :
    NextAt wr ((W.setCell ⟨h, 0, none⟩ (.int .i64 (sgnOf 1 N))).setCell ⟨h, 1, none⟩ (.slice x (lim N).length c)) (.pointer (some ⟨h, 0, none⟩)) N := by
  refine ⟨_, x, c, rfl, hh, hc, ((ho.setFar (by simpa using hl) _).setFar (by simpa using hl) _).mono (by omega), ?_, (hb.setCell (by simp <;> omega) _).setCell (by simp <;> omega) _⟩
  have := (hq.set_ 0 (.int .i64 (sgnOf 1 N))).set_ 1 (.slice x (lim N).length c)
  simpa using this
theorem sAddN (m n : Nat) (a b : Option Addr) (c1 c2 : Nat) (w : World) (hx : Ints w w.heap.size a (lim m)) (hy : Ints w w.heap.size b (lim n)) (hl : (lim m).length ≤ 1048576) (hl' : (lim n).length ≤ 1048576) (hc1 : (lim m).length ≤ c1) (hc2 : (lim n).length ≤ c2) :
    Calls Tryz.prog 83 #[.agg #[.int .i64 (sgnOf 1 m), .slice a (lim m).length c1], .agg #[.int .i64 (sgnOf 1 n), .slice b (lim n).length c2]] w (RetN (sgnOf 1 (m + n)) (m + n) w) := by
  have h := sAdd (sgnOf 1 m) (sgnOf 1 n) a b m n c1 c2 w _ _ (Nat.le_refl _) (Nat.le_refl _) hx hy (sgn_self m).1 (sgn_self n).1 hl hl' hc1 hc2
  rw [(sgn_self m).2, (sgn_self n).2] at h
  have e1 : ((m : Int) + (n : Int)).natAbs = m + n := by omega
  have e2 : ((m : Int) + (n : Int)).sign = sgnOf 1 (m + n) := by
    by_cases h0 : m + n = 0
    · rw [h0, sgnOf_zero, show (m : Int) + (n : Int) = 0 by omega]; rfl
    · rw [sgnOf_pos h0]; exact Int.sign_eq_one_of_pos (by omega)
  unfold RetZ at h
  rw [e1, e2] at h
  exact h

set_option maxRecDepth 100000 in
set_option maxHeartbeats 4000000 in
theorem sRoot (s : Int) (a : Option Addr) (m c1 r : Nat) (w : World) (B : Nat) (hB : B ≤ w.heap.size) (hx : Ints w B a (lim m)) (hs : Sg s m) (hs0 : 0 ≤ s) (hl : (lim m).length ≤ 200) (h1 : r * r ≤ m) (h2 : m < (r + 1) * (r + 1)) :
    Calls Tryz.prog 80 #[.agg #[.int .i64 s, .slice a (lim m).length c1]] w (RetN (sgnOf 1 r) r w) := by
  obtain ⟨W0, hW0⟩ : ∃ W0 : World, (w.alloc (.cells #[.int .i64 s, .slice a (lim m).length c1] 60)).alloc (.cells #[.int .i64 0, .slice none 0 0] 60) = W0 := ⟨_, rfl⟩
  obtain ⟨p1, p5, p3, p4⟩ := two_box w 60 #[.int .i64 s, .slice a (lim m).length c1] #[.int .i64 0, .slice none 0 0]
  rw [hW0] at p1 p3 p4 p5
  have HW0 := Lib.hid hW0
  have P3 := Lib.hid p3
  have P4 := Lib.hid p4
  have SS := Lib.hid (show ∀ W, Below W0.heap.size W0 W → (W.cell? ⟨w.heap.size, 0, none⟩ = some (.int .i64 s) ∧ W.cell? ⟨w.heap.size, 1, none⟩ = some (.slice a (lim m).length c1)) from
    fun W hW => ⟨(p1.below hW).cell 0, (p1.below hW).cell 1⟩)
  have SR := Lib.hid (show ∀ W, Below W0.heap.size W0 W → (W.cell? ⟨w.heap.size + 1, 0, none⟩ = some (.int .i64 0) ∧ W.cell? ⟨w.heap.size + 1, 1, none⟩ = some (.slice none 0 0) ∧ W.frozen? ⟨w.heap.size + 1, 0, none⟩ = false ∧ W.frozen? ⟨w.heap.size + 1, 1, none⟩ = false) from
    fun W hW => (p5.below hW).two)
  have hT : Below W0.heap.size W0 W0 := Below.refl _ _
  have IX := Lib.hid (show ∀ W, Below W0.heap.size W0 W → Ints W B a (lim m) ∧ B ≤ W.heap.size from fun W hW => ⟨hx.below ((p3.mono hB).trans (hW.mono (by omega))), by have := hW.size; omega⟩)
  obtain ⟨bl, hb, hb2, hb3⟩ := blen_nat' hl
  obtain ⟨K, hK⟩ : ∃ K, K = (bl + 1) / 2 := ⟨_, rfl⟩
  have hqK : Int.tdiv ((bl : Int) + 1) 2 = (K : Int) := by rw [Int.tdiv_eq_ediv_of_nonneg (by omega)]; omega
  have HLEN := Lib.hid (show ∀ W, Below W0.heap.size W0 W → Calls Tryz.prog 78 #[.agg #[.int .i64 s, .slice a (lim m).length c1]] W (RetB (.int .i64 (bl : Int)) W) from
    fun W hW => by rw [← hb]; exact sLength s a m c1 W B (IX.out W hW).2 (IX.out W hW).1 (by omega))
  have HOF := Lib.hid (show Calls Tryz.prog 84 #[.int .i64 1] W0 fun e w' => ∃ b d, e = .returned (.agg #[.int .i64 1, .slice b 1 d]) ∧ 1 ≤ d ∧ Own w' W0.heap.size b [1] ∧ Below W0.heap.size W0 w' from by
    have h := sOfP 1 (by omega) W0
    have e1 : sgnOf 1 1 = 1 := sgnOf_pos (by decide)
    exact h.mono fun e w' ⟨b, d, he, hd, ho, hb⟩ => by
      rw [e1, lim1] at he
      rw [lim1] at hd ho
      exact ⟨b, d, he, hd, ho, hb⟩)
  have HST := Lib.hid (show RootInv m 0 (K + 1) from ⟨by omega, by
    have h : 2 ^ bl ≤ 2 ^ ((K + 1) + (K + 1)) := Nat.pow_le_pow_right (by omega) (by omega)
    rw [Nat.pow_add] at h
    simpa using Nat.lt_of_lt_of_le hb3 h⟩)
  have HR := Lib.hid (show r * r ≤ m ∧ m < (r + 1) * (r + 1) ∧ (lim m).length ≤ 200 from ⟨h1, h2, hl⟩)
  have HSG := Lib.hid (show Sg s m ∧ s * (m : Int) = (m : Int) from ⟨hs, by unfold Sg at hs; rcases hs with ⟨rfl, rfl⟩ | ⟨_, rfl | rfl⟩ <;> simp at hs0 ⊢⟩)
  have hbI : (bl : Int) ≤ 4800 := by omega
  have hbI0 : (0 : Int) ≤ (bl : Int) := by omega
  have hKI : (K : Int) ≤ 4800 := by omega
  have hKI0 : (0 : Int) ≤ (K : Int) := by omega
  have HKK := Lib.hid (show K ≤ 2400 by omega)
  clear p1 p3 p4 p5 hx hl hW0 hB hs hs0 h1 h2 hb hb2 hb3 hK
  go_enter Tryz.func80, Tryz.ntmps80
  go_wp2_with fail
  rw [HW0.out]
  refine HOF.out.mono ?_
  rintro e w2 ⟨b, d, rfl, hd, ho, hb⟩
  have HD := Lib.hid hd
  have HO := Lib.hid ho
  have HB := Lib.hid hb
  have P4' := P4.out
  have hs2 := hb.size
  obtain ⟨k1, k2⟩ := SS.out _ hb
  have hlt : w.heap.size < w2.heap.size := by omega
  have hlt2 : w.heap.size + 1 < w2.heap.size := by omega
  have HB3 := Lib.hid (show Below W0.heap.size W0 (((w2.alloc (.cells #[.int .i64 0, .slice none 0 0] 60)).alloc (.cells #[.int .i64 0, .slice none 0 0] 60)).alloc (.cells #[.int .i64 1, .slice b 1 d] 60)) from ((hb.alloc hs2 _).alloc (by simp; omega) _).alloc (by simp; omega) _)
  clear hd ho hb k1 k2
  obtain ⟨k1, k2⟩ := SS.out _ HB3.out
  go_wp2_with fail
  refine (HLEN.out _ HB3.out).mono ?_
  rintro e w4 ⟨rfl, hb4⟩
  have HS4 := Lib.hid (RootSt.start hb4)
  clear hb4
  go_wp2_with fail
  go_loopw [6] (fun q wr => ∃ (k out : Nat), q = .int .i64 ((k : Int) - 1) ∧ k ≤ 2401 ∧ Hid (RootInv m out k) ∧ Hid (RootSt w2 wr w2.heap.size out b d)) (fun q _ => (intOf q + 1).toNat)
  case atStart => exact ⟨K + 1, 0, by congr 1; omega, by have := HKK.out; omega, HST, HS4⟩
  case round =>
    obtain ⟨k, out, rfl, hk, hinv, hst⟩ := hrel
    have HBW := Lib.hid (show Below W0.heap.size W0 wr from HB.out.trans (hst.out.bel.mono hs2))
    obtain ⟨a3, c3, hv3⟩ := hst.out.outV
    obtain ⟨a4, c4, hv4⟩ := hst.out.sqV
    have HV3 := Lib.hid hv3
    have HV4 := Lib.hid hv4
    have hsz := hst.out.size
    by_cases hk0 : k = 0
    · subst hk0
      have hor : out = r := by
        have h2 := hinv.out.lt
        rw [Nat.pow_zero] at h2
        exact root_unique hinv.out.le h2 HR.out.1 HR.out.2.1
      obtain ⟨y1, y2, y3, y4⟩ := hv3.box.two
      obtain ⟨q1, q2, q3, q4⟩ := SR.out _ HBW.out
      have HEND := Lib.hid (show ∀ u v, RetN (sgnOf 1 r) r w (.returned (.agg #[.int .i64 (sgnOf 1 out), .slice a3 (lim out).length c3])) ((wr.setCell ⟨w.heap.size + 1, 0, none⟩ u).setCell ⟨w.heap.size + 1, 1, none⟩ v) from fun u v =>
        ⟨a3, c3, by rw [hor], by rw [← hor]; exact hv3.fit, by rw [← hor]; exact ((hv3.own.setFar (by simp; omega) _).setFar (by simp; omega) _).mono (by omega), ((P3.out.trans (HBW.out.mono (by omega))).setCell (by simp <;> omega) _).setCell (by simp <;> omega) _⟩)
      clear hv3 hv4 hst hinv hor
      go_wp2_with fail
      refine bodyPost_ret (v := .agg #[.int .i64 (sgnOf 1 out), .slice a3 (lim out).length c3]) (by simp [results, Tryz.results80, go_sem, *]) rfl ?_
      exact HEND.out _ _
    · obtain ⟨j, rfl⟩ : ∃ j, k = j + 1 := ⟨k - 1, by omega⟩
      have ej : (((j + 1 : Nat)) : Int) - 1 = (j : Int) := by omega
      rw [ej]
      have hjI : (j : Int) ≤ 4800 := by omega
      have hjI0 : (0 : Int) ≤ (j : Int) := by omega
      have hw1 : IntKind.i64.wrap ((j : Int) + 1) = ((j + 1 : Nat) : Int) := by rw [IntKind.wrap_i64]; omega
      have hw2 : IntKind.i64.wrap (2 * (j : Int)) = ((2 * j : Nat) : Int) := by rw [IntKind.wrap_i64]; omega
      have hom : out ≤ m := by
        have := hinv.out.le
        rcases Nat.eq_zero_or_pos out with h | h
        · omega
        · exact Nat.le_trans (Nat.le_mul_of_pos_right _ h) this
      have hlo : (lim out).length ≤ 200 := Nat.le_trans (lim_le_of_le hom) HR.out.2.2
      have hls : (lim (out * out)).length ≤ 200 := Nat.le_trans (lim_le_of_le hinv.out.le) HR.out.2.2
      have hp1 := pow_len (K := j + 1) (L := 401) (by omega)
      have hp2 := pow_len (K := 2 * j) (L := 401) (by omega)
      have hp3 := pow_len (K := j) (L := 401) (by omega)
      obtain ⟨o1, ho1⟩ : ∃ o, o = out * 2 ^ (j + 1) := ⟨_, rfl⟩
      obtain ⟨o2, ho2⟩ : ∃ o, o = 1 * 2 ^ (2 * j) := ⟨_, rfl⟩
      obtain ⟨o3, ho3⟩ : ∃ o, o = 1 * 2 ^ j := ⟨_, rfl⟩
      have hl1 : (lim o1).length ≤ 601 := by rw [ho1]; have := lim_mul_len out (2 ^ (j + 1)); omega
      have hl2 : (lim o2).length ≤ 401 := by rw [ho2, Nat.one_mul]; exact hp2
      have hl3 : (lim o3).length ≤ 401 := by rw [ho3, Nat.one_mul]; exact hp3
      have hNe : out * out + o1 + o2 = (out + o3) * (out + o3) := by rw [ho1, ho2, ho3, show 1 * 2 ^ j = 2 ^ j from Nat.one_mul _]; exact root_next out j
      have hl4 : (lim (out * out + o1)).length ≤ 602 := by have := lim_add_len (out * out) o1; omega
      have hl5 : (lim (out * out + o1 + o2)).length ≤ 603 := by have := lim_add_len (out * out + o1) o2; omega
      have e11 : sgnOf 1 1 = 1 := sgnOf_pos (by decide)
      have hIone : ∀ W, Below wr.heap.size wr W → Ints W W.heap.size b (lim 1) := fun W hW => by
        rw [lim1]
        exact ((HO.out.below hst.out.bel).below hW).ints
      have HL1 := Lib.hid (show ∀ W, Below wr.heap.size wr W → Calls Tryz.prog 79 #[.agg #[.int .i64 (sgnOf 1 out), .slice a3 (lim out).length c3], .int .i64 (IntKind.i64.wrap ((j : Int) + 1))] W fun e w' => ∃ x c, e = .returned (.agg #[.int .i64 (sgnOf 1 o1), .slice x (lim o1).length c]) ∧ (lim o1).length ≤ c ∧ Own w' wr.heap.size x (lim o1) ∧ Below wr.heap.size wr w' ∧ Below W.heap.size W w' from
        fun W hW => by
          rw [hw1, ho1]
          exact (sLeftN out a3 c3 (j + 1) W (hv3.own.below hW).ints (by omega) (by omega)).mono fun e w' ⟨x, c, he, hc, ho, hb⟩ => ⟨x, c, he, hc, ho.mono hW.size, hW.trans (hb.mono hW.size), hb⟩)
      have HL2 := Lib.hid (show ∀ W, Below wr.heap.size wr W → Calls Tryz.prog 79 #[.agg #[.int .i64 1, .slice b 1 d], .int .i64 (IntKind.i64.wrap (2 * (j : Int)))] W fun e w' => ∃ x c, e = .returned (.agg #[.int .i64 (sgnOf 1 o2), .slice x (lim o2).length c]) ∧ (lim o2).length ≤ c ∧ Own w' wr.heap.size x (lim o2) ∧ Below wr.heap.size wr w' ∧ Below W.heap.size W w' from
        fun W hW => by
          rw [hw2, ho2]
          have h := sLeftN 1 b d (2 * j) W (hIone W hW) (by rw [lim1]; simp) (by omega)
          rw [e11, lim1] at h
          exact h.mono fun e w' ⟨x, c, he, hc, ho, hb⟩ => ⟨x, c, he, hc, ho.mono hW.size, hW.trans (hb.mono hW.size), hb⟩)
      have HL3 := Lib.hid (show ∀ W, Below wr.heap.size wr W → Calls Tryz.prog 79 #[.agg #[.int .i64 1, .slice b 1 d], .int .i64 (j : Int)] W fun e w' => ∃ x c, e = .returned (.agg #[.int .i64 (sgnOf 1 o3), .slice x (lim o3).length c]) ∧ (lim o3).length ≤ c ∧ Own w' wr.heap.size x (lim o3) ∧ Below wr.heap.size wr w' ∧ Below W.heap.size W w' from
        fun W hW => by
          rw [ho3]
          have h := sLeftN 1 b d j W (hIone W hW) (by rw [lim1]; simp) (by omega)
          rw [e11, lim1] at h
          exact h.mono fun e w' ⟨x, c, he, hc, ho, hb⟩ => ⟨x, c, he, hc, ho.mono hW.size, hW.trans (hb.mono hW.size), hb⟩)
      have HA1 := Lib.hid (show ∀ x c W, (lim o1).length ≤ c → Own W wr.heap.size x (lim o1) → Below wr.heap.size wr W → Calls Tryz.prog 83 #[.agg #[.int .i64 (sgnOf 1 (out * out)), .slice a4 (lim (out * out)).length c4], .agg #[.int .i64 (sgnOf 1 o1), .slice x (lim o1).length c]] W fun e w' => ∃ x c, e = .returned (.agg #[.int .i64 (sgnOf 1 (out * out + o1)), .slice x (lim (out * out + o1)).length c]) ∧ (lim (out * out + o1)).length ≤ c ∧ Own w' wr.heap.size x (lim (out * out + o1)) ∧ Below wr.heap.size wr w' ∧ Below W.heap.size W w' from
        fun x c W hc ho hW => (sAddN (out * out) o1 a4 x c4 c W (hv4.own.below hW).ints ho.ints (by omega) (by omega) hv4.fit hc).mono fun e w' ⟨x, c, he, hc, ho, hb⟩ => ⟨x, c, he, hc, ho.mono hW.size, hW.trans (hb.mono hW.size), hb⟩)
      have HA2 := Lib.hid (show ∀ x c x' c' W, (lim (out * out + o1)).length ≤ c → Own W wr.heap.size x (lim (out * out + o1)) → (lim o2).length ≤ c' → Own W wr.heap.size x' (lim o2) → Below wr.heap.size wr W → Calls Tryz.prog 83 #[.agg #[.int .i64 (sgnOf 1 (out * out + o1)), .slice x (lim (out * out + o1)).length c], .agg #[.int .i64 (sgnOf 1 o2), .slice x' (lim o2).length c']] W fun e w' => ∃ x c, e = .returned (.agg #[.int .i64 (sgnOf 1 (out * out + o1 + o2)), .slice x (lim (out * out + o1 + o2)).length c]) ∧ (lim (out * out + o1 + o2)).length ≤ c ∧ Own w' W.heap.size x (lim (out * out + o1 + o2)) ∧ Below wr.heap.size wr w' ∧ Below W.heap.size W w' from
        fun x c x' c' W hc ho hc' ho' hW => (sAddN (out * out + o1) o2 x x' c c' W ho.ints ho'.ints (by omega) (by omega) hc hc').mono fun e w' ⟨x, c, he, hc, ho, hb⟩ => ⟨x, c, he, hc, ho, hW.trans (hb.mono hW.size), hb⟩)
      have HA3 := Lib.hid (show ∀ x c W, (lim o3).length ≤ c → Own W wr.heap.size x (lim o3) → Below wr.heap.size wr W → Calls Tryz.prog 83 #[.agg #[.int .i64 (sgnOf 1 out), .slice a3 (lim out).length c3], .agg #[.int .i64 (sgnOf 1 o3), .slice x (lim o3).length c]] W fun e w' => ∃ x c, e = .returned (.agg #[.int .i64 (sgnOf 1 (out + o3)), .slice x (lim (out + o3)).length c]) ∧ (lim (out + o3)).length ≤ c ∧ Own w' wr.heap.size x (lim (out + o3)) ∧ Below wr.heap.size wr w' ∧ Below W.heap.size W w' from
        fun x c W hc ho hW => (sAddN out o3 a3 x c3 c W (hv3.own.below hW).ints ho.ints (by omega) (by omega) hv3.fit hc).mono fun e w' ⟨x, c, he, hc, ho, hb⟩ => ⟨x, c, he, hc, ho.mono hW.size, hW.trans (hb.mono hW.size), hb⟩)
      have hone := hst.out.one
      have HX := Lib.hid (show ∀ W, Below wr.heap.size wr W → (W.cell? ⟨w2.heap.size, 0, none⟩ = some (.int .i64 (sgnOf 1 out)) ∧ W.cell? ⟨w2.heap.size, 1, none⟩ = some (.slice a3 (lim out).length c3) ∧ W.cell? ⟨w2.heap.size + 1, 0, none⟩ = some (.int .i64 (sgnOf 1 (out * out))) ∧ W.cell? ⟨w2.heap.size + 1, 1, none⟩ = some (.slice a4 (lim (out * out)).length c4) ∧ W.cell? ⟨w2.heap.size + 2, 0, none⟩ = some (.int .i64 1) ∧ W.cell? ⟨w2.heap.size + 2, 1, none⟩ = some (.slice b 1 d)) from
        fun W hW => ⟨(hv3.box.below hW).cell 0, (hv3.box.below hW).cell 1, (hv4.box.below hW).cell 0, (hv4.box.below hW).cell 1, (hone.below hW).cell 0, (hone.below hW).cell 1⟩)
      obtain ⟨N, hN⟩ : ∃ N, N = out * out + o1 + o2 := ⟨_, rfl⟩
      obtain ⟨M, hM⟩ : ∃ M, M = out * out + o1 := ⟨_, rfl⟩
      obtain ⟨S, hS⟩ : ∃ S, S = out * out := ⟨_, rfl⟩
      rw [← hN] at hNe HA2
      have HNE := Lib.hid hNe
      have HO3 := Lib.hid (show o3 = 2 ^ j by rw [ho3, Nat.one_mul])
      rw [← hM] at HA1 HA2
      rw [← hS] at HA1 HX
      have HCM := Lib.hid (show ∀ x c W, Own W wr.heap.size x (lim N) → Below wr.heap.size wr W → Calls Tryz.prog 81 #[.agg #[.int .i64 (sgnOf 1 N), .slice x (lim N).length c], .agg #[.int .i64 s, .slice a (lim m).length c1]] W (RetB (.int .i64 (cmpZ (N : Int) (m : Int))) W) from
        fun x c W ho hW => by
          have hi := IX.out W (HBW.out.trans (hW.mono HBW.out.size))
          have h := sCompare (sgnOf 1 N) s x a N m c c1 W _ B (Nat.le_refl _) hi.2 ho.ints hi.1 (sgn_self N).1 HSG.out.1 (by rw [hN]; omega) (by have := HR.out.2.2; omega)
          rw [(sgn_self N).2, HSG.out.2] at h
          exact h)
      have hTd : Below wr.heap.size wr wr.drew := (Below.refl _ _).drew
      have hT0 : Below wr.heap.size wr wr := Below.refl _ _
      have HINV := hinv
      have HSTT := hst
      clear hv3 hv4 hinv hst hone hw1 hw2 hom hlo hls hp1 hp2 hp3 hl1 hl2 hl3 hl4 hl5 hNe ho1 ho2 ho3 e11 hIone hN hM hS
      go_wp2_with fail
      go_cut [7] from 15 to 39 (fun p W => NextAt wr W p N)
      case first => as_aux_lemma =>
        go_region_held3 (fun W => W.cell? ⟨w2.heap.size, 0, none⟩ = some (.int .i64 (sgnOf 1 out)) ∧ W.cell? ⟨w2.heap.size, 1, none⟩ = some (.slice a3 (lim out).length c3) ∧ W.cell? ⟨w2.heap.size + 1, 0, none⟩ = some (.int .i64 (sgnOf 1 S)) ∧ W.cell? ⟨w2.heap.size + 1, 1, none⟩ = some (.slice a4 (lim S).length c4) ∧ W.cell? ⟨w2.heap.size + 2, 0, none⟩ = some (.int .i64 1) ∧ W.cell? ⟨w2.heap.size + 2, 1, none⟩ = some (.slice b 1 d))
          (first | exact HX.out _ (by assumption) | exact HX.out _ (bal (by assumption)) | exact HX.out _ (below_allocd (by assumption) _) | exact HX.out _ (below_set2 (by assumption) (by first | omega | (simp; omega) | simp) _ _))
          (first
          | (go_at_call 79; with_reducible refine (HL1.out _ (by first | assumption | exact bal (by assumption) | exact below_allocd (by assumption) _)).mono ?_; rintro e w5 ⟨x5, d5, rfl, hc5, ho5, hb5, hb5'⟩; have hk5 := fun g v0 v1 (h : BoxAt _ g 60 #[v0, v1]) => BoxAt.below h hb5'; have hz5 := hb5.size; have hy5 := hb5'.size; (try simp at hy5))
          | (go_at_call 83; with_reducible refine (HA1.out _ _ _ hc5 (by first | exact ho5 | exact ho5.alloc _) (by first | exact hb5 | exact bal hb5)).mono ?_; rintro e w6 ⟨x6, d6, rfl, hc6, ho6, hb6, hb6'⟩; have hk6 := fun g v0 v1 (h : BoxAt _ g 60 #[v0, v1]) => BoxAt.below h hb6'; have hz6 := hb6.size; have hy6 := hb6'.size; (try simp at hy6))
          | (go_at_call 79; with_reducible refine (HL2.out _ (by first | exact hb6 | exact bal hb6)).mono ?_; rintro e w7 ⟨x7, d7, rfl, hc7, ho7, hb7, hb7'⟩; have hk7 := fun g v0 v1 (h : BoxAt _ g 60 #[v0, v1]) => BoxAt.below h hb7'; have hz7 := hb7.size; have hy7 := hb7'.size; (try simp at hy7); first | (have ho67 := ho6.below hb7') | (have ho67 := (ho6.alloc _).below hb7'))
          | (go_at_call 83; with_reducible refine (HA2.out _ _ _ _ _ hc6 (by first | exact ho67 | exact ho67.alloc _) hc7 (by first | exact ho7 | exact ho7.alloc _) (by first | exact hb7 | exact bal hb7)).mono ?_; rintro e w8 ⟨x8, d8, rfl, hc8, ho8, hb8, hb8'⟩; have hz8 := hb8.size; have hy8 := hb8'.size; (try simp at hy8); (first | (with_reducible have hq := BoxAt.below (BoxAt.new w7 _ _) hb8'; obtain ⟨q1, q2, q3, q4⟩ := BoxAt.two hq) | (with_reducible have hq := BoxAt.below (hk7 _ _ _ (BoxAt.new w6 _ _)) hb8'; obtain ⟨q1, q2, q3, q4⟩ := BoxAt.two hq) | (with_reducible have hq := BoxAt.below (hk7 _ _ _ (hk6 _ _ _ (BoxAt.new w5 _ _))) hb8'; obtain ⟨q1, q2, q3, q4⟩ := BoxAt.two hq) | (with_reducible have hq := BoxAt.below (hk7 _ _ _ (hk6 _ _ _ (hk5 _ _ _ (BoxAt.newd wr _ _)))) hb8'; obtain ⟨q1, q2, q3, q4⟩ := BoxAt.two hq) | skip)))
        all_goals
          go_wp2_with fail
          go_meet
          first
          | exact NextAt.mk1 hc8 ho8 (by first | omega | (simp; omega)) hb8
          | exact NextAt.mk2 hq (by first | omega | (simp; omega) | simp) (by first | omega | (simp; done) | (simp; omega)) hc8 ho8 hb8
      case rest => as_aux_lemma =>
        obtain ⟨h, x, c, rfl, hh, hc, ho, hbx, hb⟩ := hcut
        have HOX := Lib.hid ho
        have HCX := Lib.hid hc
        have HBX := Lib.hid hbx
        have HBB := Lib.hid hb
        obtain ⟨z1, z2, z3, z4⟩ := hbx.two
        obtain ⟨k1, k2⟩ := SS.out _ (HBW.out.trans (hb.mono HBW.out.size))
        clear hTd hT0 hc ho hbx hb
        by_cases hle : N ≤ m
        · have hcm : cmpZ (N : Int) (m : Int) = 0 ∨ cmpZ (N : Int) (m : Int) = -1 := by
            rcases Nat.lt_or_ge N m with h | h
            · right; exact cmpZ_lt (by omega)
            · left; exact cmpZ_eq (by omega)
          obtain ⟨z, hz⟩ : ∃ z, z = cmpZ (N : Int) (m : Int) := ⟨_, rfl⟩
          rw [← hz] at HCM hcm
          have hz0 : decide (z ≤ 0) = true := decide_eq_true (by omega)
          clear hz hcm
          go_wp2_with fail
          refine (HCM.out _ _ _ HOX.out HBB.out).mono ?_
          rintro e w9 ⟨rfl, hb9⟩
          have hB9 := HBB.out.trans (hb9.mono HBB.out.size)
          have HBX9 := Lib.hid (HBX.out.below hb9)
          have HOX9 := Lib.hid (HOX.out.below hb9)
          have HYES := Lib.hid (show RootInv m (out + o3) j from by rw [HO3.out]; exact rootInv_yes HINV.out (by rw [← HO3.out, ← HNE.out]; exact hle))
          obtain ⟨f1, f2, f3, f4, f5, f6⟩ := HX.out _ hB9
          have hgh : w2.heap.size < h := by omega
          have hgh1 : w2.heap.size + 1 < h := by omega
          clear z1 z2 z3 z4 k1 k2 hb9 hle
          go_wp2_with fail
          go_region_with ((first
            | (go_at_call 79; with_reducible refine (HL3.out _ (by first | exact hB9 | exact hB9.drew)).mono ?_; rintro e w10 ⟨x10, d10, rfl, hc10, ho10, hb10, hb10'⟩; clear f1 f2 f3 f4 f5 f6; obtain ⟨f1, f2, f3, f4, f5, f6⟩ := HX.out _ hb10)
            | (go_at_call 83; with_reducible refine (HA3.out _ _ _ hc10 ho10 hb10).mono ?_; rintro e w11 ⟨x11, d11, rfl, hc11, ho11, hb11, hb11'⟩; clear f1 f2 f3 f4 f5 f6; obtain ⟨q1, q2, q3, q4⟩ := (HV3.out.box.below hb11).two; obtain ⟨q5, q6, q7, q8⟩ := (HV4.out.box.below hb11).two)))
          all_goals
            have hbx9 : BoxAt w9.drew h 60 #[.int .i64 (sgnOf 1 N), .slice x (lim N).length c] := HBX9.out
            have hox9 : Own w9.drew wr.heap.size x (lim N) := HOX9.out
            have hbx11 := (hbx9.below hb10').below hb11'
            have hox11 := (hox9.below hb10').below hb11'
            have HRS := Lib.hid (HSTT.out.next hb11 hc11 ho11 HCX.out hox11 HNE.out)
            obtain ⟨z1, z2, z3, z4⟩ := ((hbx11.far (p := ⟨w2.heap.size, 0, none⟩) (by simp <;> omega) (.int .i64 (sgnOf 1 (out + o3)))).far (p := ⟨w2.heap.size, 1, none⟩) (by simp <;> omega) (.slice x11 (lim (out + o3)).length d11)).two
            obtain ⟨q5, q6, q7, q8⟩ := (((HV4.out.box.below hb11).far (p := ⟨w2.heap.size, 0, none⟩) (by simp <;> omega) (.int .i64 (sgnOf 1 (out + o3)))).far (p := ⟨w2.heap.size, 1, none⟩) (by simp <;> omega) (.slice x11 (lim (out + o3)).length d11)).two
            clear hbx9 hox9 hbx11 hox11 hb10 hb10' hb11 hb11' ho10 ho11 hc10 hc11
            go_wp2_with fail
            go_roundw
            case rel => exact ⟨j, out + o3, rfl, by omega, HYES, HRS⟩
            case measure => simp [intOf]
        · have hgt : m < N := by omega
          rw [cmpZ_gt (show (m : Int) < (N : Int) by omega)] at HCM
          have HNO := Lib.hid (show RootInv m out j from rootInv_no HINV.out (by rw [← HO3.out, ← HNE.out]; exact hgt))
          clear hgt hle
          go_wp2_with fail
          refine (HCM.out _ _ _ HOX.out HBB.out).mono ?_
          rintro e w9 ⟨rfl, hb9⟩
          have HS9 := Lib.hid (HSTT.out.keep (HBB.out.trans (hb9.mono HBB.out.size)))
          clear hb9
          go_wp2_with fail
          go_roundw
          case rel => exact ⟨j, out, rfl, by omega, HNO, HS9⟩
          case measure => simp [intOf]
end Go.Proofs.YtgppagmejhgmaaaGreatDoor
