/-
  Contracts: bits.Len64, bits.LeadingZeros64 at every word; the mathematics of bits.Div64. No conditions. Contract: bits.Div64, where the quotient is small. Conditions: the divisor has 25 to 48 bits, the quotient at most 25. Contract: (*division).take. Conditions: the limbs can be read, the rest lies in a row of its own. Contract: (*division).guess. Conditions: the limbs can be read. A step of a division by limbs: the guess is the limb of the quotient, or too large by 1. Plain mathematics, no conditions. Contract: (*division).step. Conditions: the limbs can be read, the rest and the quotient lie in rows of their own. Contract: (*division).step, the walk. Conditions: the limbs can be read, the rest and the quotient lie in rows of their own. Contracts: dividedBy where the divisor is greater, or of one limb. Conditions: the limbs can be read. Contract: dividedBy. Conditions: the limbs can be read, the divisor is not 0. Contract: common, the greatest common divisor of two absolute values. Conditions: the limbs can be read.
-/
import Derived.Test.YtiohacnkiikmcaaUe
import Derived.Deep.AppendLies
import Derived.BigRegion
import Derived.Test.YtiohacnkiikmcaaTg
namespace Go.Proofs.Ytiohacnkiikmcaa
set_option linter.unusedVariables false
open Go Go.RowKit

theorem len_case (x y : Int) (k l : Nat) (hk : k ≤ 56) (hxy : y.toNat = x.toNat / 2 ^ k) (h : 2 ^ k ≤ x.toNat) (hx : x < 18446744073709551616) (hl : l = Lib.bitLen y.toNat) (hl8 : l ≤ 8) :
    wrap64 ((k : Int) + (l : Int)) = (Lib.bitLen x.toNat : Int) := by
  have s := Lib.bitLen_shift k x.toNat h (by omega)
  rw [← hxy, ← hl] at s
  rw [s]
  unfold wrap64
  omega
theorem div_pow (x : Nat) (a b : Nat) : x / 2 ^ a / 2 ^ b = x / 2 ^ (a + b) := by rw [Nat.div_div_eq_div_mul, ← Nat.pow_add]

theorem bit_le (x : Int) (h0 : 0 ≤ x) (hx : x < 18446744073709551616) : Lib.bitLen x.toNat ≤ 64 := Lib.bitLen_le _ 64 (by omega) (by omega)
structure DInv (W y1 y0 u0 q r : Nat) : Prop where
  eq : q * y1 + r = W
  ge : (W * 4294967296 + u0) / (y1 * 4294967296 + y0) ≤ q
  qb : q ≤ 134217728
theorem dinv_start {W y1 y0 u0 : Nat} (h1 : 0 < y1) (hu : u0 < 4294967296) (hb : W / y1 ≤ 134217728) : DInv W y1 y0 u0 (W / y1) (W % y1) := by
  refine ⟨by rw [Nat.mul_comm]; exact Nat.div_add_mod W y1, ?_, hb⟩
  refine Nat.le_trans (Nat.div_le_div_left (show y1 * 4294967296 ≤ y1 * 4294967296 + y0 by omega) (by omega)) ?_
  rw [Nat.mul_comm y1, ← Nat.div_div_eq_div_mul]
  have : (W * 4294967296 + u0) / 4294967296 = W := by omega
  rw [this]
  exact Nat.le_refl _
theorem dinv_step {W y1 y0 u0 q r : Nat} (h : DInv W y1 y0 u0 q r) (h1 : 0 < y1) (hc : 4294967296 * r + u0 < q * y0) : 1 ≤ q ∧ DInv W y1 y0 u0 (q - 1) (r + y1) := by
  have hq : 1 ≤ q := by
    rcases Nat.eq_zero_or_pos q with h0 | h0
    · subst h0; omega
    · exact h0
  refine ⟨hq, ?_, ?_, by have := h.qb; omega⟩
  · have e := h.eq
    have e2 : q * y1 = (q - 1) * y1 + y1 := by
      have : q = (q - 1) + 1 := by omega
      rw [this, Nat.add_mul, Nat.one_mul]; simp
    omega
  · have hlt : W * 4294967296 + u0 < q * (y1 * 4294967296 + y0) := by
      have e := h.eq
      have e2 : q * (y1 * 4294967296 + y0) = q * y1 * 4294967296 + q * y0 := by rw [Nat.mul_add, Nat.mul_assoc]
      rw [e2]
      omega
    have := (Nat.div_lt_iff_lt_mul (show 0 < y1 * 4294967296 + y0 by omega)).2 hlt
    omega
theorem dinv_end {W y1 y0 u0 q r : Nat} (h : DInv W y1 y0 u0 q r) (h1 : 0 < y1) (hc : q * y0 ≤ 4294967296 * r + u0) : q = (W * 4294967296 + u0) / (y1 * 4294967296 + y0) := by
  refine Nat.le_antisymm ?_ h.ge
  rw [Nat.le_div_iff_mul_le (by omega)]
  have e := h.eq
  have e2 : q * (y1 * 4294967296 + y0) = q * y1 * 4294967296 + q * y0 := by rw [Nat.mul_add, Nat.mul_assoc]
  rw [e2]
  omega
theorem and_low (v : Nat) (h : v < 18446744073709551616) : bits .and .u64 (v : Int) 4294967295 = ((v % 4294967296 : Nat) : Int) := by
  have := u64_and_nat v 4294967295 h (by decide)
  rw [show v &&& 4294967295 = v % 4294967296 from Nat.and_two_pow_sub_one_eq_mod v 32] at this
  exact this

/-- What Div64 makes of its words before the first loop. -/
theorem div_words {hi lo y s l : Nat} (hlo : lo < 18446744073709551616) (hU : hi * 18446744073709551616 + lo < y * 33554432) (hs : l + s = 64) (h25 : 25 ≤ l) (h48 : l ≤ 48) (hb1 : 2 ^ (l - 1) ≤ y) (hb2 : y < 2 ^ l) :
    ∃ Y y1 y0 u32 V u1 u0 : Nat, IntKind.u64.wrap ((y : Int) * 2 ^ s) = (Y : Int) ∧ (Y : Int) / 4294967296 = (y1 : Int) ∧ bits .and .u64 (Y : Int) 4294967295 = (y0 : Int) ∧
      bits .or .u64 (IntKind.u64.wrap ((hi : Int) * 2 ^ s)) ((lo : Int) / 2 ^ (64 - s)) = (u32 : Int) ∧ IntKind.u64.wrap ((lo : Int) * 2 ^ s) = (V : Int) ∧ (V : Int) / 4294967296 = (u1 : Int) ∧ bits .and .u64 (V : Int) 4294967295 = (u0 : Int) ∧
      2147483648 ≤ y1 ∧ y1 < 4294967296 ∧ y0 < 4294967296 ∧ u32 < 33554432 ∧ u1 < 4294967296 ∧ u0 < 4294967296 ∧
      ((u32 * 4294967296 + u1) * 4294967296 + u0) / (y1 * 4294967296 + y0) = (hi * 18446744073709551616 + lo) / y ∧ (u32 * 4294967296 + u1) * 4294967296 + u0 = (hi * 18446744073709551616 + lo) * 2 ^ s ∧ Y = y * 2 ^ s ∧ Y < 18446744073709551616 := by
  have p1 : 2 ^ (l - 1) * 2 ^ s = 9223372036854775808 := by rw [← Nat.pow_add, show l - 1 + s = 63 by omega]
  have p2 : 2 ^ l * 2 ^ s = 18446744073709551616 := by rw [← Nat.pow_add, show l + s = 64 by omega]
  have p3 : 2 ^ (64 - s) * 2 ^ s = 18446744073709551616 := by rw [← Nat.pow_add, show 64 - s + s = 64 by omega]
  have hs0 : 0 < 2 ^ s := Nat.pow_pos (by omega)
  have hsb : 2 ^ s ≤ 2 ^ 39 := Nat.pow_le_pow_right (by omega) (by omega)
  have y1' : 9223372036854775808 ≤ y * 2 ^ s := by rw [← p1]; exact Nat.mul_le_mul_right _ hb1
  have y2' : y * 2 ^ s < 18446744073709551616 := by rw [← p2]; exact Nat.mul_lt_mul_of_pos_right hb2 hs0
  have hy48 : y < 281474976710656 := Nat.lt_of_lt_of_le hb2 (Nat.le_trans (Nat.pow_le_pow_right (by omega) h48) (by decide))
  have hhi : hi < 512 := by omega
  have hh : hi * 2 ^ s < 18446744073709551616 := by
    have h1 : hi * 2 ^ s ≤ 511 * 2 ^ 39 := Nat.mul_le_mul (by omega) hsb
    omega
  have hlq : lo / 2 ^ (64 - s) < 2 ^ s := by
    rw [Nat.div_lt_iff_lt_mul (Nat.pow_pos (by omega)), Nat.mul_comm, p3]
    exact hlo
  have hdiv : lo * 2 ^ s / 18446744073709551616 = lo / 2 ^ (64 - s) := by rw [← p3, Nat.mul_div_mul_right _ _ hs0]
  have hV := Nat.div_add_mod (lo * 2 ^ s) 18446744073709551616
  rw [hdiv] at hV
  have hVlt := Nat.mod_lt (lo * 2 ^ s) (show 0 < 18446744073709551616 by decide)
  have hkey : (hi * 18446744073709551616 + lo) * 2 ^ s = (hi * 2 ^ s + lo / 2 ^ (64 - s)) * 18446744073709551616 + lo * 2 ^ s % 18446744073709551616 := by
    have e1 : hi * 18446744073709551616 * 2 ^ s = hi * 2 ^ s * 18446744073709551616 := by rw [Nat.mul_assoc, Nat.mul_comm 18446744073709551616, ← Nat.mul_assoc]
    rw [Nat.add_mul, e1]
    omega
  have hcast : (2 : Int) ^ s = ((2 ^ s : Nat) : Int) := by simp
  have hcast2 : (2 : Int) ^ (64 - s) = ((2 ^ (64 - s) : Nat) : Int) := by simp
  have hUs : (hi * 18446744073709551616 + lo) * 2 ^ s < y * 33554432 * 2 ^ s := Nat.mul_lt_mul_of_pos_right hU hs0
  have hUs2 : y * 33554432 * 2 ^ s = y * 2 ^ s * 33554432 := by rw [Nat.mul_assoc, Nat.mul_comm 33554432, ← Nat.mul_assoc]
  refine ⟨y * 2 ^ s, y * 2 ^ s / 4294967296, y * 2 ^ s % 4294967296, hi * 2 ^ s + lo / 2 ^ (64 - s), lo * 2 ^ s % 18446744073709551616, lo * 2 ^ s % 18446744073709551616 / 4294967296, lo * 2 ^ s % 18446744073709551616 % 4294967296, ?_, ?_, and_low _ y2', ?_, ?_, ?_, and_low _ hVlt, by omega, by omega, by omega, by omega, by omega, by omega, ?_, ?_, rfl, y2'⟩
  · rw [IntKind.wrap_u64, hcast, ← Int.natCast_mul]; omega
  · omega
  · have e1 : IntKind.u64.wrap ((hi : Int) * 2 ^ s) = ((hi * 2 ^ s : Nat) : Int) := by rw [IntKind.wrap_u64, hcast, ← Int.natCast_mul]; omega
    have e2 : (lo : Int) / 2 ^ (64 - s) = ((lo / 2 ^ (64 - s) : Nat) : Int) := by
      rw [hcast2]
      generalize 2 ^ (64 - s) = k
      exact (Int.natCast_ediv lo k).symm
    rw [e1, e2, u64_or_nat _ _ hh (by omega)]
    have := Nat.shiftLeft_add_eq_or_of_lt hlq hi
    rw [Nat.shiftLeft_eq] at this
    rw [this]
  · rw [IntKind.wrap_u64, hcast, ← Int.natCast_mul]; omega
  · omega
  · have e1 : ((hi * 2 ^ s + lo / 2 ^ (64 - s)) * 4294967296 + lo * 2 ^ s % 18446744073709551616 / 4294967296) * 4294967296 + lo * 2 ^ s % 18446744073709551616 % 4294967296 = (hi * 18446744073709551616 + lo) * 2 ^ s := by
      rw [hkey]; omega
    have e2 : y * 2 ^ s / 4294967296 * 4294967296 + y * 2 ^ s % 4294967296 = y * 2 ^ s := Nat.div_add_mod' _ _
    rw [e1, e2, Nat.mul_div_mul_right _ _ hs0]
  · rw [hkey]; omega

/-- The call returned a quotient and the remainder. -/
def RetD (q r : Nat) (w : World) (e : Ending) (w' : World) : Prop := e = .returned (.tuple #[.int .u64 (q : Int), .int .u64 (r : Int)]) ∧ ∃ n, w' = w.drewN n
theorem rem_end {W u0 q Y s U y : Nat} (hZ : W * 4294967296 + u0 = U * 2 ^ s) (hY : Y = y * 2 ^ s) (hY2 : Y < 18446744073709551616) (hy : 0 < y) (hq : q = U / y) :
    IntKind.u64.wrap (IntKind.u64.wrap (IntKind.u64.wrap ((W : Int) * 4294967296) + (u0 : Int)) - IntKind.u64.wrap ((q : Int) * (Y : Int))) / 2 ^ s = ((U % y : Nat) : Int) := by
  have hs0 : 0 < 2 ^ s := Nat.pow_pos (by omega)
  have hm : U % y * 2 ^ s < Y := by rw [hY]; exact Nat.mul_lt_mul_of_pos_right (Nat.mod_lt _ hy) hs0
  have hd : U * 2 ^ s = q * Y + U % y * 2 ^ s := by
    have h1 := Nat.div_add_mod U y
    rw [← hq] at h1
    have h2 : q * Y = y * q * 2 ^ s := by rw [hY, ← Nat.mul_assoc, Nat.mul_comm q y]
    rw [h2, ← Nat.add_mul, h1]
  rw [← hZ] at hd
  obtain ⟨m, hmm⟩ : ∃ m, m = U % y * 2 ^ s := ⟨_, rfl⟩
  obtain ⟨p, hp⟩ : ∃ p, p = q * Y := ⟨_, rfl⟩
  rw [← hmm, ← hp] at hd
  rw [← hmm] at hm
  have e1 : (q : Int) * (Y : Int) = (p : Int) := by rw [hp, Int.natCast_mul]
  have e2 : IntKind.u64.wrap (IntKind.u64.wrap (IntKind.u64.wrap ((W : Int) * 4294967296) + (u0 : Int)) - IntKind.u64.wrap ((q : Int) * (Y : Int))) = (m : Int) := by
    rw [e1]
    simp only [IntKind.wrap_u64]
    omega
  rw [e2, hmm]
  have hcast : (2 : Int) ^ s = ((2 ^ s : Nat) : Int) := by simp
  rw [hcast, ← Int.natCast_ediv, Nat.mul_div_cancel _ hs0]

def segI (R : List Int) (i : Nat) : Nat → Int
  | 0 => 0
  | k + 1 => segI R i k + 16777216 ^ k * R.getD (i + k) 0
theorem segI_same {R S : List Int} {i : Nat} : ∀ {k : Nat}, (∀ j, j < k → S.getD (i + j) 0 = R.getD (i + j) 0) → segI S i k = segI R i k
  | 0, _ => rfl
  | k + 1, h => by rw [segI, segI, segI_same (fun j hj => h j (by omega)), h k (by omega)]
theorem getD_set_ne {R : List Int} {a b : Nat} (x : Int) (h : a ≠ b) : (R.set a x).getD b 0 = R.getD b 0 := by
  simp [List.getD, List.getElem?_set_ne h]
theorem getD_set_eq {R : List Int} {a : Nat} (x : Int) (h : a < R.length) : (R.set a x).getD a 0 = x := by
  simp [List.getD, List.getElem?_set_self h]
/-- How often the divisor may be taken. -/
def Times (t : Int) : Prop := t = -1 ∨ (0 ≤ t ∧ t ≤ 16777216)
structure TakeInv (R : List Int) (D : List Nat) (t : Int) (i : Nat) (S : List Int) (k : Nat) (c : Int) : Prop where
  len : S.length = R.length
  same : ∀ j, (j < i ∨ i + k ≤ j) → S.getD j 0 = R.getD j 0
  digs : ∀ j, j < k → 0 ≤ S.getD (i + j) 0 ∧ S.getD (i + j) 0 < 16777216
  eq : segI S i k + 16777216 ^ k * c = segI R i k - t * (val (D.take k) : Int)
  lo : -16777216 ≤ c
  hi : c ≤ 1
theorem takeInv_start (R : List Int) (D : List Nat) (t : Int) (i : Nat) : TakeInv R D t i R 0 0 :=
  ⟨rfl, fun _ _ => rfl, fun j hj => absurd hj (Nat.not_lt_zero _), by
    have e : ((val (D.take 0) : Nat) : Int) = 0 := by rw [List.take_zero]; rfl
    rw [e, Int.mul_zero, Int.mul_zero, Int.add_zero, Int.sub_zero], by omega, by omega⟩
theorem take_part {t : Int} (ht : Times t) {d : Nat} (hd : d < 16777216) {r c : Int} (hr : 0 ≤ r ∧ r < 16777216) (hc : -16777216 ≤ c ∧ c ≤ 1) :
    -281474976710656 ≤ c + (r - (d : Int) * t) ∧ c + (r - (d : Int) * t) ≤ 33554431 ∧ -281474959933440 ≤ r - (d : Int) * t ∧ r - (d : Int) * t ≤ 33554430 ∧ -16777216 ≤ (d : Int) * t ∧ (d : Int) * t ≤ 281474959933440 := by
  rcases ht with rfl | ⟨h0, h1⟩
  · omega
  · have h2 : 0 ≤ (d : Int) * t := Int.mul_nonneg (by omega) h0
    have h3 : (d : Int) * t ≤ 16777215 * 16777216 := Int.mul_le_mul (by omega) h1 h0 (by omega)
    omega
theorem takeInv_step {R S : List Int} {D : List Nat} {t c : Int} {i k : Nat} (h : TakeInv R D t i S k c) (ht : Times t) (hD : Small D) (hk : k < D.length) (hl : i + k < R.length) (hr : 0 ≤ R.getD (i + k) 0 ∧ R.getD (i + k) 0 < 16777216) :
    TakeInv R D t i (S.set (i + k) ((c + (R.getD (i + k) 0 - (D[k] : Int) * t)) % 16777216)) (k + 1) ((c + (R.getD (i + k) 0 - (D[k] : Int) * t)) / 16777216) := by
  have hp := take_part ht (hD k hk) hr ⟨h.lo, h.hi⟩
  obtain ⟨x, hx⟩ : ∃ x, x = c + (R.getD (i + k) 0 - (D[k] : Int) * t) := ⟨_, rfl⟩
  rw [← hx] at hp ⊢
  have hlS : i + k < S.length := by rw [h.len]; exact hl
  refine ⟨by rw [List.length_set]; exact h.len, fun j hj => ?_, fun j hj => ?_, ?_, by omega, by omega⟩
  · rw [getD_set_ne _ (by omega)]
    exact h.same j (by omega)
  · by_cases hjk : j = k
    · subst hjk
      rw [getD_set_eq _ hlS]
      omega
    · rw [getD_set_ne _ (by omega)]
      exact h.digs j (by omega)
  · have e := h.eq
    have e2 : segI (S.set (i + k) (x % 16777216)) i k = segI S i k := segI_same fun j hj => getD_set_ne _ (by omega)
    have e3 : ((val (D.take (k + 1)) : Nat) : Int) = (val (D.take k) : Int) + 16777216 ^ k * (D[k] : Int) := by
      rw [val_take_getD, getD_of_lt hk, Int.natCast_add, Int.natCast_mul, Int.natCast_pow]
      congr 1
    rw [segI, segI, e2, getD_set_eq _ hlS, e3, Int.pow_succ]
    have e4 : x % 16777216 + 16777216 * (x / 16777216) = x := Int.emod_add_mul_ediv x 16777216
    generalize x % 16777216 = u at *
    generalize x / 16777216 = v at *
    generalize (16777216 : Int) ^ k = P at *
    generalize segI S i k = a1 at *
    generalize segI R i k = a2 at *
    generalize R.getD (i + k) 0 = r at *
    generalize ((val (D.take k) : Nat) : Int) = w at *
    generalize (D[k] : Int) = d at *
    grind

/-- The divisor was taken off, t times. -/
def RetT (gr i n : Nat) (R : List Int) (v t : Int) (w : World) (w' : World) : Prop := ∃ S : List Int, S.length = R.length ∧ (∀ j, (j < i ∨ i + n < j) → S.getD j 0 = R.getD j 0) ∧ (∀ j, j < n → 0 ≤ S.getD (i + j) 0 ∧ S.getD (i + j) 0 < 16777216) ∧ segI S i (n + 1) = segI R i (n + 1) - t * v ∧ -16777216 + R.getD (i + n) 0 ≤ S.getD (i + n) 0 ∧ S.getD (i + n) 0 ≤ R.getD (i + n) 0 + 1 ∧ RowI w' gr S ∧ w.grownBy w' (some gr)

theorem quietDL {P : Program} {f : FuncId} {args : Array Value} {w : World} {v : Value} (h : ∀ W, Calls P f args W fun e w' => e = .returned v ∧ ∃ n, w' = W.drewN n) (q : Nat) :
    Calls P f args (w.drewN q) fun e w'' => e = .returned v ∧ ∃ m, w'' = w.drewN (q + m) := (h _).mono fun _ _ ⟨he, n, hn⟩ => ⟨he, n, by rw [hn, World.drewN_drewN]⟩
theorem quietDA {P : Program} {f : FuncId} {args : Array Value} {w : World} {v : Value} (h : ∀ W, Calls P f args W fun e w' => e = .returned v ∧ ∃ n, w' = W.drewN n) (q n : Nat) :
    Calls P f args (w.drewN (q + n)) fun e w'' => e = .returned v ∧ ∃ m, w'' = w.drewN (q + m) := (h _).mono fun _ _ ⟨he, n', hn⟩ => ⟨he, n + n', by rw [hn, World.drewN_drewN, Nat.add_assoc]⟩
theorem guess_low (f s t : Nat) (hf : f < 16777216) (hs : s < 16777216) (ht : t < 16777216) :
    bits .or .u64 (bits .or .u64 (IntKind.u64.wrap ((f : Int) * 281474976710656)) ((s : Int) * 16777216)) (t : Int) = ((f % 65536 * 281474976710656 + s * 16777216 + t : Nat) : Int) := by
  have e1 : IntKind.u64.wrap ((f : Int) * 281474976710656) = ((f % 65536 * 2 ^ 48 : Nat) : Int) := by rw [IntKind.wrap_u64]; omega
  have e2 : (s : Int) * 16777216 = ((s * 16777216 : Nat) : Int) := by omega
  have h1 := Nat.shiftLeft_add_eq_or_of_lt (show s * 16777216 < 2 ^ 48 by omega) (f % 65536)
  rw [Nat.shiftLeft_eq] at h1
  rw [e1, e2, u64_or_nat _ _ (by omega) (by omega), ← h1]
  have h2 := Nat.shiftLeft_add_eq_or_of_lt (show t < 2 ^ 24 by omega) (f % 65536 * 16777216 + s)
  rw [Nat.shiftLeft_eq] at h2
  have e3 : f % 65536 * 2 ^ 48 + s * 16777216 = (f % 65536 * 16777216 + s) * 2 ^ 24 := by
    generalize f % 65536 = g
    rw [Nat.add_mul, Nat.mul_assoc]
  rw [e3] at *
  rw [u64_or_nat _ _ (by omega) (by omega), ← h2]

theorem guess_bounds {P V v u d t0 t1 : Nat} (hV : V = u * P + t0) (ht0 : t0 < P) (hv : v = d * P + t1) (ht1 : t1 < P) (hd : 16777216 ≤ d) (hlt : V < 16777216 * v) :
    V / v ≤ u / d ∧ u / d ≤ V / v + 1 := by
  have hP : 0 < P := by omega
  have hdP : P ≤ d * P := Nat.le_mul_of_pos_left _ (by omega)
  have hv0 : 0 < v := by omega
  have hq : V / v < 16777216 := (Nat.div_lt_iff_lt_mul hv0).2 hlt
  have h1 : V / v * v ≤ V := Nat.div_mul_le_self V v
  have h2 : V < (V / v + 1) * v := by
    rw [Nat.mul_comm]; exact Nat.lt_mul_div_succ V hv0
  generalize V / v = q at *
  constructor
  · rw [Nat.le_div_iff_mul_le (by omega)]
    have h3 : q * (d * P) ≤ q * v := Nat.mul_le_mul_left _ (by omega)
    have h4 : q * d * P < (u + 1) * P := by
      rw [Nat.mul_assoc, Nat.add_mul, Nat.one_mul]; omega
    have := Nat.lt_of_mul_lt_mul_right h4
    omega
  · have h3 : u / d < q + 2 := by
      rw [Nat.div_lt_iff_lt_mul (by omega)]
      have h5 : (q + 1) * v ≤ (q + 1) * ((d + 1) * P) := Nat.mul_le_mul_left _ (by rw [Nat.add_mul, Nat.one_mul]; omega)
      have h6 : u * P < (q + 1) * (d + 1) * P := by rw [Nat.mul_assoc]; omega
      have h7 := Nat.lt_of_mul_lt_mul_right h6
      have h8 : (q + 1) * (d + 1) = (q + 1) * d + (q + 1) := by rw [Nat.mul_add, Nat.mul_one]
      have h9 : (q + 2) * d = (q + 1) * d + d := by rw [show q + 2 = (q + 1) + 1 by omega, Nat.add_mul, Nat.one_mul]
      omega
    omega

theorem segI_bounds {R : List Int} {i : Nat} : ∀ {k : Nat}, (∀ j, j < k → 0 ≤ R.getD (i + j) 0 ∧ R.getD (i + j) 0 < 16777216) → 0 ≤ segI R i k ∧ segI R i k < 16777216 ^ k
  | 0, _ => ⟨Int.le_refl 0, by show (0 : Int) < 1; omega⟩
  | k + 1, h => by
    obtain ⟨h1, h2⟩ := segI_bounds (k := k) (fun j hj => h j (by omega))
    obtain ⟨h3, h4⟩ := h k (by omega)
    rw [segI, Int.pow_succ]
    have hp : (0 : Int) < 16777216 ^ k := Int.pow_pos (by omega)
    generalize (16777216 : Int) ^ k = P at *
    generalize R.getD (i + k) 0 = r at *
    have h5 : 0 ≤ P * r := Int.mul_nonneg (by omega) h3
    have h6 : P * r ≤ P * 16777215 := Int.mul_le_mul_of_nonneg_left (by omega) (by omega)
    omega
/-- The top limb tells the sign. -/
theorem seg_top {S : List Int} {i n : Nat} {W : Int} (hd : ∀ j, j < n → 0 ≤ S.getD (i + j) 0 ∧ S.getD (i + j) 0 < 16777216) (e : segI S i (n + 1) = W) (h1 : -(16777216 ^ n) ≤ W) (h2 : W < 16777216 ^ n) :
    (W < 0 → S.getD (i + n) 0 = -1) ∧ (0 ≤ W → S.getD (i + n) 0 = 0) := by
  obtain ⟨b1, b2⟩ := segI_bounds hd
  rw [segI] at e
  have hp : (0 : Int) < 16777216 ^ n := Int.pow_pos (by omega)
  generalize (16777216 : Int) ^ n = P at *
  generalize S.getD (i + n) 0 = t at *
  generalize segI S i n = a at *
  have hm : ∀ k : Int, k + 1 ≤ t → P * (k + 1) ≤ P * t := fun k h => Int.mul_le_mul_of_nonneg_left h (by omega)
  have hm' : ∀ k : Int, t ≤ k → P * t ≤ P * k := fun k h => Int.mul_le_mul_of_nonneg_left h (by omega)
  constructor
  · intro hW
    rcases Int.lt_trichotomy t (-1) with h | h | h
    · have := hm' (-2) (by omega); omega
    · exact h
    · have := hm (-1) (by omega); omega
  · intro hW
    rcases Int.lt_trichotomy t 0 with h | h | h
    · have := hm' (-1) (by omega); omega
    · exact h
    · have := hm 0 (by omega); omega
/-- What a step knows of the rest and the divisor. -/
structure StepAt (R : List Int) (D : List Nat) (i : Nat) (V : Nat) : Prop where
  two : 2 ≤ D.length
  fits : i + D.length < R.length
  digs : ∀ j, j ≤ D.length → 0 ≤ R.getD (i + j) 0 ∧ R.getD (i + j) 0 < 16777216
  eq : segI R i (D.length + 1) = V
  lt : V < 16777216 * val D
  top : D.getD (D.length - 1) 0 ≠ 0
theorem stepAt_guess {R : List Int} {D : List Nat} {i V : Nat} (h : StepAt R D i V) (sD : Small D) {f s t d1 d0 : Nat}
    (hf : R.getD (i + D.length) 0 = (f : Int)) (hs : R.getD (i + D.length - 1) 0 = (s : Int)) (ht : R.getD (i + D.length - 2) 0 = (t : Int)) (hd1 : D.getD (D.length - 1) 0 = d1) (hd0 : D.getD (D.length - 2) 0 = d0) :
    V / val D ≤ (f * 281474976710656 + s * 16777216 + t) / (d1 * 16777216 + d0) ∧ (f * 281474976710656 + s * 16777216 + t) / (d1 * 16777216 + d0) ≤ V / val D + 1 ∧ V / val D < 16777216 ∧ 0 < val D := by
  obtain ⟨n, hn⟩ : ∃ n, D.length = n + 2 := ⟨D.length - 2, by have := h.two; omega⟩
  have htop := h.top
  rw [hd1] at htop
  have hdv : val D = val (D.take n) + 16777216 ^ n * d0 + 16777216 ^ (n + 1) * d1 := by
    have e1 := val_take_getD D n
    have e2 := val_take_getD D (n + 1)
    rw [show n + 1 + 1 = D.length by omega, List.take_length] at e2
    rw [show D.length - 1 = n + 1 by omega] at hd1
    rw [show D.length - 2 = n by omega] at hd0
    rw [hd1] at e2
    rw [hd0] at e1
    omega
  have hlow := val_lt (small_take sD n)
  rw [List.length_take, Nat.min_eq_left (by omega)] at hlow
  have hseg := h.eq
  rw [show D.length + 1 = n + 1 + 1 + 1 by omega, segI, segI, segI] at hseg
  rw [show i + D.length = i + (n + 2) by omega] at hf
  rw [show i + D.length - 1 = i + (n + 1) by omega] at hs
  rw [show i + D.length - 2 = i + n by omega] at ht
  rw [show i + (n + 1 + 1) = i + (n + 2) by omega, hf, hs, ht] at hseg
  obtain ⟨b1, b2⟩ := segI_bounds (R := R) (i := i) (k := n) (fun j hj => h.digs j (by omega))
  obtain ⟨z, hz⟩ := Int.eq_ofNat_of_zero_le b1
  rw [hz] at hseg b2
  have hpz : z < 16777216 ^ n := by
    have : ((16777216 ^ n : Nat) : Int) = (16777216 : Int) ^ n := cast_pow n
    omega
  have hV : V = (f * 281474976710656 + s * 16777216 + t) * 16777216 ^ n + z := by
    have : ((16777216 ^ n : Nat) : Int) = (16777216 : Int) ^ n := cast_pow n
    simp only [Int.pow_succ] at hseg
    rw [← this] at hseg
    obtain ⟨u, hu⟩ : ∃ u, u = f * 281474976710656 + s * 16777216 + t := ⟨_, rfl⟩
    have huI : (u : Int) = (f : Int) * 281474976710656 + (s : Int) * 16777216 + (t : Int) := by omega
    rw [← hu]
    have e3 : (V : Int) = ((u * 16777216 ^ n + z : Nat) : Int) := by
      rw [← hseg, Int.natCast_add, Int.natCast_mul, huI]
      generalize ((16777216 ^ n : Nat) : Int) = P
      grind
    exact Int.ofNat.inj e3
  have hD2 : val D = (d1 * 16777216 + d0) * 16777216 ^ n + val (D.take n) := by
    rw [hdv, Nat.pow_succ]
    generalize (16777216 : Nat) ^ n = P
    grind
  have hlt := h.lt
  obtain ⟨g1, g2⟩ := guess_bounds hV hpz hD2 hlow (by omega) hlt
  have hv0 : 0 < val D := by omega
  exact ⟨g1, g2, (Nat.div_lt_iff_lt_mul hv0).2 hlt, hv0⟩
/-! The whole division -/
theorem ofN_of {S : List Int} (h : ∀ j, j < S.length → 0 ≤ S.getD j 0 ∧ S.getD j 0 < 16777216) : ∃ L : List Nat, S = ofN L ∧ Small L := by
  refine ⟨S.map Int.toNat, ?_, ?_⟩
  · apply List.ext_getElem
    · simp [ofN]
    · intro i h1 h2
      have := h i h1
      simp [List.getD, List.getElem?_eq_getElem h1] at this
      simp [ofN]
      omega
  · intro i hi
    have hi' : i < S.length := by simpa using hi
    have := h i hi'
    simp [List.getD, List.getElem?_eq_getElem hi'] at this
    simp
    omega
theorem ofN_getD (L : List Nat) (j : Nat) : (ofN L).getD j 0 = ((L.getD j 0 : Nat) : Int) := by
  by_cases h : j < L.length
  · simp [ofN, List.getD, List.getElem?_eq_getElem h]
  · simp [ofN, List.getD, List.getElem?_eq_none (by omega : L.length ≤ j)]
theorem getD_drop' (L : List Nat) (i k : Nat) : (L.drop i).getD k 0 = L.getD (i + k) 0 := by
  simp [List.getD, List.getElem?_drop]
theorem segI_ofN (L : List Nat) (i : Nat) : ∀ k, segI (ofN L) i k = (val ((L.drop i).take k) : Int)
  | 0 => by rw [List.take_zero]; rfl
  | k + 1 => by
    rw [segI, segI_ofN L i k, val_take_getD, getD_drop', ofN_getD, Int.natCast_add, Int.natCast_mul, cast_pow]
structure DivInv (M : Nat) (D : List Nat) (lm : Nat) (R Q : List Nat) (i : Nat) : Prop where
  rl : R.length = lm + 1
  rs : Small R
  ql : Q.length = lm - D.length + 1
  qs : Small Q
  low : ∀ j, j < i → Q.getD j 0 = 0
  lt : val (R.drop i) < val D
  eq : val R + val D * val Q = M
theorem divInv_start {M : Nat} {D : List Nat} (hD : Norm D) (h2 : 2 ≤ D.length) (hl : D.length ≤ (dig M).length) :
    DivInv M D (dig M).length (dig M ++ [0]) (List.replicate ((dig M).length - D.length + 1) 0) ((dig M).length - D.length + 1) := by
  refine ⟨by simp, small_append (small_dig M) (small_cons (by omega) small_nil), by simp, small_zeros _, fun j hj => ?_, ?_, ?_⟩
  · simp [List.getD, hj]
  · have e : (dig M ++ [0]).drop ((dig M).length - D.length + 1) = (dig M).drop ((dig M).length - D.length + 1) ++ [0] := by
      rw [List.drop_append_of_le_length (by omega)]
    rw [e, val_append]
    have h3 := val_lt (small_drop (small_dig M) ((dig M).length - D.length + 1))
    have h4 := val_ge hD (by omega)
    rw [List.length_drop, show (dig M).length - ((dig M).length - D.length + 1) = D.length - 1 by omega] at h3
    simp [val]
    omega
  · rw [val_zeros, val_append, val_dig]
    simp [val]
theorem divInv_at {M : Nat} {D : List Nat} {lm : Nat} {R Q : List Nat} {i : Nat} (h : DivInv M D lm R Q (i + 1)) (hD : Norm D) (h2 : 2 ≤ D.length) (hl : D.length ≤ lm) (hi : i < Q.length) :
    StepAt (ofN R) D i (val (R.drop i)) ∧ val ((R.drop i).take (D.length + 1)) = val (R.drop i) ∧ val (R.drop (i + D.length + 1)) = 0 := by
  have hql := h.ql
  have hrl := h.rl
  have hiR : i < R.length := by omega
  have e1 := val_drop R i hiR
  have hx := h.rs i hiR
  have hlt := h.lt
  have hvd := val_lt hD.1
  have s1 := val_split (R.drop (i + 1)) D.length (by rw [List.length_drop]; omega)
  rw [List.drop_drop] at s1
  have hz : val (R.drop (i + 1 + D.length)) = 0 := by
    rcases Nat.eq_zero_or_pos (val (R.drop (i + 1 + D.length))) with h0 | h0
    · exact h0
    · have : 16777216 ^ D.length * 1 ≤ 16777216 ^ D.length * val (R.drop (i + 1 + D.length)) := Nat.mul_le_mul_left _ h0
      omega
  have s2 := val_split (R.drop i) (D.length + 1) (by rw [List.length_drop]; omega)
  rw [List.drop_drop] at s2
  have hz2 : val (R.drop (i + (D.length + 1))) = 0 := by rw [show i + (D.length + 1) = i + 1 + D.length by omega]; exact hz
  rw [hz2, Nat.mul_zero, Nat.add_zero] at s2
  refine ⟨⟨h2, by rw [ofN_length]; omega, fun j hj => ?_, ?_, by omega, ?_⟩, s2.symm, by rw [show i + D.length + 1 = i + 1 + D.length by omega]; exact hz⟩
  · rw [ofN_getD]
    have := getD_lt h.rs (i + j)
    omega
  · rw [segI_ofN, ← s2]
  · have := hD.2 (by omega)
    rwa [getD_of_lt (by omega)]
theorem divInv_step {M : Nat} {D : List Nat} {lm : Nat} {R Q R' : List Nat} {i : Nat} (h : DivInv M D lm R Q (i + 1)) (hD : Norm D) (h2 : 2 ≤ D.length) (hl : D.length ≤ lm) (hi : i < Q.length)
    (rs : Small R') (rl : R'.length = R.length) (same : ∀ j, (j < i ∨ i + D.length < j) → R'.getD j 0 = R.getD j 0) (hv : val ((R'.drop i).take (D.length + 1)) = val (R.drop i) % val D) :
    DivInv M D lm R' (Q.set i (val (R.drop i) / val D)) i := by
  obtain ⟨st, e1, hz⟩ := divInv_at h hD h2 hl hi
  have hql := h.ql
  have hrl := h.rl
  have hv0 : 0 < val D := by have := h.lt; omega
  have hq : val (R.drop i) / val D < 16777216 := (Nat.div_lt_iff_lt_mul hv0).2 st.lt
  have ext : ∀ {A B : List Nat}, A.length = B.length → (∀ j, j < A.length → A.getD j 0 = B.getD j 0) → A = B := fun {A B} hlen hh => by
    apply List.ext_getElem hlen
    intro j h1 h2
    have := hh j h1
    rwa [getD_of_lt h1, getD_of_lt h2] at this
  have t1 : R'.take i = R.take i := by
    refine ext (by simp [rl]) fun j hj => ?_
    have hj' : j < i := by rw [List.length_take] at hj; omega
    have := same j (.inl hj')
    simpa [List.getD, List.getElem?_take, hj'] using this
  have t2 : R'.drop (i + D.length + 1) = R.drop (i + D.length + 1) := by
    refine ext (by simp [rl]) fun j hj => ?_
    rw [getD_drop', getD_drop']
    exact same _ (.inr (by omega))
  have s3 := val_split (R'.drop i) (D.length + 1) (by rw [List.length_drop]; omega)
  rw [List.drop_drop, show i + (D.length + 1) = i + D.length + 1 by omega, t2, hz, Nat.mul_zero, Nat.add_zero, hv] at s3
  refine ⟨by omega, rs, by rw [List.length_set]; exact hql, small_set h.qs i hq, fun j hj => ?_, ?_, ?_⟩
  · have := h.low j (by omega)
    rwa [show (Q.set i (val (R.drop i) / val D)).getD j 0 = Q.getD j 0 by simp [List.getD, List.getElem?_set_ne (show i ≠ j by omega)]]
  · rw [s3]; exact Nat.mod_lt _ hv0
  · have u1 := val_split R' i (by omega)
    have u2 := val_split R i (by omega)
    have u3 := val_set (xs := Q) i hi (val (R.drop i) / val D)
    have hq0 := h.low i (by omega)
    rw [getD_of_lt hi] at hq0
    rw [hq0, Nat.mul_zero, Nat.add_zero] at u3
    rw [t1, s3] at u1
    have e := h.eq
    have e4 := Nat.div_add_mod (val (R.drop i)) (val D)
    rw [u1, u3, ← e, u2]
    generalize val (R.drop i) % val D = r at *
    generalize val (R.drop i) / val D = q at *
    rw [← e4]
    generalize val (R.take i) = a at *
    generalize 16777216 ^ i = P at *
    grind
theorem divInv_end {M : Nat} {D : List Nat} {lm : Nat} {R Q : List Nat} (h : DivInv M D lm R Q 0) : val Q = M / val D ∧ val R = M % val D := by
  have h1 := h.lt
  rw [List.drop_zero] at h1
  have e := h.eq
  rw [← e]
  constructor
  · rw [Nat.add_mul_div_left _ _ (by omega), Nat.div_eq_of_lt h1, Nat.zero_add]
  · rw [Nat.add_mul_mod_self_left, Nat.mod_eq_of_lt h1]

/-- The rest behind a step. -/
structure Stepped (R S : List Int) (D : List Nat) (i r : Nat) : Prop where
  len : S.length = R.length
  same : ∀ j, (j < i ∨ i + D.length < j) → S.getD j 0 = R.getD j 0
  digs : ∀ j, j ≤ D.length → 0 ≤ S.getD (i + j) 0 ∧ S.getD (i + j) 0 < 16777216
  eq : segI S i (D.length + 1) = r
theorem stepped_one {R S : List Int} {D : List Nat} {i V q : Nat} (sD : Small D) (hl : S.length = R.length) (hs : ∀ j, (j < i ∨ i + D.length < j) → S.getD j 0 = R.getD j 0) (hd : ∀ j, j < D.length → 0 ≤ S.getD (i + j) 0 ∧ S.getD (i + j) 0 < 16777216)
    (hR : segI R i (D.length + 1) = (V : Int)) (e : segI S i (D.length + 1) = segI R i (D.length + 1) - (q : Int) * (val D : Int)) (hq : V / val D ≤ q ∧ q ≤ V / val D + 1) (hv : 0 < val D) :
    (q = V / val D ∧ S.getD (i + D.length) 0 = 0 ∧ Stepped R S D i (V % val D)) ∨
    (q = V / val D + 1 ∧ S.getD (i + D.length) 0 = -1 ∧ segI S i (D.length + 1) = ((V % val D : Nat) : Int) - (val D : Int)) := by
  have hdm := Nat.div_add_mod V (val D)
  have hml := Nat.mod_lt V hv
  have hvl := val_lt sD
  have hvI : ((val D : Nat) : Int) < 16777216 ^ D.length := by rw [← cast_pow]; omega
  rw [hR] at e
  rcases (show q = V / val D ∨ q = V / val D + 1 by omega) with rfl | rfl
  · left
    have hW : segI S i (D.length + 1) = ((V % val D : Nat) : Int) := by
      rw [e, ← Int.natCast_mul, Nat.mul_comm]
      omega
    obtain ⟨_, h2⟩ := seg_top hd hW (by omega) (by omega)
    have h3 := h2 (by omega)
    refine ⟨rfl, h3, hl, hs, fun j hj => ?_, hW⟩
    by_cases hjd : j < D.length
    · exact hd j hjd
    · obtain rfl : j = D.length := by omega
      rw [h3]; omega
  · right
    have hW : segI S i (D.length + 1) = ((V % val D : Nat) : Int) - (val D : Int) := by
      rw [e, ← Int.natCast_mul, Nat.add_mul, Nat.one_mul, Nat.mul_comm]
      omega
    obtain ⟨h2, _⟩ := seg_top hd hW (by omega) (by omega)
    exact ⟨rfl, h2 (by omega), hW⟩
theorem stepped_two {R S T : List Int} {D : List Nat} {i r : Nat} (sD : Small D) (hl : S.length = R.length) (hs : ∀ j, (j < i ∨ i + D.length < j) → S.getD j 0 = R.getD j 0)
    (hT : T.length = S.length) (hs2 : ∀ j, (j < i ∨ i + D.length < j) → T.getD j 0 = S.getD j 0) (hd2 : ∀ j, j < D.length → 0 ≤ T.getD (i + j) 0 ∧ T.getD (i + j) 0 < 16777216)
    (hW : segI S i (D.length + 1) = (r : Int) - (val D : Int)) (e : segI T i (D.length + 1) = segI S i (D.length + 1) - (-1) * (val D : Int)) (hr : r < val D) : Stepped R T D i r := by
  have hvl := val_lt sD
  have hvI : ((val D : Nat) : Int) < 16777216 ^ D.length := by rw [← cast_pow]; omega
  have hW2 : segI T i (D.length + 1) = (r : Int) := by omega
  obtain ⟨_, h2⟩ := seg_top hd2 hW2 (by omega) (by omega)
  have h3 := h2 (by omega)
  refine ⟨by omega, fun j hj => (hs2 j hj).trans (hs j hj), fun j hj => ?_, hW2⟩
  by_cases hjd : j < D.length
  · exact hd2 j hjd
  · obtain rfl : j = D.length := by omega
    rw [h3]; omega
/-- The rest as numbers again. -/
theorem Stepped.nat {R : List Nat} {S : List Int} {D : List Nat} {i r : Nat} (h : Stepped (ofN R) S D i r) (rs : Small R) : ∃ R' : List Nat, S = ofN R' ∧ Small R' ∧ R'.length = R.length ∧ (∀ j, (j < i ∨ i + D.length < j) → R'.getD j 0 = R.getD j 0) ∧ val ((R'.drop i).take (D.length + 1)) = r := by
  obtain ⟨R', rfl, hs⟩ := ofN_of (S := S) (fun j hj => by
    by_cases h1 : i ≤ j ∧ j ≤ i + D.length
    · have := h.digs (j - i) (by omega)
      rwa [show i + (j - i) = j by omega] at this
    · rw [h.same j (by omega), ofN_getD]
      have := getD_lt rs j
      omega)
  have hl := h.len
  rw [ofN_length, ofN_length] at hl
  refine ⟨R', rfl, hs, hl, fun j hj => ?_, ?_⟩
  · have := h.same j hj
    rw [ofN_getD, ofN_getD] at this
    exact Int.ofNat.inj this
  · have := h.eq
    rw [segI_ofN] at this
    exact Int.ofNat.inj this

/-- Two slices of the call's own that share no memory. -/
def Apart (a b : Option Addr) (xs ys : List Int) : Prop := xs = [] ∨ ys = [] ∨ a ≠ b
/-- The call returned a quotient and a remainder. -/
def RetQR (q r : Nat) (w : World) (e : Ending) (w' : World) : Prop := ∃ a c a' c', e = .returned (.tuple #[.slice a (lim q).length c, .slice a' (lim r).length c']) ∧ (lim q).length ≤ c ∧ (lim r).length ≤ c' ∧ Own w' w.heap.size a (lim q) ∧ Own w' w.heap.size a' (lim r) ∧ Apart a a' (lim q) (lim r) ∧ Below w.heap.size w w'

theorem dig_one {n : Nat} (h : (dig n).length = 1) : n < 16777216 ∧ n ≠ 0 := by
  have h1 := dig_lt n
  rw [h] at h1
  refine ⟨by omega, ?_⟩
  rintro rfl
  rw [dig_zero] at h
  cases h
theorem OwnV.row1 {w : World} {lo : Nat} {v : Value} {xs : List Int} {z : Int} {n : Nat} (h : OwnV w lo v (xs ++ [z])) (hn : xs.length = n) : ∃ g c, v = .slice (some ⟨g, 0, none⟩) (n + 1) c ∧ n + 1 ≤ c ∧ c ≤ 9223372036854775807 ∧ lo ≤ g ∧ RowI w g (xs ++ [z]) := by
  obtain ⟨a, c, rfl, h1, h2, h3⟩ := h.parts
  rcases h3 with h3 | ⟨g, rfl, hg, hr⟩
  · simp at h3
  · exact ⟨g, c, by simp [hn], by simpa [hn] using h1, h2, hg, hr⟩
theorem ints_unique {w : World} {B B' : Nat} {a : Option Addr} {xs ys : List Int} (h : Ints w B a xs) (k : Ints w B' a ys) (hl : xs.length = ys.length) : xs = ys := by
  refine List.ext_getElem hl fun i h1 h2 => ?_
  obtain ⟨c, o, rfl, _, hx⟩ := h i h1
  obtain ⟨c', o', e, _, hy⟩ := k i h2
  cases e
  rw [hx] at hy
  injection hy with hy
  injection hy with _ hy
/-- The number whose limbs a slice holds. -/
noncomputable def magAt (v : Value) (w : World) : Nat :=
  @dite _ (∃ (y : Nat) (a : Option Addr) (c B : Nat), v = .slice a (lim y).length c ∧ Ints w B a (lim y)) (Classical.propDecidable _) (fun h => Classical.choose h) (fun _ => 0)
theorem magAt_eq {w : World} {y : Nat} {a : Option Addr} {c B : Nat} (h : Ints w B a (lim y)) : magAt (.slice a (lim y).length c) w = y := by
  have hex : ∃ (z : Nat) (a' : Option Addr) (c' B : Nat), Value.slice a (lim y).length c = .slice a' (lim z).length c' ∧ Ints w B a' (lim z) := ⟨y, a, c, B, rfl, h⟩
  unfold magAt
  rw [dif_pos hex]
  obtain ⟨a', c', B', he, h'⟩ := Classical.choose_spec hex
  obtain ⟨z, hz⟩ : ∃ z, z = Classical.choose hex := ⟨_, rfl⟩
  rw [← hz] at he h' ⊢
  injection he with e1 e2 e3
  subst e1
  exact lim_inj (ints_unique h' h e2.symm)

end Go.Proofs.Ytiohacnkiikmcaa
