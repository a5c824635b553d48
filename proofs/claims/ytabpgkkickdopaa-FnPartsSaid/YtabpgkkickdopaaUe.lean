/-
  Contracts: IntegerOf of the program. Conditions: the limbs can be read. Contracts: magnitudes divided by a part. Conditions: the limbs can be read. Contracts: integers as whole numbers, of the program and of the model. No conditions.
-/
import Derived.Test.YtabpgkkickdopaaUd
import Derived.Test.YtabpgkkickdopaaMt
import Derived.Lib.ItoaNum
import Derived.Laws.BitsAllLaws
namespace Go.Proofs.Ytabpgkkickdopaa
set_option linter.unusedVariables false
open Go Go.RowKit

theorem bit_bounds {x : Nat} (h : x < 16777216) (h0 : x ≠ 0) : 1 ≤ Lib.bitLen x ∧ 2 ^ (Lib.bitLen x - 1) ≤ x ∧ x < 2 ^ Lib.bitLen x :=
  Lib.bitLenAux_bounds 64 x (by omega) h0
theorem last_bounds {n : Nat} (h : n ≠ 0) : 16777216 ^ ((dig n).length - 1) * (dig n).getD ((dig n).length - 1) 0 ≤ n ∧ n < 16777216 ^ ((dig n).length - 1) * ((dig n).getD ((dig n).length - 1) 0 + 1) := by
  have hp := dig_length_pos h
  have h1 := val_take_getD (dig n) ((dig n).length - 1)
  rw [show (dig n).length - 1 + 1 = (dig n).length by omega, List.take_length, val_dig] at h1
  have h2 : val ((dig n).take ((dig n).length - 1)) < 16777216 ^ ((dig n).take ((dig n).length - 1)).length := val_lt (small_take (small_dig n) _)
  rw [List.length_take, show min ((dig n).length - 1) (dig n).length = (dig n).length - 1 by omega] at h2
  rw [Nat.mul_add]
  omega
theorem blen_64 {n : Nat} : blen n ≤ 64 ↔ n < 18446744073709551616 := by
  by_cases h : n = 0
  · subst h; simp [blen]
  have hp := dig_length_pos h
  obtain ⟨h1, h2⟩ := last_bounds h
  rw [blen_pos h]
  have hlast : (dig n).getD ((dig n).length - 1) 0 < 16777216 := getD_lt (small_dig n) _
  have hne : (dig n).getD ((dig n).length - 1) 0 ≠ 0 := by
    rw [getD_of_lt (by omega : (dig n).length - 1 < (dig n).length)]
    exact (norm_dig n).2 hp
  obtain ⟨b1, b2, b3⟩ := bit_bounds hlast hne
  generalize (dig n).getD ((dig n).length - 1) 0 = d at *
  obtain ⟨q, hq⟩ : ∃ q, q = Lib.bitLen d := ⟨_, rfl⟩
  rw [← hq] at b1 b2 b3 ⊢
  obtain ⟨l, hl⟩ : ∃ l, l = (dig n).length - 1 := ⟨_, rfl⟩
  rw [← hl] at h1 h2
  have e1 : (16777216 : Nat) ^ l = 2 ^ (24 * l) := by rw [Nat.pow_mul]
  rw [e1] at h1 h2
  constructor
  · intro hle
    have h3 : 2 ^ (24 * l) * (d + 1) ≤ 2 ^ (24 * l) * 2 ^ q := Nat.mul_le_mul_left _ b3
    rw [← Nat.pow_add] at h3
    have h4 : 2 ^ (24 * l + q) ≤ 2 ^ 64 := Nat.pow_le_pow_right (by omega) (by omega)
    omega
  · intro hlt
    rcases Int.lt_or_le 64 (24 * (((dig n).length : Int) - 1) + (q : Int)) with hgt | hle
    · exfalso
      have h3 : 2 ^ (24 * l) * 2 ^ (q - 1) ≤ 2 ^ (24 * l) * d := Nat.mul_le_mul_left _ b2
      rw [← Nat.pow_add] at h3
      have h4 : 2 ^ 64 ≤ 2 ^ (24 * l + (q - 1)) := Nat.pow_le_pow_right (by omega) (by omega)
      omega
    · exact hle
theorem len_64 {n : Nat} (h : n < 18446744073709551616) : (dig n).length ≤ 3 := dig_length_le (Nat.lt_of_lt_of_le h (by decide))

theorem or_add (v x : Nat) (i : Nat) (hv : v < 2 ^ i) (hx : v + x * 2 ^ i < 18446744073709551616) : bits .or .u64 (v : Int) ((x * 2 ^ i : Nat) : Int) = ((v + x * 2 ^ i : Nat) : Int) := by
  rw [u64_or_nat v (x * 2 ^ i) (by omega) (by omega)]
  have := Nat.shiftLeft_add_eq_or_of_lt hv x
  rw [Nat.shiftLeft_eq, Nat.or_comm] at this
  rw [← this, Nat.add_comm]

noncomputable def intR (s : Int) (xs : List Int) : Int × Int := @ite _ (IsWh s xs) (Classical.propDecidable _) (if -9223372036854775808 ≤ wv s xs ∧ wv s xs ≤ 9223372036854775807 then (wv s xs, 0) else (0, 3)) (0, 1)
theorem intR_yes {s : Int} {xs : List Int} (h : IsWh s xs) (k : -9223372036854775808 ≤ wv s xs ∧ wv s xs ≤ 9223372036854775807) : intR s xs = (wv s xs, 0) := by unfold intR; rw [if_pos h, if_pos k]
theorem intR_lim {s : Int} {xs : List Int} (h : IsWh s xs) (k : ¬ (-9223372036854775808 ≤ wv s xs ∧ wv s xs ≤ 9223372036854775807)) : intR s xs = (0, 3) := by unfold intR; rw [if_pos h, if_neg k]
theorem intR_no {s : Int} {xs : List Int} (h : ¬ IsWh s xs) : intR s xs = (0, 1) := by unfold intR; rw [if_neg h]

theorem val_take_le (xs : List Nat) (n : Nat) : val (xs.take n) ≤ val xs := by
  have h := congrArg val (List.take_append_drop n xs)
  rw [val_append] at h
  omega
theorem sg_64 {s : Int} {m : Nat} (h : Sg s m) (hm : m < 18446744073709551616) (k : ¬ (-9223372036854775808 ≤ s * (m : Int) ∧ s * (m : Int) ≤ 9223372036854775807)) :
    (s = 1 ∧ 9223372036854775808 ≤ m) ∨ (s = -1 ∧ 9223372036854775808 < m) := by
  unfold Sg at h
  rcases h with ⟨rfl, rfl⟩ | ⟨_, rfl | rfl⟩
  · simp at k
  · left; omega
  · right; omega
theorem sg_big {s : Int} {m : Nat} (h : Sg s m) (hm : ¬ m < 18446744073709551616) : ¬ (-9223372036854775808 ≤ s * (m : Int) ∧ s * (m : Int) ≤ 9223372036854775807) := by
  unfold Sg at h
  rcases h with ⟨rfl, rfl⟩ | ⟨_, rfl | rfl⟩ <;> omega

theorem or_0 (v x : Nat) (hv : v < 1) (hx : x < 18446744073709551616) : bits .or .u64 (v : Int) (x : Int) = ((v + 16777216 ^ 0 * x : Nat) : Int) := by
  obtain rfl : v = 0 := by omega
  have := or_add 0 x 0 (by omega) (by omega)
  simpa using this
theorem or_1 (v x : Nat) (hv : v < 16777216) (hx : x < 16777216) : bits .or .u64 (v : Int) (IntKind.u64.wrap ((x : Int) * 16777216)) = ((v + 16777216 ^ 1 * x : Nat) : Int) := by
  have h := or_add v x 24 (by omega) (by omega)
  have e : IntKind.u64.wrap ((x : Int) * 16777216) = ((x * 2 ^ 24 : Nat) : Int) := by rw [IntKind.wrap_u64]; omega
  rw [e, h]
  congr 1
  omega
theorem or_2 (v x : Nat) (hv : v < 281474976710656) (hx : v + 281474976710656 * x < 18446744073709551616) : bits .or .u64 (v : Int) (IntKind.u64.wrap ((x : Int) * 281474976710656)) = ((v + 16777216 ^ 2 * x : Nat) : Int) := by
  have h := or_add v x 48 (by omega) (by omega)
  have e : IntKind.u64.wrap ((x : Int) * 281474976710656) = ((x * 2 ^ 48 : Nat) : Int) := by rw [IntKind.wrap_u64]; omega
  rw [e, h]
  congr 1
  omega
theorem int_key {s : Int} {m : Nat} (h : Sg s m) (hm : m < 18446744073709551616) : ∃ n c : Int, wrap64 (wrap64 (m : Int) * s) = n ∧ cmpZ n 0 = c ∧
    (((-9223372036854775808 ≤ s * (m : Int) ∧ s * (m : Int) ≤ 9223372036854775807) ∧ n = s * (m : Int) ∧ (c != s) = false) ∨ (¬ (-9223372036854775808 ≤ s * (m : Int) ∧ s * (m : Int) ≤ 9223372036854775807) ∧ (c != s) = true)) := by
  by_cases hin : -9223372036854775808 ≤ s * (m : Int) ∧ s * (m : Int) ≤ 9223372036854775807
  · refine ⟨s * m, s, ?_, ?_, .inl ⟨hin, rfl, by simp⟩⟩
    · unfold Sg at h
      rcases h with ⟨rfl, rfl⟩ | ⟨_, rfl | rfl⟩
      · simp [wrap64]
      · unfold wrap64; omega
      · unfold wrap64; omega
    · unfold Sg at h
      rcases h with ⟨rfl, rfl⟩ | ⟨_, rfl | rfl⟩
      · simp [cmpZ]
      · exact cmpZ_gt (by omega)
      · exact cmpZ_lt (by omega)
  · rcases sg_64 h hm hin with ⟨rfl, h1⟩ | ⟨rfl, h1⟩
    · refine ⟨(m : Int) - 18446744073709551616, -1, ?_, cmpZ_lt (by omega), .inr ⟨hin, by decide⟩⟩
      unfold wrap64; omega
    · refine ⟨18446744073709551616 - (m : Int), 1, ?_, cmpZ_gt (by omega), .inr ⟨hin, by decide⟩⟩
      unfold wrap64; omega

theorem i64_or_nat (a b : Nat) (ha : a < 9223372036854775808) (hb : b < 9223372036854775808) : bits .or .i64 (a : Int) (b : Int) = ((a ||| b : Nat) : Int) := by
  have hx : a ||| b < 2 ^ 63 := Nat.or_lt_two_pow (by omega) (by omega)
  show IntKind.i64.wrap ((BitVec.ofInt 64 (a : Int) ||| BitVec.ofInt 64 (b : Int)).toNat : Int) = _
  rw [BitVec.toNat_or, ofInt_u64 a (by omega), ofInt_u64 b (by omega), IntKind.wrap_i64]
  omega
theorem i64_or_add (x r : Nat) (hx : x < 16777216) (hr : r < 274877906944) : bits .or .i64 ((r : Int) * 16777216) (x : Int) = ((r * 16777216 + x : Nat) : Int) := by
  have h := i64_or_nat (r * 16777216) x (by omega) (by omega)
  have e : ((r * 16777216 : Nat) : Int) = (r : Int) * 16777216 := by omega
  rw [e] at h
  rw [h]
  have := Nat.shiftLeft_add_eq_or_of_lt (show x < 2 ^ 24 from hx) r
  rw [Nat.shiftLeft_eq] at this
  rw [this]

structure PartInv (L : List Nat) (p : Nat) (Q : List Nat) (k r : Nat) : Prop where
  len : Q.length = L.length
  small : Small Q
  rest : r < p
  eq : val (L.drop k) = p * val (Q.drop k) + r
theorem partInv_start (L : List Nat) {p : Nat} (hp : 0 < p) : PartInv L p (List.replicate L.length 0) L.length 0 :=
  ⟨by simp, fun i hi => by simp, hp, by simp [val]⟩
theorem partInv_step {L Q : List Nat} {p k r : Nat} (h : PartInv L p Q (k + 1) r) (hk : k < L.length) (hL : Small L) :
    PartInv L p (Q.set k ((r * 16777216 + L[k]) / p)) k ((r * 16777216 + L[k]) % p) ∧ (r * 16777216 + L[k]) / p < 16777216 := by
  have hx := hL k hk
  have hr := h.rest
  have hp : 0 < p := by omega
  have hq : (r * 16777216 + L[k]) / p < 16777216 := by
    rw [Nat.div_lt_iff_lt_mul hp]
    have h1 : (r + 1) * 16777216 ≤ p * 16777216 := Nat.mul_le_mul_right _ hr
    rw [Nat.mul_comm 16777216 p]
    omega
  have hkQ : k < Q.length := by rw [h.len]; exact hk
  refine ⟨⟨by simp [h.len], fun i hi => ?_, Nat.mod_lt _ hp, ?_⟩, hq⟩
  · rw [List.getElem_set]
    split
    · exact hq
    · exact h.small i (by simpa using hi)
  · rw [val_drop L k hk, val_drop (Q.set k _) k (by simpa using hkQ), List.getElem_set_self, List.drop_set_of_lt (by omega), h.eq]
    have h1 := Nat.div_add_mod (r * 16777216 + L[k]) p
    generalize (r * 16777216 + L[k]) / p = q at *
    generalize (r * 16777216 + L[k]) % p = t at *
    generalize val (Q.drop (k + 1)) = v at *
    grind
theorem partInv_end {L Q : List Nat} {p r : Nat} (h : PartInv L p Q 0 r) : val Q = val L / p ∧ r = val L % p := by
  have h1 := h.eq
  rw [List.drop_zero, List.drop_zero] at h1
  have hr := h.rest
  rw [h1]
  constructor
  · rw [Nat.mul_add_div (by omega), Nat.div_eq_of_lt hr]; omega
  · rw [Nat.mul_add_mod, Nat.mod_eq_of_lt hr]

theorem u64_mask24 (v : Nat) (h : v < 18446744073709551616) : bits .and .u64 (v : Int) 16777215 = ((v % 16777216 : Nat) : Int) := by
  have := u64_and_nat v 16777215 h (by decide)
  rw [nat_mask24] at this
  exact this
theorem dig_small {n : Nat} (h : n < 18446744073709551616) : (dig n).length ≤ 3 := dig_length_le (Nat.lt_of_lt_of_le h (by decide))

end Go.Proofs.Ytabpgkkickdopaa
