/-
  Plain facts on floats: sums and products commute, a difference is a sum with the opposite, a float by itself is 1. No conditions.
-/
import Derived.Test.YtpchcigpppdfiaaFl
namespace Go.Proofs.Ytpchcigpppdfiaa
set_option linter.unusedVariables false
open Go

theorem sum_comm (a b : Ieee.Datum) : a.sum b = b.sum a := by
  cases a <;> cases b <;> simp only [Ieee.Datum.sum]
  · rename_i s m i t n j
    rw [Int.min_comm j i, Int.add_comm (Ieee.signed t _ _), Bool.and_comm t s]
  · rename_i s t
    by_cases h : s = t
    · subst h; simp
    · rw [if_neg h, if_neg (fun e => h e.symm)]
theorem product_comm (a b : Ieee.Datum) : a.product b = b.product a := by
  cases a <;> cases b <;> simp only [Ieee.Datum.product]
  · rename_i s m i t n j
    rw [Bool.xor_comm t s, Nat.mul_comm n m, Int.add_comm j i]
  · rename_i s t; rw [Bool.xor_comm]
theorem cf_add_comm (k : FloatKind) (x y : Nat) : cf .add k x y = cf .add k y x := by
  simp only [cf, floatBits, Ieee.Format.add, sum_comm (k.format.read x)]
theorem cf_mul_comm (k : FloatKind) (x y : Nat) : cf .mul k x y = cf .mul k y x := by
  simp only [cf, floatBits, Ieee.Format.mul, product_comm (k.format.read x)]

theorem both_comm (a b c d : Nat) (r : Nat × Nat × Int) : both a b c d r = both c d a b r := by
  unfold both
  by_cases h : finC a b = true ∧ finC c d = true
  · rw [if_pos h, if_pos h.symm]
  · rw [if_neg h, if_neg (fun e => h e.symm)]
theorem addR_comm (a b c d : Nat) : addR a b c d = addR c d a b := by
  unfold addR; rw [both_comm, cf_add_comm _ a c, cf_add_comm _ b d]
theorem mulR_comm (a b c d : Nat) : mulR a b c d = mulR c d a b := by
  unfold mulR mRe mIm
  rw [both_comm, cf_mul_comm _ a c, cf_mul_comm _ b d, cf_mul_comm _ a d, cf_mul_comm _ b c, cf_add_comm _ (cf .mul .f64 d a)]

theorem xor_high (x n : Nat) : (x ^^^ 2 ^ n) % 2 ^ n = x % 2 ^ n ∧ ((x ^^^ 2 ^ n) / 2 ^ n) % 2 = 1 - x / 2 ^ n % 2 := by
  constructor
  · rw [Nat.xor_mod_two_pow, Nat.mod_self, Nat.xor_zero]
  · have h : (x ^^^ 2 ^ n) / 2 ^ n = (x / 2 ^ n) ^^^ 1 := by
      rw [← Nat.shiftRight_eq_div_pow, Nat.shiftRight_xor_distrib, Nat.shiftRight_eq_div_pow, Nat.shiftRight_eq_div_pow, Nat.div_self (Nat.two_pow_pos n)]
    have h2 : (x / 2 ^ n ^^^ 1) % 2 ^ 1 = _ := Nat.xor_mod_two_pow
    rw [h]
    have h3 : (x / 2 ^ n ^^^ 1) % 2 = (x / 2 ^ n % 2) ^^^ 1 := h2
    rw [h3]
    rcases Nat.mod_two_eq_zero_or_one (x / 2 ^ n) with h4 | h4 <;> rw [h4] <;> rfl
theorem read_neg (x : Nat) : FloatKind.f64.format.read (Op.negFloat .f64 x) = (FloatKind.f64.format.read x).opposite := by
  have e1 : FloatKind.f64.format.signWeight = 2 ^ 63 := by decide
  have e2 : (2 : Nat) ^ (FloatKind.f64.format.exponentBits + FloatKind.f64.format.fractionBits) = 2 ^ 63 := by decide
  obtain ⟨h1, h2⟩ := xor_high x 63
  simp only [Ieee.Format.read, Op.negFloat, e1, e2, h1]
  have h3 : ((x ^^^ 2 ^ 63) / 2 ^ 63 % 2 == 1) = !(x / 2 ^ 63 % 2 == 1) := by
    rw [h2]
    rcases Nat.mod_two_eq_zero_or_one (x / 2 ^ 63) with h | h <;> rw [h] <;> rfl
  rw [h3]
  split
  · rfl
  · split
    · rfl
    · split <;> rfl
theorem isF_neg (x : Nat) : isF .f64 (Op.negFloat .f64 x) = isF .f64 x := by
  unfold isF
  rw [read_neg]
  cases FloatKind.f64.format.read x <;> rfl
theorem sub_neg (x y : Nat) : cf .sub .f64 x y = cf .add .f64 x (Op.negFloat .f64 y) := by
  simp only [cf, floatBits, Ieee.Format.sub, Ieee.Format.add, read_neg]
theorem subR_neg (a b c d : Nat) : subR a b c d = addR a b (Op.negFloat .f64 c) (Op.negFloat .f64 d) := by
  unfold subR addR both finC
  rw [isF_neg, isF_neg, sub_neg, sub_neg]

theorem addR_fin (a b c d : Nat) : finC (addR a b c d).1 (addR a b c d).2.1 = true := both_fin (lim_fin _ _)
theorem subR_fin (a b c d : Nat) : finC (subR a b c d).1 (subR a b c d).2.1 = true := both_fin (lim_fin _ _)
theorem mulR_fin (a b c d : Nat) : finC (mulR a b c d).1 (mulR a b c d).2.1 = true := both_fin (lim_fin _ _)
theorem quoR_fin (a b c d : Nat) : finC (quoR a b c d).1 (quoR a b c d).2.1 = true := by
  refine both_fin ?_
  split
  · unfold finC; rw [isF_zero]; rfl
  · exact lim_fin _ _

/-- What is finite and no zero, divided by itself, is 1. -/
theorem self_one {x : Nat} (h : isN .f64 (cf .quo .f64 x x) = false) : cf .quo .f64 x x = 4607182418800017408 := by
  cases e : FloatKind.f64.format.read x with
  | nan s f =>
    have : cf .quo .f64 x x = qn .f64 := by simp only [cf, floatBits, Ieee.Format.div, e, Ieee.Datum.quotient]; rfl
    rw [this, isN_qn] at h; cases h
  | infinity s =>
    have : cf .quo .f64 x x = qn .f64 := by simp only [cf, floatBits, Ieee.Format.div, e, Ieee.Datum.quotient]; rfl
    rw [this, isN_qn] at h; cases h
  | number s m i =>
    by_cases hm : m = 0
    · subst hm
      have : cf .quo .f64 x x = qn .f64 := by simp only [cf, floatBits, Ieee.Format.div, e, Ieee.Datum.quotient, if_true]; rfl
      rw [this, isN_qn] at h; cases h
    · have hq : (Ieee.Datum.number s m i).quotient 54 (.number s m i) = some (.number false (2 ^ 55) (-55)) := by
        simp only [Ieee.Datum.quotient, if_neg hm]
        have h1 : 54 + m.log2 - m.log2 = 54 := by omega
        have h2 : m <<< 54 / m = 2 ^ 54 := by
          rw [Nat.shiftLeft_eq, Nat.mul_comm, Nat.mul_div_cancel _ (by omega)]
        have h3 : m <<< 54 % m = 0 := by rw [Nat.shiftLeft_eq]; exact Nat.mul_mod_right _ _
        rw [h1, h2, h3]
        cases s <;> simp <;> omega
      simp only [cf, floatBits, Ieee.Format.div, e]
      show (((Ieee.Datum.number s m i).quotient 54 (.number s m i)).map FloatKind.f64.format.write).getD (qn .f64) = _
      rw [hq]
      decide +kernel

theorem qParts_self (a b : Nat) : ∃ D, (qParts a b a b).1 = cf .quo .f64 D D := by
  by_cases h : absGe a b = true
  · refine ⟨cf .add .f64 a (cf .mul .f64 (cf .quo .f64 b a) b), ?_⟩
    unfold qParts
    rw [if_pos h]
    show cf .quo .f64 (cf .add .f64 a (cf .mul .f64 b (cf .quo .f64 b a))) _ = _
    rw [cf_mul_comm _ b]
  · refine ⟨cf .add .f64 b (cf .mul .f64 (cf .quo .f64 a b) a), ?_⟩
    unfold qParts
    rw [if_neg h]
    show cf .quo .f64 (cf .add .f64 (cf .mul .f64 a (cf .quo .f64 a b)) b) _ = _
    rw [cf_mul_comm _ a, cf_add_comm _ _ b]
theorem quo_self (a b : Nat) : (quoR a b a b).2.2 ≠ 0 ∨ (quoR a b a b).1 = 4607182418800017408 := by
  unfold quoR
  cases h : finC a b
  · rw [both_no1 h]; exact .inl (by decide)
  · rw [both_yes h h]
    cases hz : isZ a b
    · rw [if_neg (by decide)]
      cases hl : finC (qParts a b a b).1 (qParts a b a b).2
      · rw [lim_no hl]; exact .inl (by decide)
      · rw [lim_yes hl]
        right
        have hn := isF_not_isN (finC_split hl).1
        show (qParts a b a b).1 = _
        obtain ⟨D, hD⟩ := qParts_self a b
        rw [hD] at hn ⊢
        exact self_one hn
    · rw [if_pos rfl]; exact .inl (by decide)
end Go.Proofs.Ytpchcigpppdfiaa
