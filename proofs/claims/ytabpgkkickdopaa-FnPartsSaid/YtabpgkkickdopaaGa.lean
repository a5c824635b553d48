/-
  Rounding to a float: it depends on the value alone, keeps the order, and leaves what a float has as it is. Plain facts on 'Ieee'. No conditions. Plain facts on floats: sums and products commute, a difference is a sum with the opposite, a float by itself is 1. No conditions. Words of float64 and their rungs: reading a word, the order of words, sizes. Plain facts. No conditions. Floats as whole numbers times powers of two: products, halves, cutting to an integer, order, all by value. Plain facts. No conditions. The bits of a float64: its fields cleared and set; rounding to 53 bits; a float32 made wide. Plain facts. No conditions. Sums of floats by value; doubling and halving again and again, past the greatest float too. Plain facts. No conditions. Contracts of the library at finite floats: normalize, Frexp. No conditions. Contracts of the library at finite floats: Frexp, Copysign, Ldexp where the result is exact. No conditions.
-/
import Derived.Laws.FloatBits
import Derived.Test.YtabpgkkickdopaaFl
import Derived.Test.YtabpgkkickdopaaWa
namespace Go.Proofs.Ytabpgkkickdopaa
set_option linter.unusedVariables false
open Go Go.RowKit

open Ieee

/-- n / 2^d, rounded to nearest, ties to even. -/
def rne (n d : Nat) : Nat := n / 2 ^ d + if 2 ^ d < 2 * (n % 2 ^ d) ∨ (2 ^ d = 2 * (n % 2 ^ d) ∧ n / 2 ^ d % 2 = 1) then 1 else 0

theorem rne_zero_of_small {n d : Nat} (h : 2 * n < 2 ^ d) : rne n d = 0 := by
  unfold rne
  have h1 : n < 2 ^ d := by omega
  rw [Nat.div_eq_of_lt h1, Nat.mod_eq_of_lt h1]
  rw [if_neg (by omega)]

theorem cut_gap (s : Bool) (n drop : Nat) : Toward.even.cut s n drop = rne n (min drop (n.log2 + 2)) := by
  unfold Toward.cut rne
  simp only [Nat.shiftLeft_eq, Nat.one_mul]
  congr 1
  by_cases h : 2 ^ min drop (n.log2 + 2) < 2 * (n % 2 ^ min drop (n.log2 + 2)) ∨ (2 ^ min drop (n.log2 + 2) = 2 * (n % 2 ^ min drop (n.log2 + 2)) ∧ n / 2 ^ min drop (n.log2 + 2) % 2 = 1)
  · rw [if_pos h]
    have : (decide (2 ^ min drop (n.log2 + 2) < 2 * (n % 2 ^ min drop (n.log2 + 2))) || (2 ^ min drop (n.log2 + 2) == 2 * (n % 2 ^ min drop (n.log2 + 2)) && n / 2 ^ min drop (n.log2 + 2) % 2 == 1)) = true := by
      simpa using h
    rw [this]; rfl
  · rw [if_neg h]
    have : (decide (2 ^ min drop (n.log2 + 2) < 2 * (n % 2 ^ min drop (n.log2 + 2))) || (2 ^ min drop (n.log2 + 2) == 2 * (n % 2 ^ min drop (n.log2 + 2)) && n / 2 ^ min drop (n.log2 + 2) % 2 == 1)) = false := by
      rw [Bool.eq_false_iff]
      intro hh
      exact h (by simpa using hh)
    rw [this]; rfl

theorem lt_two_log (n : Nat) : n < 2 ^ (n.log2 + 1) := Nat.lt_log2_self
theorem log_le {n : Nat} (h : n ≠ 0) : 2 ^ n.log2 ≤ n := Nat.log2_self_le h

theorem cut_rne (s : Bool) (n drop : Nat) : Toward.even.cut s n drop = rne n drop := by
  rw [cut_gap]
  by_cases h : drop ≤ n.log2 + 2
  · rw [Nat.min_eq_left h]
  · rw [Nat.min_eq_right (by omega)]
    have h1 := lt_two_log n
    have h2 : 2 ^ (n.log2 + 2) = 2 * 2 ^ (n.log2 + 1) := by rw [Nat.pow_succ]; omega
    have h3 : 2 ^ (n.log2 + 2) ≤ 2 ^ drop := Nat.pow_le_pow_right (by omega) (by omega)
    rw [rne_zero_of_small (by omega), rne_zero_of_small (by omega)]

theorem rne_scale (n d k : Nat) : rne (n * 2 ^ k) (d + k) = rne n d := by
  unfold rne
  have hk : 0 < 2 ^ k := Nat.two_pow_pos k
  have e1 : n * 2 ^ k / 2 ^ (d + k) = n / 2 ^ d := by
    rw [Nat.pow_add, Nat.mul_div_mul_right _ _ hk]
  have e2 : n * 2 ^ k % 2 ^ (d + k) = (n % 2 ^ d) * 2 ^ k := by
    rw [Nat.pow_add, Nat.mul_mod_mul_right]
  rw [e1, e2, Nat.pow_add]
  have i1 : (2 ^ d * 2 ^ k < 2 * (n % 2 ^ d * 2 ^ k)) ↔ (2 ^ d < 2 * (n % 2 ^ d)) := by
    rw [← Nat.mul_assoc]; exact Nat.mul_lt_mul_right hk
  have i2 : (2 ^ d * 2 ^ k = 2 * (n % 2 ^ d * 2 ^ k)) ↔ (2 ^ d = 2 * (n % 2 ^ d)) := by
    rw [← Nat.mul_assoc]; exact Nat.mul_left_inj (by omega)
  simp only [i1, i2]

theorem rne_exact (n d : Nat) : rne (n * 2 ^ d) d = n := by
  unfold rne
  have hd : 0 < 2 ^ d := Nat.two_pow_pos d
  rw [Nat.mul_div_cancel _ hd, Nat.mul_mod_left, if_neg (by omega)]
  rfl

theorem rne_lo (n d : Nat) : n / 2 ^ d ≤ rne n d := by unfold rne; omega
theorem rne_hi (n d : Nat) : rne n d ≤ n / 2 ^ d + 1 := by unfold rne; split <;> omega

theorem rne_mono {n n' : Nat} (h : n ≤ n') (d : Nat) : rne n d ≤ rne n' d := by
  have hd : 0 < 2 ^ d := Nat.two_pow_pos d
  have hq : n / 2 ^ d ≤ n' / 2 ^ d := Nat.div_le_div_right h
  by_cases e : n / 2 ^ d = n' / 2 ^ d
  · have h1 := Nat.div_add_mod n (2 ^ d)
    have h2 := Nat.div_add_mod n' (2 ^ d)
    unfold rne
    rw [← e] at h2 ⊢
    have hr : n % 2 ^ d ≤ n' % 2 ^ d := by omega
    generalize n % 2 ^ d = r at *
    generalize n' % 2 ^ d = r' at *
    generalize 2 ^ d = p at *
    split <;> split <;> omega
  · have := rne_hi n d
    have := rne_lo n' d
    omega

section
variable (f : Format)

/-- The rung of a magnitude, before infinity cuts it off. -/
def rawRung (mag : Nat) (place : Int) : Nat :=
  if mag = 0 then 0 else
  let last := max (place + mag.log2 - f.fractionBits) f.leastPlace
  (last - f.leastPlace).toNat * f.binade + Toward.even.cut false (mag <<< (place - last).toNat) (last - place).toNat

theorem nearest_eq (s : Bool) (mag : Nat) (place : Int) : f.nearest s mag place = f.word s (min (rawRung f mag place) f.infRung) := by
  unfold Format.nearest rawRung
  by_cases h : mag = 0
  · rw [if_pos h, if_pos h, Nat.min_eq_left (Nat.zero_le _)]
  · rw [if_neg h, if_neg h]
    simp only [cut_rne]

theorem log2_shift {m : Nat} (h : m ≠ 0) (k : Nat) : (m * 2 ^ k).log2 = m.log2 + k := by
  have hk : 0 < 2 ^ k := Nat.two_pow_pos k
  have h1 := log_le h
  have h2 := lt_two_log m
  have hm : m * 2 ^ k ≠ 0 := by
    have := Nat.mul_pos (Nat.pos_of_ne_zero h) hk
    omega
  rw [Nat.log2_eq_iff hm]
  constructor
  · rw [Nat.pow_add]; exact Nat.mul_le_mul_right _ h1
  · rw [show m.log2 + k + 1 = (m.log2 + 1) + k by omega, Nat.pow_add]
    exact (Nat.mul_lt_mul_right hk).2 h2

/-- Only the value counts: twice the magnitude at the place below. -/
theorem rawRung_shift (m : Nat) (i : Int) (k : Nat) : rawRung f (m * 2 ^ k) (i - k) = rawRung f m i := by
  unfold rawRung
  by_cases h : m = 0
  · subst h; simp
  · have hk : 0 < 2 ^ k := Nat.two_pow_pos k
    have hm : m * 2 ^ k ≠ 0 := by
      have := Nat.mul_pos (Nat.pos_of_ne_zero h) hk
      omega
    rw [if_neg h, if_neg hm, log2_shift h]
    have e : (i - k : Int) + ((m.log2 + k : Nat) : Int) - f.fractionBits = i + m.log2 - f.fractionBits := by omega
    simp only [e, cut_rne, Nat.shiftLeft_eq]
    generalize max (i + (m.log2 : Int) - f.fractionBits) f.leastPlace = last
    congr 1
    by_cases h1 : last ≤ i - k
    · rw [show (last - (i - k)).toNat = 0 by omega, show (last - i).toNat = 0 by omega, Nat.mul_assoc, ← Nat.pow_add, show k + (i - k - last).toNat = (i - last).toNat by omega]
    · by_cases h2 : last ≤ i
      · obtain ⟨a, ha⟩ : ∃ a : Nat, (i - last).toNat = a := ⟨_, rfl⟩
        have hb : (last - (i - k)).toNat + a = k := by omega
        rw [show (last - i).toNat = 0 by omega, show (i - k - last).toNat = 0 by omega, ha, Nat.pow_zero, Nat.mul_one]
        have : m * 2 ^ k = (m * 2 ^ a) * 2 ^ (last - (i - k)).toNat := by
          rw [Nat.mul_assoc, ← Nat.pow_add, Nat.add_comm a, hb]
        rw [this, rne_exact]
        have h0 := rne_exact (m * 2 ^ a) 0
        rw [Nat.pow_zero, Nat.mul_one] at h0
        exact h0.symm
      · rw [show (i - k - last).toNat = 0 by omega, show (i - last).toNat = 0 by omega, Nat.pow_zero, Nat.mul_one, Nat.mul_one]
        rw [show (last - (i - k)).toNat = (last - i).toNat + k by omega, rne_scale]

/-- At a place not above the least one: the plain form. -/
theorem rawRung_low (m : Nat) (c : Int) (hm : m ≠ 0) (hc : c ≤ f.leastPlace) :
    rawRung f m c = (max (c + m.log2 - f.fractionBits) f.leastPlace - f.leastPlace).toNat * f.binade + rne m (max (c + m.log2 - f.fractionBits) f.leastPlace - c).toNat := by
  unfold rawRung
  rw [if_neg hm]
  simp only [cut_rne, Nat.shiftLeft_eq]
  rw [show (c - max (c + (m.log2 : Int) - f.fractionBits) f.leastPlace).toNat = 0 by omega, Nat.pow_zero, Nat.mul_one]

theorem log2_mono {m n : Nat} (hm : m ≠ 0) (h : m ≤ n) : m.log2 ≤ n.log2 := by
  have h1 := log_le hm
  have h2 := lt_two_log n
  have : 2 ^ m.log2 < 2 ^ (n.log2 + 1) := by omega
  have := (Nat.pow_lt_pow_iff_right (by omega : 1 < 2)).1 this
  omega

/-- Greater magnitudes have no lower rungs. -/
theorem rawRung_mono_low {m n : Nat} {c : Int} (hc : c ≤ f.leastPlace) (h : m ≤ n) : rawRung f m c ≤ rawRung f n c := by
  by_cases hm : m = 0
  · subst hm
    rw [show rawRung f 0 c = 0 from if_pos rfl]
    exact Nat.zero_le _
  · have hn : n ≠ 0 := by omega
    rw [rawRung_low f m c hm hc, rawRung_low f n c hn hc]
    have hl := log2_mono hm h
    obtain ⟨a, ha⟩ : ∃ a, a = max (c + (m.log2 : Int) - f.fractionBits) f.leastPlace := ⟨_, rfl⟩
    obtain ⟨b, hb⟩ : ∃ b, b = max (c + (n.log2 : Int) - f.fractionBits) f.leastPlace := ⟨_, rfl⟩
    rw [← ha, ← hb]
    by_cases e : a = b
    · rw [e]
      exact Nat.add_le_add_left (rne_mono h _) _
    · have hab : a < b := by omega
      -- below: at most two binades' worth of units; above: at least one
      have hB : f.binade = 2 ^ f.fractionBits := rfl
      have up : rne m (a - c).toNat ≤ 2 * f.binade := by
        have h1 := lt_two_log m
        have h2 : m.log2 + 1 ≤ (f.fractionBits + 1) + (a - c).toNat := by omega
        have h3 : m < 2 ^ (f.fractionBits + 1) * 2 ^ (a - c).toNat := by
          rw [← Nat.pow_add]
          exact Nat.lt_of_lt_of_le h1 (Nat.pow_le_pow_right (by omega) h2)
        have h4 : m / 2 ^ (a - c).toNat < 2 ^ (f.fractionBits + 1) := by
          rw [Nat.div_lt_iff_lt_mul (Nat.two_pow_pos _)]
          exact h3
        have h5 := rne_hi m (a - c).toNat
        rw [hB]
        rw [Nat.pow_succ] at h4
        omega
      have lo : f.binade ≤ rne n (b - c).toNat := by
        have h1 := log_le hn
        have h2 : f.fractionBits + (b - c).toNat = n.log2 := by omega
        have h3 : 2 ^ f.fractionBits * 2 ^ (b - c).toNat ≤ n := by
          rw [← Nat.pow_add, h2]; exact h1
        have h4 : 2 ^ f.fractionBits ≤ n / 2 ^ (b - c).toNat := by
          rw [Nat.le_div_iff_mul_le (Nat.two_pow_pos _)]; exact h3
        have h5 := rne_lo n (b - c).toNat
        rw [hB]; omega
      have hd : (a - f.leastPlace).toNat + 1 ≤ (b - f.leastPlace).toNat := by omega
      have := Nat.mul_le_mul_right f.binade hd
      rw [Nat.add_mul, Nat.one_mul] at this
      omega

/-- Rungs keep the order of values: m 2^i is at most n 2^j. -/
theorem rawRung_mono {m n : Nat} {i j c : Int} (hi : c ≤ i) (hj : c ≤ j) (h : m * 2 ^ (i - c).toNat ≤ n * 2 ^ (j - c).toNat) : rawRung f m i ≤ rawRung f n j := by
  obtain ⟨d, hd1, hd2⟩ : ∃ d : Int, d ≤ c ∧ d ≤ f.leastPlace := ⟨min c f.leastPlace, by omega, by omega⟩
  have e1 := rawRung_shift f m i (i - d).toNat
  have e2 := rawRung_shift f n j (j - d).toNat
  rw [← e1, ← e2, show i - ((i - d).toNat : Int) = d by omega, show j - ((j - d).toNat : Int) = d by omega]
  refine rawRung_mono_low f hd2 ?_
  have := Nat.mul_le_mul_right (2 ^ (c - d).toNat) h
  rw [Nat.mul_assoc, Nat.mul_assoc, ← Nat.pow_add, ← Nat.pow_add] at this
  rw [show (i - d).toNat = (i - c).toNat + (c - d).toNat by omega, show (j - d).toNat = (j - c).toNat + (c - d).toNat by omega]
  exact this
theorem rawRung_congr {m n : Nat} {i j c : Int} (hi : c ≤ i) (hj : c ≤ j) (h : m * 2 ^ (i - c).toNat = n * 2 ^ (j - c).toNat) : rawRung f m i = rawRung f n j :=
  Nat.le_antisymm (rawRung_mono f hi hj (by omega)) (rawRung_mono f hj hi (by omega))

/-- What a float has: below a binade at the least place, or from one binade on. -/
def Canon (m : Nat) (i : Int) : Prop := f.leastPlace ≤ i ∧ m < 2 * f.binade ∧ (i = f.leastPlace ∨ f.binade ≤ m)
theorem rawRung_canon {m : Nat} {i : Int} (h : Canon f m i) : rawRung f m i = (i - f.leastPlace).toNat * f.binade + m := by
  obtain ⟨h1, h2, h3⟩ := h
  have hB : f.binade = 2 ^ f.fractionBits := rfl
  by_cases hm : m = 0
  · subst hm
    have hi : i = f.leastPlace := by
      rcases h3 with h3 | h3
      · exact h3
      · have := Nat.two_pow_pos f.fractionBits; omega
    subst hi
    simp [rawRung]
  · unfold rawRung
    rw [if_neg hm]
    have hlog : m.log2 ≤ f.fractionBits := by
      have h4 := log_le hm
      have h5 : 2 ^ m.log2 < 2 ^ (f.fractionBits + 1) := by rw [Nat.pow_succ]; omega
      have := (Nat.pow_lt_pow_iff_right (by omega : 1 < 2)).1 h5
      omega
    have hlast : max (i + (m.log2 : Int) - f.fractionBits) f.leastPlace = i := by
      rcases h3 with h3 | h3
      · omega
      · have h4 := lt_two_log m
        have h5 : 2 ^ f.fractionBits < 2 ^ (m.log2 + 1) := by omega
        have := (Nat.pow_lt_pow_iff_right (by omega : 1 < 2)).1 h5
        omega
    simp only [hlast, cut_rne, Nat.shiftLeft_eq, Int.sub_self, Int.toNat_zero, Nat.pow_zero, Nat.mul_one]
    have h0 := rne_exact m 0
    rw [Nat.pow_zero, Nat.mul_one] at h0
    rw [h0]
end

open Go

theorem sum_comm (a b : Ieee.Datum) : a.sum b = b.sum a := by
  cases a <;> cases b <;> simp only [Ieee.Datum.sum]
  · rename_i s m i t n j
    rw [Int.min_comm j i, Int.add_comm (Ieee.signed t _ _), Bool.and_comm t s]
  · rename_i s t
    by_cases h : s = t
    · subst h; simp
    · rw [if_neg h, if_neg (fun e => h e.symm)]
theorem product_comm (a b : Ieee.Datum) : a.product b = b.product a := by
  cases a <;> cases b <;> simp only [Ieee.Datum.product]
  · rename_i s m i t n j
    rw [Bool.xor_comm t s, Nat.mul_comm n m, Int.add_comm j i]
  · rename_i s t; rw [Bool.xor_comm]
theorem cf_add_comm (k : FloatKind) (x y : Nat) : cf .add k x y = cf .add k y x := by
  simp only [cf, floatBits, Ieee.Format.add, sum_comm (k.format.read x)]
theorem cf_mul_comm (k : FloatKind) (x y : Nat) : cf .mul k x y = cf .mul k y x := by
  simp only [cf, floatBits, Ieee.Format.mul, product_comm (k.format.read x)]

theorem bothC_comm (a b c d : Nat) (r : Nat × Nat × Int) : bothC a b c d r = bothC c d a b r := by
  unfold bothC
  by_cases h : finC a b = true ∧ finC c d = true
  · rw [if_pos h, if_pos h.symm]
  · rw [if_neg h, if_neg (fun e => h e.symm)]
theorem addR_comm (a b c d : Nat) : addR a b c d = addR c d a b := by
  unfold addR; rw [bothC_comm, cf_add_comm _ a c, cf_add_comm _ b d]
theorem mulR_comm (a b c d : Nat) : mulR a b c d = mulR c d a b := by
  unfold mulR mRe mIm
  rw [bothC_comm, cf_mul_comm _ a c, cf_mul_comm _ b d, cf_mul_comm _ a d, cf_mul_comm _ b c, cf_add_comm _ (cf .mul .f64 d a)]

theorem xor_high (x n : Nat) : (x ^^^ 2 ^ n) % 2 ^ n = x % 2 ^ n ∧ ((x ^^^ 2 ^ n) / 2 ^ n) % 2 = 1 - x / 2 ^ n % 2 := by
  constructor
  · rw [Nat.xor_mod_two_pow, Nat.mod_self, Nat.xor_zero]
  · have h : (x ^^^ 2 ^ n) / 2 ^ n = (x / 2 ^ n) ^^^ 1 := by
      rw [← Nat.shiftRight_eq_div_pow, Nat.shiftRight_xor_distrib, Nat.shiftRight_eq_div_pow, Nat.shiftRight_eq_div_pow, Nat.div_self (Nat.two_pow_pos n)]
    have h2 : (x / 2 ^ n ^^^ 1) % 2 ^ 1 = _ := Nat.xor_mod_two_pow
    rw [h]
    have h3 : (x / 2 ^ n ^^^ 1) % 2 = (x / 2 ^ n % 2) ^^^ 1 := h2
    rw [h3]
    rcases Nat.mod_two_eq_zero_or_one (x / 2 ^ n) with h4 | h4 <;> rw [h4] <;> rfl
theorem read_neg (x : Nat) : FloatKind.f64.format.read (Op.negFloat .f64 x) = (FloatKind.f64.format.read x).opposite := by
  have e1 : FloatKind.f64.format.signWeight = 2 ^ 63 := by decide
  have e2 : (2 : Nat) ^ (FloatKind.f64.format.exponentBits + FloatKind.f64.format.fractionBits) = 2 ^ 63 := by decide
  obtain ⟨h1, h2⟩ := xor_high x 63
  simp only [Ieee.Format.read, Op.negFloat, e1, e2, h1]
  have h3 : ((x ^^^ 2 ^ 63) / 2 ^ 63 % 2 == 1) = !(x / 2 ^ 63 % 2 == 1) := by
    rw [h2]
    rcases Nat.mod_two_eq_zero_or_one (x / 2 ^ 63) with h | h <;> rw [h] <;> rfl
  rw [h3]
  split
  · rfl
  · split
    · rfl
    · split <;> rfl
theorem isF_neg (x : Nat) : isF .f64 (Op.negFloat .f64 x) = isF .f64 x := by
  unfold isF
  rw [read_neg]
  cases FloatKind.f64.format.read x <;> rfl
theorem sub_neg (x y : Nat) : cf .sub .f64 x y = cf .add .f64 x (Op.negFloat .f64 y) := by
  simp only [cf, floatBits, Ieee.Format.sub, Ieee.Format.add, read_neg]
theorem subR_neg (a b c d : Nat) : subR a b c d = addR a b (Op.negFloat .f64 c) (Op.negFloat .f64 d) := by
  unfold subR addR bothC finC
  rw [isF_neg, isF_neg, sub_neg, sub_neg]

theorem addR_fin (a b c d : Nat) : finC (addR a b c d).1 (addR a b c d).2.1 = true := bothC_fin (limC_fin _ _)
theorem subR_fin (a b c d : Nat) : finC (subR a b c d).1 (subR a b c d).2.1 = true := bothC_fin (limC_fin _ _)
theorem mulR_fin (a b c d : Nat) : finC (mulR a b c d).1 (mulR a b c d).2.1 = true := bothC_fin (limC_fin _ _)
theorem quoR_fin (a b c d : Nat) : finC (quoR a b c d).1 (quoR a b c d).2.1 = true := by
  refine bothC_fin ?_
  split
  · unfold finC; rw [isF_zero]; rfl
  · exact limC_fin _ _

/-- What is finite and no zero, divided by itself, is 1. -/
theorem self_one {x : Nat} (h : isN .f64 (cf .quo .f64 x x) = false) : cf .quo .f64 x x = 4607182418800017408 := by
  cases e : FloatKind.f64.format.read x with
  | nan s f =>
    have : cf .quo .f64 x x = qn .f64 := by simp only [cf, floatBits, Ieee.Format.div, e, Ieee.Datum.quotient]; rfl
    rw [this, isN_qn] at h; cases h
  | infinity s =>
    have : cf .quo .f64 x x = qn .f64 := by simp only [cf, floatBits, Ieee.Format.div, e, Ieee.Datum.quotient]; rfl
    rw [this, isN_qn] at h; cases h
  | number s m i =>
    by_cases hm : m = 0
    · subst hm
      have : cf .quo .f64 x x = qn .f64 := by simp only [cf, floatBits, Ieee.Format.div, e, Ieee.Datum.quotient, if_true]; rfl
      rw [this, isN_qn] at h; cases h
    · have hq : (Ieee.Datum.number s m i).quotient 54 (.number s m i) = some (.number false (2 ^ 55) (-55)) := by
        simp only [Ieee.Datum.quotient, if_neg hm]
        have h1 : 54 + m.log2 - m.log2 = 54 := by omega
        have h2 : m <<< 54 / m = 2 ^ 54 := by
          rw [Nat.shiftLeft_eq, Nat.mul_comm, Nat.mul_div_cancel _ (by omega)]
        have h3 : m <<< 54 % m = 0 := by rw [Nat.shiftLeft_eq]; exact Nat.mul_mod_right _ _
        rw [h1, h2, h3]
        cases s <;> simp <;> omega
      simp only [cf, floatBits, Ieee.Format.div, e]
      show (((Ieee.Datum.number s m i).quotient 54 (.number s m i)).map FloatKind.f64.format.write).getD (qn .f64) = _
      rw [hq]
      decide +kernel

theorem qParts_self (a b : Nat) : ∃ D, (qParts a b a b).1 = cf .quo .f64 D D := by
  by_cases h : absGe a b = true
  · refine ⟨cf .add .f64 a (cf .mul .f64 (cf .quo .f64 b a) b), ?_⟩
    unfold qParts
    rw [if_pos h]
    show cf .quo .f64 (cf .add .f64 a (cf .mul .f64 b (cf .quo .f64 b a))) _ = _
    rw [cf_mul_comm _ b]
  · refine ⟨cf .add .f64 b (cf .mul .f64 (cf .quo .f64 a b) a), ?_⟩
    unfold qParts
    rw [if_neg h]
    show cf .quo .f64 (cf .add .f64 (cf .mul .f64 a (cf .quo .f64 a b)) b) _ = _
    rw [cf_mul_comm _ a, cf_add_comm _ _ b]
theorem quo_self (a b : Nat) : (quoR a b a b).2.2 ≠ 0 ∨ (quoR a b a b).1 = 4607182418800017408 := by
  unfold quoR
  cases h : finC a b
  · rw [bothC_no1 h]; exact .inl (by decide)
  · rw [bothC_yes h h]
    cases hz : isZ a b
    · rw [if_neg (by decide)]
      cases hl : finC (qParts a b a b).1 (qParts a b a b).2
      · rw [limC_no hl]; exact .inl (by decide)
      · rw [limC_yes hl]
        right
        have hn := isF_not_isN (finC_split hl).1
        show (qParts a b a b).1 = _
        obtain ⟨D, hD⟩ := qParts_self a b
        rw [hD] at hn ⊢
        exact self_one hn
    · rw [if_pos rfl]; exact .inl (by decide)

open Go Ieee

def f64 : Format := FloatKind.f64.format
theorem f64_sw : f64.signWeight = 2 ^ 63 := by decide
theorem f64_bin : f64.binade = 2 ^ 52 := by decide
theorem f64_inf : f64.infRung = 0x7ff0000000000000 := by decide
theorem f64_low : f64.leastPlace = -1074 := by decide
theorem f64_fb : f64.fractionBits = 52 := by decide

/-- What reading tells of a word: its rung is that of the number. -/
theorem read_canon {x : Nat} {s : Bool} {m : Nat} {i : Int} (h : f64.read x = .number s m i) :
    Canon f64 m i ∧ x % 2 ^ 63 = rawRung f64 m i ∧ x % 2 ^ 63 < 0x7ff0000000000000 ∧ s = (x / 2 ^ 63 % 2 == 1) := by
  have hc : Canon f64 m i ∧ x % 2 ^ 63 = (i - f64.leastPlace).toNat * f64.binade + m ∧ x % 2 ^ 63 < 0x7ff0000000000000 ∧ s = (x / 2 ^ 63 % 2 == 1) := by
    simp only [Format.read, f64_sw, f64_bin, f64_inf, f64_low] at h
    unfold Canon
    rw [f64_bin, f64_low]
    split at h
    · simp only [Datum.number.injEq] at h
      obtain ⟨h1, h2, h3⟩ := h
      refine ⟨⟨by omega, by omega, by omega⟩, ?_, by omega, h1.symm⟩
      rw [show (i - -1074).toNat = 0 by omega]; omega
    · split at h
      · simp only [Datum.number.injEq] at h
        obtain ⟨h1, h2, h3⟩ := h
        refine ⟨⟨by omega, by omega, by omega⟩, ?_, by omega, h1.symm⟩
        have h4 : (i - -1074).toNat = x % 2 ^ 63 / 2 ^ 52 - 1 := by omega
        rw [h4, ← h2]
        omega
      · split at h <;> cases h
  exact ⟨hc.1, by rw [rawRung_canon f64 hc.1]; exact hc.2.1, hc.2.2⟩

/-- Reading a word back. -/
theorem read_word {s : Bool} {m : Nat} {i : Int} (h : Canon f64 m i) (hr : rawRung f64 m i < 0x7ff0000000000000) : f64.read (f64.word s (rawRung f64 m i)) = .number s m i := by
  rw [rawRung_canon f64 h] at hr ⊢
  obtain ⟨h1, h2, h3⟩ := h
  rw [f64_bin, f64_low] at *
  have hw : f64.word s ((i - -1074).toNat * 2 ^ 52 + m) % 2 ^ 63 = (i - -1074).toNat * 2 ^ 52 + m ∧ (f64.word s ((i - -1074).toNat * 2 ^ 52 + m) / 2 ^ 63 % 2 == 1) = s := by
    unfold Format.word
    rw [f64_sw]
    cases s
    · rw [if_neg (by decide)]
      refine ⟨by omega, ?_⟩
      rw [show ((i - -1074).toNat * 2 ^ 52 + m) / 2 ^ 63 = 0 by omega]; rfl
    · rw [if_pos rfl]
      refine ⟨by omega, ?_⟩
      rw [show (2 ^ 63 + ((i - -1074).toNat * 2 ^ 52 + m)) / 2 ^ 63 = 1 by omega]; rfl
  simp only [Format.read, f64_sw, f64_bin, f64_inf, f64_low, hw.1, hw.2]
  by_cases hl : (i - -1074).toNat * 2 ^ 52 + m < 2 ^ 52
  · rw [if_pos hl]
    rcases h3 with h3 | h3
    · rw [show ((i - -1074).toNat * 2 ^ 52 + m) = m by rw [show (i - -1074).toNat = 0 by omega]; omega, h3]
    · omega
  · rw [if_neg hl, if_pos hr]
    have h4 : 2 ^ 52 ≤ m := by
      rcases h3 with h3 | h3
      · rw [show (i - -1074).toNat = 0 by omega] at hl; omega
      · exact h3
    have h5 : ((i - -1074).toNat * 2 ^ 52 + m) / 2 ^ 52 = (i - -1074).toNat + 1 := by omega
    have h6 : ((i - -1074).toNat * 2 ^ 52 + m) % 2 ^ 52 = m - 2 ^ 52 := by omega
    rw [h5, h6]
    simp only [Datum.number.injEq, true_and]
    constructor <;> omega

theorem read_inf (s : Bool) : f64.read (f64.word s 0x7ff0000000000000) = .infinity s := by cases s <;> decide +kernel

/-- The rung of what is nearest to m 2^i. -/
def rungOf (m : Nat) (i : Int) : Nat := min (rawRung f64 m i) 0x7ff0000000000000
theorem nearest_rung (s : Bool) (m : Nat) (i : Int) : f64.nearest s m i = f64.word s (rungOf m i) := by
  rw [nearest_eq, f64_inf]; rfl

/-- Each rung below infinity's is that of a number. -/
theorem rung_number {r : Nat} (h : r < 0x7ff0000000000000) : ∃ m i, Canon f64 m i ∧ rawRung f64 m i = r := by
  by_cases hl : r < 2 ^ 52
  · have hc : Canon f64 r (-1074) := by
      unfold Canon; rw [f64_bin, f64_low]; omega
    refine ⟨r, -1074, hc, ?_⟩
    rw [rawRung_canon f64 hc, f64_bin, f64_low]; simp
  · have hc : Canon f64 (2 ^ 52 + r % 2 ^ 52) (-1074 + ((r / 2 ^ 52 - 1 : Nat) : Int)) := by
      unfold Canon; rw [f64_bin, f64_low]; omega
    refine ⟨_, _, hc, ?_⟩
    rw [rawRung_canon f64 hc, f64_bin, f64_low]
    rw [show (-1074 + ((r / 2 ^ 52 - 1 : Nat) : Int) - -1074).toNat = r / 2 ^ 52 - 1 by omega]
    omega

theorem signed_false (m k : Nat) : signed false m k = ((m * 2 ^ k : Nat) : Int) := by unfold signed; rw [if_neg (by decide), Nat.shiftLeft_eq]
theorem signed_true (m k : Nat) : signed true m k = -((m * 2 ^ k : Nat) : Int) := by unfold signed; rw [if_pos rfl, Nat.shiftLeft_eq]

theorem compare_int {a b : Int} : compare a b = if a < b then .lt else if a = b then .eq else .gt := rfl

/-- Words without a sign compare as their rungs. -/
theorem order_word {r t : Nat} (hr : r ≤ 0x7ff0000000000000) (ht : t ≤ 0x7ff0000000000000) :
    f64.order (f64.word false r) (f64.word false t) = some (if r < t then .lt else if r = t then .eq else .gt) := by
  unfold Format.order
  by_cases h1 : r < 0x7ff0000000000000
  · obtain ⟨m, i, hc, rfl⟩ := rung_number h1
    rw [read_word hc h1]
    by_cases h2 : t < 0x7ff0000000000000
    · obtain ⟨n, j, hd, rfl⟩ := rung_number h2
      rw [read_word hd h2]
      simp only [Datum.order, signed_false, compare_int]
      congr 1
      have lo1 : min i j ≤ i := by omega
      have lo2 : min i j ≤ j := by omega
      by_cases e1 : rawRung f64 m i < rawRung f64 n j
      · rw [if_pos e1]
        have : ¬ n * 2 ^ (j - min i j).toNat ≤ m * 2 ^ (i - min i j).toNat := fun hh => by
          have := rawRung_mono f64 lo2 lo1 hh; omega
        rw [if_pos (by exact_mod_cast Nat.lt_of_not_le this)]
      · rw [if_neg e1]
        by_cases e2 : rawRung f64 m i = rawRung f64 n j
        · rw [if_pos e2]
          have r1 := read_word (s := false) hc h1
          have r2 := read_word (s := false) hd h2
          rw [e2, r2] at r1
          simp only [Datum.number.injEq, true_and] at r1
          obtain ⟨rfl, rfl⟩ := r1
          rw [if_neg (by omega), if_pos rfl]
        · rw [if_neg e2]
          have : ¬ m * 2 ^ (i - min i j).toNat ≤ n * 2 ^ (j - min i j).toNat := fun hh => by
            have := rawRung_mono f64 lo1 lo2 hh; omega
          have h3 := Nat.lt_of_not_le this
          rw [if_neg (by omega), if_neg (by omega)]
    · obtain rfl : t = 0x7ff0000000000000 := by omega
      rw [read_inf, if_pos h1]; rfl
  · obtain rfl : r = 0x7ff0000000000000 := by omega
    rw [read_inf]
    by_cases h2 : t < 0x7ff0000000000000
    · obtain ⟨n, j, hd, rfl⟩ := rung_number h2
      rw [read_word hd h2, if_neg (by omega), if_neg (by omega)]; rfl
    · obtain rfl : t = 0x7ff0000000000000 := by omega
      rw [read_inf]; rfl

/-- The value m 2^i is at most n 2^j. -/
def Le (m : Nat) (i : Int) (n : Nat) (j : Int) : Prop := ∃ c, c ≤ i ∧ c ≤ j ∧ m * 2 ^ (i - c).toNat ≤ n * 2 ^ (j - c).toNat
theorem rungOf_mono {m n : Nat} {i j : Int} (h : Le m i n j) : rungOf m i ≤ rungOf n j := by
  obtain ⟨c, h1, h2, h3⟩ := h
  have := rawRung_mono f64 h1 h2 h3
  unfold rungOf; omega
theorem rungOf_le (m : Nat) (i : Int) : rungOf m i ≤ 0x7ff0000000000000 := Nat.min_le_right _ _

open Go Ieee

/-- The float64 nearest to m 2^i with a sign. -/
def fw (s : Bool) (m : Nat) (i : Int) : Nat := f64.word s (rungOf m i)
/-- m 2^i is a float64 as it stands. -/
def Fit (m : Nat) (i : Int) : Prop := m < 2 ^ 53 ∧ -1074 ≤ i ∧ m * 2 ^ (i - 971).toNat < 2 ^ 53
theorem Fit.of {m : Nat} {i : Int} (h1 : m < 2 ^ 53) (h2 : -1074 ≤ i) (h3 : i ≤ 971) : Fit m i := by
  refine ⟨h1, h2, ?_⟩
  rw [show (i - 971).toNat = 0 by omega, Nat.pow_zero, Nat.mul_one]
  exact h1

theorem rungOf_shift (m : Nat) (i : Int) (k : Nat) : rungOf (m * 2 ^ k) (i - k) = rungOf m i := by
  unfold rungOf; rw [rawRung_shift]
theorem fw_shift (s : Bool) (m : Nat) (i : Int) (k : Nat) : fw s (m * 2 ^ k) (i - k) = fw s m i := by
  unfold fw; rw [rungOf_shift]
theorem rungOf_zero (i : Int) : rungOf 0 i = 0 := by
  unfold rungOf rawRung; simp
theorem fw_zero (s : Bool) (i : Int) : fw s 0 i = f64.word s 0 := by unfold fw; rw [rungOf_zero]

/-- The form in which a float has its value. -/
theorem canon_low {m : Nat} {i : Int} (h1 : m < 2 ^ 53) (h2 : -1074 ≤ i) (h3 : i ≤ 971) : ∃ k : Nat, Canon f64 (m * 2 ^ k) (i - k) ∧ i - k ≤ 971 := by
  by_cases hm : m = 0
  · subst hm
    refine ⟨(i + 1074).toNat, ?_, by omega⟩
    unfold Canon
    rw [f64_bin, f64_low]
    omega
  · have l1 := log_le hm
    have l2 := lt_two_log m
    have l3 : m.log2 ≤ 52 := by
      have : 2 ^ m.log2 < 2 ^ 53 := by omega
      have := (Nat.pow_lt_pow_iff_right (by omega : 1 < 2)).1 this
      omega
    obtain ⟨k, hk⟩ : ∃ k : Nat, k = min (52 - m.log2) (i + 1074).toNat := ⟨_, rfl⟩
    have up : m * 2 ^ k < 2 ^ 53 := by
      have a1 : m * 2 ^ k < 2 ^ (m.log2 + 1) * 2 ^ k := (Nat.mul_lt_mul_right (Nat.two_pow_pos k)).2 l2
      rw [← Nat.pow_add] at a1
      exact Nat.lt_of_lt_of_le a1 (Nat.pow_le_pow_right (by omega) (by omega))
    refine ⟨k, ?_, by omega⟩
    unfold Canon
    rw [f64_bin, f64_low]
    refine ⟨by omega, by omega, ?_⟩
    by_cases hq : k = 52 - m.log2
    · right
      have a1 : 2 ^ m.log2 * 2 ^ k ≤ m * 2 ^ k := Nat.mul_le_mul_right _ l1
      rw [← Nat.pow_add, show m.log2 + k = 52 by omega] at a1
      exact a1
    · left; omega
theorem canon_of {m : Nat} {i : Int} (h : Fit m i) : ∃ k : Nat, Canon f64 (m * 2 ^ k) (i - k) ∧ i - k ≤ 971 := by
  obtain ⟨h1, h2, h3⟩ := h
  obtain ⟨k, hc, hk⟩ := canon_low (i := i - (i - 971).toNat) h3 (by omega) (by omega)
  refine ⟨(i - 971).toNat + k, ?_, by omega⟩
  rw [Nat.pow_add, ← Nat.mul_assoc, show i - (((i - 971).toNat + k : Nat) : Int) = i - ((i - 971).toNat : Int) - (k : Int) by omega]
  exact hc
theorem canon_fin {m : Nat} {i : Int} (h : Canon f64 m i) (h2 : i ≤ 971) : rawRung f64 m i < 0x7ff0000000000000 := by
  rw [rawRung_canon f64 h]
  obtain ⟨h1, h3, _⟩ := h
  rw [f64_bin, f64_low] at *
  have : (i - -1074).toNat ≤ 2045 := by omega
  have := Nat.mul_le_mul_right (2 ^ 52) this
  omega
theorem read_fw (s : Bool) {m : Nat} {i : Int} (h : Fit m i) : ∃ k : Nat, f64.read (fw s m i) = .number s (m * 2 ^ k) (i - k) ∧ Canon f64 (m * 2 ^ k) (i - k) := by
  obtain ⟨k, hc, h2⟩ := canon_of h
  refine ⟨k, ?_, hc⟩
  have hf := canon_fin hc h2
  rw [← fw_shift s m i k]
  unfold fw rungOf
  rw [Nat.min_eq_left (by omega)]
  exact read_word hc hf
theorem isF_fw (s : Bool) {m : Nat} {i : Int} (h : Fit m i) : isF .f64 (fw s m i) = true := by
  obtain ⟨k, hr, _⟩ := read_fw s h
  unfold isF
  have : FloatKind.f64.format.read (fw s m i) = _ := hr
  rw [this]
theorem fw_lt (s : Bool) (m : Nat) (i : Int) : fw s m i < 2 ^ 64 := by
  have h := rungOf_le m i
  unfold fw Format.word
  rw [f64_sw]
  split <;> omega
theorem word_parts {x : Nat} (hx : x < 2 ^ 64) : x = f64.word (x / 2 ^ 63 % 2 == 1) (x % 2 ^ 63) := by
  unfold Format.word
  rw [f64_sw]
  by_cases h : x / 2 ^ 63 % 2 = 1
  · rw [if_pos (by simpa using h)]; omega
  · rw [if_neg (by simpa using h)]; omega
/-- What a finite float is. -/
theorem fin_fw {x : Nat} (hx : x < 2 ^ 64) (h : isF .f64 x = true) : ∃ s m i, x = fw s m i ∧ Fit m i ∧ Canon f64 m i := by
  unfold isF at h
  cases e : FloatKind.f64.format.read x with
  | nan s f => rw [e] at h; cases h
  | infinity s => rw [e] at h; cases h
  | number s m i =>
    obtain ⟨h1, h2, h3, h4⟩ := read_canon e
    have h5 := read_fin_f64 e
    refine ⟨s, m, i, ?_, Fit.of h5.1 h5.2.1 h5.2.2, h1⟩
    unfold fw rungOf
    rw [Nat.min_eq_left (by omega), ← h2, h4]
    exact word_parts hx

/-- A product's float is that of the product. -/
theorem mul_fw (s t : Bool) {m n : Nat} {i j : Int} (h : Fit m i) (g : Fit n j) : floatBits .mul .f64 (fw s m i) (fw t n j) = some (fw (s ^^ t) (m * n) (i + j)) := by
  obtain ⟨k, hr, _⟩ := read_fw s h
  obtain ⟨l, hq, _⟩ := read_fw t g
  show Format.mul f64 _ _ = _
  unfold Format.mul
  rw [hr, hq]
  simp only [Datum.product, Option.map_some, Format.write]
  congr 1
  rw [nearest_rung]
  unfold fw
  congr 1
  rw [show m * 2 ^ k * (n * 2 ^ l) = m * n * 2 ^ (k + l) by rw [Nat.pow_add]; ac_rfl, show i - (k : Int) + (j - l) = i + j - ((k + l : Nat) : Int) by omega, rungOf_shift]
theorem signed_mul (s : Bool) (m k e : Nat) : signed s m (k + e) = signed s m k * 2 ^ e := by
  unfold signed
  rw [Nat.shiftLeft_eq, Nat.shiftLeft_eq, Nat.pow_add]
  split
  · push_cast; rw [Int.neg_mul, Int.mul_assoc]
  · push_cast; rw [Int.mul_assoc]
theorem signed_pow (s : Bool) (m k j : Nat) : signed s (m * 2 ^ k) j = signed s m (j + k) := by
  unfold signed
  rw [Nat.shiftLeft_eq, Nat.shiftLeft_eq, Nat.pow_add, Nat.mul_assoc, Nat.mul_comm (2 ^ k)]
/-- The integer that is m 2^i in units of 2^d. -/
def vz (s : Bool) (m : Nat) (i d : Int) : Int := signed s m (i - d).toNat
theorem vz_low (s : Bool) (m : Nat) {i d : Int} (h : d ≤ i) (e : Nat) : vz s m i (d - e) = vz s m i d * 2 ^ e := by
  unfold vz
  rw [show (i - (d - (e : Int))).toNat = (i - d).toNat + e by omega, signed_mul]
theorem vz_shift (s : Bool) (m : Nat) (i d : Int) (k : Nat) (h : d ≤ i - k) : vz s (m * 2 ^ k) (i - k) d = vz s m i d := by
  unfold vz
  rw [signed_pow, show (i - (k : Int) - d).toNat + k = (i - d).toNat by omega]
theorem compare_scale (a b : Int) (e : Nat) : compare (a * 2 ^ e) (b * 2 ^ e) = compare a b := by
  have hp : (0 : Int) < 2 ^ e := Int.pow_pos (by omega)
  rw [compare_int, compare_int]
  have h1 : a * 2 ^ e < b * 2 ^ e ↔ a < b := ⟨fun h => Int.lt_of_mul_lt_mul_right h (by omega), fun h => Int.mul_lt_mul_of_pos_right h hp⟩
  have h2 : a * 2 ^ e = b * 2 ^ e ↔ a = b := ⟨fun h => Int.eq_of_mul_eq_mul_right (by omega) h, fun h => by rw [h]⟩
  simp only [h1, h2]
/-- Floats stand to each other as their values. -/
theorem order_fw (s t : Bool) {m n : Nat} {i j d : Int} (h : Fit m i) (g : Fit n j) (hi : d ≤ i) (hj : d ≤ j) : FloatKind.f64.format.order (fw s m i) (fw t n j) = some (compare (vz s m i d) (vz t n j d)) := by
  obtain ⟨k, hr, _⟩ := read_fw s h
  obtain ⟨l, hq, _⟩ := read_fw t g
  show Format.order f64 _ _ = _
  unfold Format.order
  rw [hr, hq]
  simp only [Datum.order]
  congr 1
  obtain ⟨b, hb⟩ : ∃ b : Int, b = min (i - k) (j - l) := ⟨_, rfl⟩
  rw [← hb]
  show compare (vz s (m * 2 ^ k) (i - k) b) (vz t (n * 2 ^ l) (j - l) b) = _
  rw [vz_shift _ _ _ _ _ (by omega), vz_shift _ _ _ _ _ (by omega)]
  obtain ⟨c, hc⟩ : ∃ c : Int, c = min b d := ⟨_, rfl⟩
  have e1 := compare_scale (vz s m i b) (vz t n j b) (b - c).toNat
  have e2 := compare_scale (vz s m i d) (vz t n j d) (d - c).toNat
  rw [← vz_low _ _ (by omega), ← vz_low _ _ (by omega), show b - ((b - c).toNat : Int) = c by omega] at e1
  rw [← vz_low _ _ hi, ← vz_low _ _ hj, show d - ((d - c).toNat : Int) = c by omega] at e2
  rw [← e1, ← e2]

/-- Half of a float. -/
theorem half_fw (s : Bool) {m : Nat} {i : Int} (h : Fit m i) : floatBits .quo .f64 (fw s m i) 4611686018427387904 = some (fw s m (i - 1)) := by
  obtain ⟨k, hr, hc⟩ := read_fw s h
  have ht : f64.read 4611686018427387904 = .number false (2 ^ 52) (-51) := by decide +kernel
  show Format.div f64 _ _ = _
  unfold Format.div
  rw [hr, ht]
  have hM : m * 2 ^ k < 2 ^ 53 := by
    have := hc.2.1
    rw [f64_bin] at this
    omega
  rw [show fw s m (i - 1) = fw s (m * 2 ^ k) (i - 1 - k) from (fw_shift s m (i - 1) k).symm]
  generalize m * 2 ^ k = M at hM
  have hl : M.log2 ≤ 52 := by
    by_cases hm : M = 0
    · subst hm; decide
    · have l1 := log_le hm
      have : 2 ^ M.log2 < 2 ^ 53 := by omega
      have := (Nat.pow_lt_pow_iff_right (by omega : 1 < 2)).1 this
      omega
  have hn : ¬ (2 ^ 52 = (0 : Nat)) := by omega
  simp only [Datum.quotient, hn, if_false, Option.map_some, Format.write]
  congr 1
  rw [show (2 ^ 52 : Nat).log2 = 52 from by decide +kernel, f64_fb]
  obtain ⟨e, he⟩ : ∃ e : Nat, 52 + 2 + 52 - M.log2 = e + 54 := ⟨52 - M.log2, by omega⟩
  rw [he, nearest_rung, Nat.shiftLeft_eq]
  have hd : M * 2 ^ (e + 54) = M * 2 ^ (e + 2) * 2 ^ 52 := by
    have h1 : e + 54 = (e + 2) + 52 := by omega
    rw [h1, Nat.pow_add 2 (e + 2) 52, Nat.mul_assoc]
  rw [hd, Nat.mul_div_cancel _ (Nat.two_pow_pos 52), Nat.mul_mod_left]
  have hx : (s ^^ false) = s := by cases s <;> rfl
  rw [hx]
  have h0 : ((0 : Nat) != 0).toNat = 0 := rfl
  have h3 : 2 * (M * 2 ^ (e + 2)) = M * 2 ^ (e + 3) := by
    have h1 : e + 3 = (e + 2) + 1 := by omega
    rw [h1, Nat.pow_succ 2 (e + 2)]
    generalize 2 ^ (e + 2) = p
    rw [Nat.mul_comm 2, Nat.mul_assoc]
  rw [h0, Nat.add_zero, h3]
  have h4 : i - (k : Int) - -51 - ((e + 54 : Nat) : Int) - 1 = i - 1 - (k : Int) - ((e + 3 : Nat) : Int) := by omega
  rw [h4, rungOf_shift]
  rfl

/-- An integer with a sign. -/
def sg (s : Bool) (q : Nat) : Int := if s then -(q : Int) else q
theorem signed_sg (s : Bool) (q : Nat) : signed s q 0 = sg s q := by unfold signed sg; simp
theorem cut_zero (s : Bool) (n drop : Nat) : Toward.zero.cut s n drop = n / 2 ^ drop := by
  unfold Toward.cut
  simp only [Nat.shiftLeft_eq, Nat.one_mul, Bool.toNat_false, Nat.add_zero]
  by_cases h : drop ≤ n.log2 + 2
  · rw [Nat.min_eq_left h]
  · rw [Nat.min_eq_right (by omega)]
    have h1 := lt_two_log n
    have h2 : 2 ^ (n.log2 + 1) ≤ 2 ^ (n.log2 + 2) := Nat.pow_le_pow_right (by omega) (by omega)
    have h3 : 2 ^ (n.log2 + 2) ≤ 2 ^ drop := Nat.pow_le_pow_right (by omega) (by omega)
    rw [Nat.div_eq_of_lt (by omega), Nat.div_eq_of_lt (by omega)]
/-- A float below 2^53 cut to an integer. -/
theorem int_fw (s : Bool) {m : Nat} {i : Int} (h : Fit m i) (hi : i ≤ 0) : floatToIntVal .f64 (fw s m i) .i64 = some (sg s (m / 2 ^ (-i).toNat)) := by
  obtain ⟨k, hr, hc⟩ := read_fw s h
  unfold floatToIntVal
  have hd : FloatKind.f64.decode (fw s m i) = .number s (m * 2 ^ k) (i - k) := hr
  rw [hd]
  simp only [Datum.toInt, Datum.integral, cut_zero]
  rw [show (i - (k : Int)).toNat = 0 by omega, Nat.shiftLeft_zero, show (-(i - (k : Int))).toNat = (-i).toNat + k by omega, Nat.pow_add, Nat.mul_div_mul_right _ _ (Nat.two_pow_pos k), signed_sg]
  have hm := h.1
  have hle : m / 2 ^ (-i).toNat ≤ m := Nat.div_le_self _ _
  generalize m / 2 ^ (-i).toNat = q at hle
  have h1 : IntKind.i64.min ≤ sg s q ∧ sg s q ≤ IntKind.i64.max := by
    have a : IntKind.i64.min = -9223372036854775808 := by decide
    have b : IntKind.i64.max = 9223372036854775807 := by decide
    rw [a, b]
    unfold sg
    split <;> omega
  rw [if_pos h1]
theorem ofInt_fw (n : Int) : floatOfInt .f64 n = fw (n < 0) n.natAbs 0 := by
  show f64.nearest (n < 0) n.natAbs 0 = _
  rw [nearest_rung]
  rfl
theorem vz_zero {s : Bool} {m : Nat} {i d : Int} : vz s m i d = 0 ↔ m = 0 := by
  unfold vz signed
  rw [Nat.shiftLeft_eq]
  have hp : 0 < 2 ^ (i - d).toNat := Nat.two_pow_pos _
  have : m * 2 ^ (i - d).toNat = 0 ↔ m = 0 := by
    rw [Nat.mul_eq_zero]; omega
  split <;> omega
theorem sg_neg {s : Bool} {q : Nat} (h : q ≠ 0) : decide (sg s q < 0) = s ∧ (sg s q).natAbs = q := by
  unfold sg
  cases s
  · simp
  · simp; omega

/-- The integer part is the number itself just where 2 to the places divides. -/
theorem whole_fw (s : Bool) {m : Nat} {i : Int} (h : Fit m i) (hi : i ≤ 0) (hm : m ≠ 0) :
    (FloatKind.f64.format.order (floatOfInt .f64 (sg s (m / 2 ^ (-i).toNat))) (fw s m i) != some .eq) = decide (m % 2 ^ (-i).toNat ≠ 0) := by
  obtain ⟨q, hq⟩ : ∃ q, m / 2 ^ (-i).toNat = q := ⟨_, rfl⟩
  have hle : q ≤ m := by rw [← hq]; exact Nat.div_le_self _ _
  have hF : Fit q 0 := Fit.of (by have := h.1; omega) (by omega) (by omega)
  have hdm := Nat.div_add_mod m (2 ^ (-i).toNat)
  rw [hq] at hdm
  rw [hq, ofInt_fw]
  by_cases h0 : q = 0
  · subst h0
    have hz : sg s 0 = 0 := by unfold sg; split <;> rfl
    rw [hz]
    have := order_fw (decide ((0 : Int) < 0)) s (d := i) hF h hi (Int.le_refl i)
    rw [show (0 : Int).natAbs = 0 from rfl, this, compare_int]
    have h1 : vz (decide ((0 : Int) < 0)) 0 0 i = 0 := vz_zero.2 rfl
    have h2 : vz s m i i ≠ 0 := fun e => hm (vz_zero.1 e)
    rw [h1]
    have h3 : m % 2 ^ (-i).toNat ≠ 0 := by
      rw [Nat.mul_zero, Nat.zero_add] at hdm; omega
    rw [decide_eq_true h3]
    by_cases h4 : 0 < vz s m i i
    · rw [if_pos h4]; rfl
    · rw [if_neg h4, if_neg (Ne.symm h2)]; rfl
  · obtain ⟨e1, e2⟩ := sg_neg (s := s) h0
    rw [e1, e2, order_fw s s (d := i) hF h hi (Int.le_refl i), compare_int]
    have v1 : vz s q 0 i = sg s (2 ^ (-i).toNat * q) := by
      unfold vz
      rw [show (0 - i).toNat = (-i).toNat by omega]
      unfold signed sg
      rw [Nat.shiftLeft_eq, Nat.mul_comm q]
    have v2 : vz s m i i = sg s m := by
      unfold vz
      rw [Int.sub_self]
      exact signed_sg s m
    rw [v1, v2]
    generalize 2 ^ (-i).toNat * q = a at hdm
    generalize m % 2 ^ (-i).toNat = r at hdm
    subst hdm
    unfold sg
    by_cases hr : r = 0
    · subst hr; cases s <;> simp
    · rw [decide_eq_true hr]
      cases s
      · simp only [Bool.false_eq_true, if_false]
        rw [if_pos (by omega)]; rfl
      · simp only [if_true]
        rw [if_neg (by omega), if_neg (by omega)]; rfl

theorem fw_most : (4845873199050653696 : Nat) = fw false 1 53 := by
  rw [← fw_shift false 1 53 52]
  decide +kernel
theorem fw_nmost : (14069245235905429504 : Nat) = fw true 1 53 := by
  rw [← fw_shift true 1 53 52]
  decide +kernel
theorem fw_two : (4611686018427387904 : Nat) = fw false 1 1 := by
  rw [← fw_shift false 1 1 52]
  decide +kernel
theorem most_vals {m : Nat} {i : Int} (s : Bool) (h : Fit m i) (hc : 1 ≤ i → 2 ^ 52 ≤ m) (t : Bool) :
    ∃ a b : Nat, FloatKind.f64.format.order (fw s m i) (fw t 1 53) = some (compare (sg s a) (sg t b)) ∧ 0 < b ∧ (b ≤ a ↔ 1 ≤ i) := by
  have hF : Fit 1 53 := Fit.of (by omega) (by omega) (by omega)
  by_cases hi : 1 ≤ i
  · refine ⟨m * 2 ^ (i - 1).toNat, 2 ^ 52, ?_, by omega, ?_⟩
    · rw [order_fw s t (d := 1) h hF hi (by omega)]
      unfold vz signed sg
      rw [Nat.shiftLeft_eq, Nat.shiftLeft_eq, Nat.one_mul]
      rfl
    · have := hc hi
      have h2 := Nat.mul_le_mul this (Nat.two_pow_pos (i - 1).toNat)
      constructor
      · intro _; exact hi
      · intro _; simpa using h2
  · refine ⟨m, 2 ^ (53 - i).toNat, ?_, Nat.two_pow_pos _, ?_⟩
    · rw [order_fw s t (d := i) h hF (Int.le_refl i) (by omega)]
      unfold vz signed sg
      rw [Nat.shiftLeft_eq, Nat.shiftLeft_eq, Nat.one_mul, Int.sub_self]
      simp
    · have h1 := h.1
      have h2 : 2 ^ 53 ≤ 2 ^ (53 - i).toNat := Nat.pow_le_pow_right (by omega) (by omega)
      generalize 2 ^ (53 - i).toNat = b at h2
      omega
theorem ge_most {m : Nat} {i : Int} (s : Bool) (h : Fit m i) (hc : 1 ≤ i → 2 ^ 52 ≤ m) :
    (FloatKind.f64.format.order (fw s m i) 4845873199050653696 == some .gt || FloatKind.f64.format.order (fw s m i) 4845873199050653696 == some .eq) = (!s && decide (1 ≤ i)) := by
  rw [fw_most]
  obtain ⟨a, b, h1, h2, h3⟩ := most_vals s h hc false
  rw [h1, compare_int]
  have e2 : sg false b = (b : Int) := rfl
  rw [e2]
  cases s
  · have e1 : sg false a = (a : Int) := rfl
    rw [e1]
    by_cases hi : 1 ≤ i
    · have := h3.2 hi
      rw [decide_eq_true hi]
      by_cases he : a = b
      · rw [if_neg (by omega), if_pos (by omega)]; rfl
      · rw [if_neg (by omega), if_neg (by omega)]; rfl
    · have : ¬ b ≤ a := fun hh => hi (h3.1 hh)
      rw [decide_eq_false hi, if_pos (by omega)]; rfl
  · have e1 : sg true a = -(a : Int) := rfl
    rw [e1, if_pos (by omega)]; rfl
theorem le_most {m : Nat} {i : Int} (s : Bool) (h : Fit m i) (hc : 1 ≤ i → 2 ^ 52 ≤ m) :
    (FloatKind.f64.format.order (fw s m i) 14069245235905429504 == some .lt || FloatKind.f64.format.order (fw s m i) 14069245235905429504 == some .eq) = (s && decide (1 ≤ i)) := by
  rw [fw_nmost]
  obtain ⟨a, b, h1, h2, h3⟩ := most_vals s h hc true
  rw [h1, compare_int]
  have e2 : sg true b = -(b : Int) := rfl
  rw [e2]
  cases s
  · have e1 : sg false a = (a : Int) := rfl
    rw [e1, if_neg (by omega), if_neg (by omega)]; rfl
  · have e1 : sg true a = -(a : Int) := rfl
    rw [e1]
    by_cases hi : 1 ≤ i
    · have := h3.2 hi
      rw [decide_eq_true hi]
      by_cases he : a = b
      · rw [if_neg (by omega), if_pos (by omega)]; rfl
      · rw [if_pos (by omega)]; rfl
    · have : ¬ b ≤ a := fun hh => hi (h3.1 hh)
      rw [decide_eq_false hi, if_neg (by omega), if_neg (by omega)]; rfl
/-- A float is 0 just where its number is. -/
theorem zero_fw (s : Bool) {m : Nat} {i : Int} (h : Fit m i) : (FloatKind.f64.format.order (fw s m i) 0 == some .eq) = decide (m = 0) := by
  have hF : Fit 0 i := ⟨by omega, h.2.1, by rw [Nat.zero_mul]; omega⟩
  have e0 : (0 : Nat) = fw false 0 i := by rw [fw_zero]; rfl
  have := order_fw s false (d := i) h hF (Int.le_refl i) (Int.le_refl i)
  rw [← e0] at this
  rw [this, compare_int, show vz false 0 i i = 0 from vz_zero.2 rfl]
  by_cases hm : m = 0
  · have : vz s m i i = 0 := vz_zero.2 hm
    rw [decide_eq_true hm, this]; rfl
  · have : vz s m i i ≠ 0 := fun e => hm (vz_zero.1 e)
    rw [decide_eq_false hm]
    by_cases h4 : vz s m i i < 0
    · rw [if_pos h4]; rfl
    · rw [if_neg h4, if_neg this]; rfl

open Go Ieee

theorem ofInt_64 (a : Nat) (ha : a < 2 ^ 64) : (BitVec.ofInt 64 (a : Int)).toNat = a := by
  rw [BitVec.ofInt_natCast, BitVec.toNat_ofNat, Nat.mod_eq_of_lt ha]
theorem wrap_nat (a : Nat) (ha : a < 2 ^ 64) : IntKind.u64.wrap (a : Int) = (a : Int) := by
  rw [IntKind.wrap_u64]; omega
theorem or_sum (a b i : Nat) (hb : b < 2 ^ i) : a * 2 ^ i ||| b = a * 2 ^ i + b := by
  have := Nat.shiftLeft_add_eq_or_of_lt hb a
  rw [Nat.shiftLeft_eq] at this
  exact this.symm
theorem and_top (x : Nat) (hx : x < 2 ^ 64) : x &&& 2 ^ 63 = x / 2 ^ 63 * 2 ^ 63 := by
  obtain ⟨y, hy⟩ : ∃ y, y = x &&& 2 ^ 63 := ⟨_, rfl⟩
  have h1 : y / 2 ^ 63 = x / 2 ^ 63 % 2 := by
    rw [hy, ← Nat.shiftRight_eq_div_pow, Nat.shiftRight_and_distrib, Nat.shiftRight_eq_div_pow, Nat.shiftRight_eq_div_pow, Nat.div_self (Nat.two_pow_pos 63)]
    exact Nat.and_one_is_mod _
  have h2 : y % 2 ^ 63 = 0 := by
    rw [hy, Nat.and_mod_two_pow, Nat.mod_self, Nat.and_zero]
  rw [← hy]
  omega
/-- Clearing the exponent field. -/
theorem clear_exp (x : Nat) (hx : x < 2 ^ 64) : bits .andNot .u64 (x : Int) 9218868437227405312 = ((x / 2 ^ 63 * 2 ^ 63 + x % 2 ^ 52 : Nat) : Int) := by
  have h : (BitVec.ofInt 64 (x : Int) &&& ~~~(BitVec.ofInt 64 9218868437227405312)).toNat = x / 2 ^ 63 * 2 ^ 63 + x % 2 ^ 52 := by
    have e : ~~~(BitVec.ofInt 64 9218868437227405312) = BitVec.ofNat 64 (2 ^ 63 ||| (2 ^ 52 - 1)) := by decide
    rw [e, BitVec.toNat_and, ofInt_64 x hx, BitVec.toNat_ofNat, Nat.mod_eq_of_lt (show 2 ^ 63 ||| (2 ^ 52 - 1) < 2 ^ 64 by decide), Nat.and_or_distrib_left, Nat.and_two_pow_sub_one_eq_mod, and_top x hx]
    exact or_sum _ _ 63 (by omega)
  show IntKind.u64.wrap ((BitVec.ofInt 64 (x : Int) &&& ~~~(BitVec.ofInt 64 9218868437227405312)).toNat : Int) = _
  rw [h, wrap_nat _ (by omega)]
/-- Setting it where it is clear. -/
theorem set_exp (s f e : Nat) (hs : s < 2) (hf : f < 2 ^ 52) (he : e < 2 ^ 11) : bits .or .u64 ((s * 2 ^ 63 + f : Nat) : Int) ((e * 2 ^ 52 : Nat) : Int) = ((s * 2 ^ 63 + (e * 2 ^ 52 + f) : Nat) : Int) := by
  show IntKind.u64.wrap ((BitVec.ofInt 64 ((s * 2 ^ 63 + f : Nat) : Int) ||| BitVec.ofInt 64 ((e * 2 ^ 52 : Nat) : Int)).toNat : Int) = _
  rw [BitVec.toNat_or, ofInt_64 _ (by omega), ofInt_64 _ (by omega)]
  have h : (s * 2 ^ 63 + f) ||| e * 2 ^ 52 = s * 2 ^ 63 + (e * 2 ^ 52 + f) := by
    rw [← or_sum s f 63 (by omega), Nat.or_assoc, Nat.or_comm f, or_sum e f 52 hf, or_sum s _ 63 (by omega)]
  rw [h, wrap_nat _ (by omega)]
/-- Reading it. -/
theorem get_exp (x : Nat) (hx : x < 2 ^ 64) : bits .and .u64 ((x / 2 ^ 52 : Nat) : Int) 2047 = ((x / 2 ^ 52 % 2 ^ 11 : Nat) : Int) := by
  show IntKind.u64.wrap ((BitVec.ofInt 64 ((x / 2 ^ 52 : Nat) : Int) &&& BitVec.ofInt 64 2047).toNat : Int) = _
  have e : (BitVec.ofInt 64 2047).toNat = 2 ^ 11 - 1 := by decide
  rw [BitVec.toNat_and, ofInt_64 _ (by omega), e, Nat.and_two_pow_sub_one_eq_mod, wrap_nat _ (by omega)]

/-- The word of a float with all 53 bits. -/
theorem fw_word (s : Bool) {m : Nat} {i : Int} (h1 : 2 ^ 52 ≤ m) (h2 : m < 2 ^ 53) (h3 : -1074 ≤ i) (h4 : i ≤ 971) : fw s m i = s.toNat * 2 ^ 63 + ((i + 1075).toNat * 2 ^ 52 + (m - 2 ^ 52)) := by
  have hc : Canon f64 m i := by
    unfold Canon
    rw [f64_bin, f64_low]
    omega
  have hf := canon_fin hc h4
  unfold fw rungOf Format.word
  rw [Nat.min_eq_left (by omega), rawRung_canon f64 hc, f64_bin, f64_low, f64_sw]
  cases s
  · rw [if_neg (by decide)]
    simp only [Bool.toNat_false]
    omega
  · rw [if_pos rfl]
    simp only [Bool.toNat_true]
    omega
/-- Each float but 0 with all 53 bits, at whatever place. -/
theorem norm_of {m : Nat} (hm : m ≠ 0) (h : m < 2 ^ 53) : ∃ k : Nat, k ≤ 52 ∧ 2 ^ 52 ≤ m * 2 ^ k ∧ m * 2 ^ k < 2 ^ 53 ∧ m.log2 + k = 52 := by
  have l1 := log_le hm
  have l2 := lt_two_log m
  have l3 : m.log2 ≤ 52 := by
    have : 2 ^ m.log2 < 2 ^ 53 := by omega
    have := (Nat.pow_lt_pow_iff_right (by omega : 1 < 2)).1 this
    omega
  refine ⟨52 - m.log2, by omega, ?_, ?_, by omega⟩
  · have a1 : 2 ^ m.log2 * 2 ^ (52 - m.log2) ≤ m * 2 ^ (52 - m.log2) := Nat.mul_le_mul_right _ l1
    rw [← Nat.pow_add, show m.log2 + (52 - m.log2) = 52 by omega] at a1
    exact a1
  · have a1 : m * 2 ^ (52 - m.log2) < 2 ^ (m.log2 + 1) * 2 ^ (52 - m.log2) := (Nat.mul_lt_mul_right (Nat.two_pow_pos _)).2 l2
    rw [← Nat.pow_add, show m.log2 + 1 + (52 - m.log2) = 53 by omega] at a1
    exact a1

/-- A number rounded to 53 bits, at the place q. -/
def rnd (a : Nat) (e q : Int) : Nat := rne (a * 2 ^ (e - q).toNat) (q - e).toNat
def plc (a : Nat) (e : Int) : Int := max (e + a.log2 - 52) (-1074)
theorem rnd_facts {a : Nat} (ha : a ≠ 0) (e : Int) : rawRung f64 a e = (plc a e + 1074).toNat * 2 ^ 52 + rnd a e (plc a e) ∧ rnd a e (plc a e) ≤ 2 ^ 53 ∧ (plc a e = -1074 ∨ 2 ^ 52 ≤ rnd a e (plc a e)) := by
  obtain ⟨q, hq⟩ : ∃ q, plc a e = q := ⟨_, rfl⟩
  have hq' : q = max (e + a.log2 - 52) (-1074) := by rw [← hq]; rfl
  refine ⟨?_, ?_, ?_⟩
  · unfold rawRung
    rw [if_neg ha, hq]
    simp only [cut_rne, Nat.shiftLeft_eq, f64_fb, f64_low, f64_bin]
    have : max (e + (a.log2 : Int) - ((52 : Nat) : Int)) (-1074) = q := by omega
    rw [this]
    unfold rnd
    congr 1
  · rw [hq]
    unfold rnd
    have l2 := lt_two_log a
    by_cases h : q ≤ e
    · rw [show (q - e).toNat = 0 by omega]
      have h0 := rne_exact (a * 2 ^ (e - q).toNat) 0
      rw [Nat.pow_zero, Nat.mul_one] at h0
      rw [h0]
      have a1 : a * 2 ^ (e - q).toNat < 2 ^ (a.log2 + 1) * 2 ^ (e - q).toNat := (Nat.mul_lt_mul_right (Nat.two_pow_pos _)).2 l2
      rw [← Nat.pow_add] at a1
      have a2 : 2 ^ (a.log2 + 1 + (e - q).toNat) ≤ 2 ^ 53 := Nat.pow_le_pow_right (by omega) (by omega)
      omega
    · rw [show (e - q).toNat = 0 by omega, Nat.pow_zero, Nat.mul_one]
      have h5 := rne_hi a (q - e).toNat
      have h4 : a / 2 ^ (q - e).toNat < 2 ^ 53 := by
        rw [Nat.div_lt_iff_lt_mul (Nat.two_pow_pos _), ← Nat.pow_add]
        exact Nat.lt_of_lt_of_le l2 (Nat.pow_le_pow_right (by omega) (by omega))
      omega
  · rw [hq]
    by_cases h : q = -1074
    · exact .inl h
    · right
      unfold rnd
      have l1 := log_le ha
      by_cases h2 : q ≤ e
      · rw [show (q - e).toNat = 0 by omega]
        have h0 := rne_exact (a * 2 ^ (e - q).toNat) 0
        rw [Nat.pow_zero, Nat.mul_one] at h0
        rw [h0]
        have a1 : 2 ^ a.log2 * 2 ^ (e - q).toNat ≤ a * 2 ^ (e - q).toNat := Nat.mul_le_mul_right _ l1
        rw [← Nat.pow_add, show a.log2 + (e - q).toNat = 52 by omega] at a1
        exact a1
      · rw [show (e - q).toNat = 0 by omega, Nat.pow_zero, Nat.mul_one]
        have h5 := rne_lo a (q - e).toNat
        have h4 : 2 ^ 52 ≤ a / 2 ^ (q - e).toNat := by
          rw [Nat.le_div_iff_mul_le (Nat.two_pow_pos _), ← Nat.pow_add, show 52 + (q - e).toNat = a.log2 by omega]
          exact l1
        omega
/-- What is rounded stays as it is. -/
theorem rung_rnd {a : Nat} (ha : a ≠ 0) (e : Int) : rawRung f64 (rnd a e (plc a e)) (plc a e) = rawRung f64 a e := by
  obtain ⟨h1, h2, h3⟩ := rnd_facts ha e
  rw [h1]
  obtain ⟨q, hq⟩ : ∃ q, plc a e = q := ⟨_, rfl⟩
  have hq' : -1074 ≤ q := by rw [← hq]; unfold plc; omega
  rw [hq] at h2 h3 ⊢
  generalize rnd a e q = r at h2 h3
  by_cases hr : r = 2 ^ 53
  · have hc : Canon f64 (2 ^ 52) (q + 1) := by
      unfold Canon; rw [f64_bin, f64_low]; omega
    have := rawRung_shift f64 (2 ^ 52) (q + 1) 1
    rw [show (q + 1 - ((1 : Nat) : Int)) = q by omega, rawRung_canon f64 hc, f64_bin, f64_low] at this
    rw [hr, show (2 : Nat) ^ 53 = 2 ^ 52 * 2 ^ 1 by rfl, this]
    omega
  · have hc : Canon f64 r q := by
      unfold Canon; rw [f64_bin, f64_low]; omega
    rw [rawRung_canon f64 hc, f64_bin, f64_low]
    omega
theorem fw_rnd (s : Bool) (a : Nat) (e : Int) (ha : a ≠ 0) : fw s (rnd a e (plc a e)) (plc a e) = fw s a e := by
  unfold fw rungOf
  rw [rung_rnd ha]

open Go Ieee

/-- A sum's float is that of the sum. -/
theorem add_fw (s t : Bool) {m n : Nat} {i j d : Int} (h : Fit m i) (g : Fit n j) (hi : d ≤ i) (hj : d ≤ j) (S : Int) (hS : S = vz s m i d + vz t n j d) :
    floatBits .add .f64 (fw s m i) (fw t n j) = some (fw (if S = 0 then s && t else decide (S < 0)) S.natAbs d) := by
  obtain ⟨k, hr, _⟩ := read_fw s h
  obtain ⟨l, hq, _⟩ := read_fw t g
  show Format.add f64 _ _ = _
  unfold Format.add
  rw [hr, hq]
  simp only [Datum.sum, Option.map_some, Format.write]
  obtain ⟨b, hb⟩ : ∃ b : Int, b = min (i - k) (j - l) := ⟨_, rfl⟩
  rw [← hb]
  have ht : signed s (m * 2 ^ k) (i - (k : Int) - b).toNat + signed t (n * 2 ^ l) (j - (l : Int) - b).toNat = vz s m i b + vz t n j b := by
    rw [← vz_shift s m i b k (by omega), ← vz_shift t n j b l (by omega)]
    rfl
  rw [ht]
  obtain ⟨T, hT⟩ : ∃ T, T = vz s m i b + vz t n j b := ⟨_, rfl⟩
  rw [← hT]
  obtain ⟨c, hc⟩ : ∃ c : Int, c = min b d := ⟨_, rfl⟩
  have e1 : T * 2 ^ (b - c).toNat = vz s m i c + vz t n j c := by
    rw [hT, Int.add_mul, ← vz_low _ _ (by omega), ← vz_low _ _ (by omega), show b - ((b - c).toNat : Int) = c by omega]
  have e2 : S * 2 ^ (d - c).toNat = vz s m i c + vz t n j c := by
    rw [hS, Int.add_mul, ← vz_low _ _ (by omega), ← vz_low _ _ (by omega), show d - ((d - c).toNat : Int) = c by omega]
  have e3 : T * 2 ^ (b - c).toNat = S * 2 ^ (d - c).toNat := by rw [e1, e2]
  have p1 : (0 : Int) < 2 ^ (b - c).toNat := Int.pow_pos (by omega)
  have p2 : (0 : Int) < 2 ^ (d - c).toNat := Int.pow_pos (by omega)
  have z1 : T = 0 ↔ S = 0 := by
    constructor
    · intro hh
      rw [hh, Int.zero_mul] at e3
      rcases Int.mul_eq_zero.1 e3.symm with h0 | h0
      · exact h0
      · omega
    · intro hh
      rw [hh, Int.zero_mul] at e3
      rcases Int.mul_eq_zero.1 e3 with h0 | h0
      · exact h0
      · omega
  have z2 : T < 0 ↔ S < 0 := by
    have a1 : T < 0 ↔ T * 2 ^ (b - c).toNat < 0 := ⟨fun hh => Int.mul_neg_of_neg_of_pos hh p1, fun hh => by
      rcases Int.lt_or_le T 0 with h0 | h0
      · exact h0
      · have := Int.mul_nonneg h0 (Int.le_of_lt p1); omega⟩
    have a2 : S < 0 ↔ S * 2 ^ (d - c).toNat < 0 := ⟨fun hh => Int.mul_neg_of_neg_of_pos hh p2, fun hh => by
      rcases Int.lt_or_le S 0 with h0 | h0
      · exact h0
      · have := Int.mul_nonneg h0 (Int.le_of_lt p2); omega⟩
    rw [a1, a2, e3]
  rw [nearest_rung]
  congr 1
  have hr2 : rungOf T.natAbs b = rungOf S.natAbs d := by
    have a1 := rungOf_shift T.natAbs b (b - c).toNat
    have a2 := rungOf_shift S.natAbs d (d - c).toNat
    rw [show b - ((b - c).toNat : Int) = c by omega] at a1
    rw [show d - ((d - c).toNat : Int) = c by omega] at a2
    have a3 := congrArg Int.natAbs e3
    rw [Int.natAbs_mul, Int.natAbs_mul, Int.natAbs_pow, Int.natAbs_pow] at a3
    rw [← a1, ← a2]
    have a4 : (2 : Int).natAbs = 2 := rfl
    rw [a4] at a3
    rw [a3]
  unfold fw
  rw [hr2]
  have hc1 : (if T = 0 then s && t else decide (T < 0)) = (if S = 0 then s && t else decide (S < 0)) := by
    by_cases h0 : S = 0
    · rw [if_pos h0, if_pos (z1.2 h0)]
    · rw [if_neg h0, if_neg (fun hh => h0 (z1.1 hh))]
      exact decide_eq_decide.2 z2
  rw [hc1]

theorem vz_false (m : Nat) : vz false m 0 0 = (m : Int) := by
  unfold vz signed
  simp
/-- Two whole floats below 2^53. -/
theorem add_whole {a b : Nat} (ha : a < 2 ^ 53) (hb : b < 2 ^ 53) : floatBits .add .f64 (fw false a 0) (fw false b 0) = some (fw false (a + b) 0) := by
  rw [add_fw false false (d := 0) (Fit.of ha (by omega) (by omega)) (Fit.of hb (by omega) (by omega)) (Int.le_refl 0) (Int.le_refl 0) ((a + b : Nat) : Int) (by rw [vz_false, vz_false]; omega)]
  have h1 : (if (((a + b : Nat) : Int)) = 0 then (false && false) else decide (((a + b : Nat) : Int) < 0)) = false := by
    split
    · rfl
    · exact decide_eq_false (by omega)
  rw [h1]
  rfl
theorem rung_big {r : Nat} {i : Int} (h1 : r < 2 ^ 53) (h2 : -1074 ≤ i) (h : ¬ Fit r i) : rungOf r i = 0x7ff0000000000000 := by
  have h3 : 2 ^ 53 ≤ r * 2 ^ (i - 971).toNat := by
    unfold Fit at h
    have : ¬ r * 2 ^ (i - 971).toNat < 2 ^ 53 := fun hh => h ⟨h1, h2, hh⟩
    omega
  have hi : 971 < i := by
    rcases Int.lt_or_le 971 i with h0 | h0
    · exact h0
    · rw [show (i - 971).toNat = 0 by omega, Nat.pow_zero, Nat.mul_one] at h3; omega
  have hc : Canon f64 (2 ^ 52) 972 := by
    unfold Canon; rw [f64_bin, f64_low]; omega
  have e1 : rawRung f64 (2 ^ 53) 971 = 0x7ff0000000000000 := by
    have := rawRung_shift f64 (2 ^ 52) 972 1
    rw [show ((972 : Int) - ((1 : Nat) : Int)) = 971 by omega, rawRung_canon f64 hc, f64_bin, f64_low] at this
    rw [show (2 : Nat) ^ 53 = 2 ^ 52 * 2 ^ 1 from by rw [← Nat.pow_add], this]
    decide +kernel
  have e2 := rawRung_mono f64 (m := 2 ^ 53) (n := r) (i := 971) (j := i) (c := 971) (Int.le_refl _) (by omega) (by simpa using h3)
  unfold rungOf
  omega
theorem mul_inf (s : Bool) {n : Nat} {j : Int} (t : Bool) (g : Fit n j) (hn : n ≠ 0) : floatBits .mul .f64 (f64.word s 0x7ff0000000000000) (fw t n j) = some (f64.word (s ^^ t) 0x7ff0000000000000) := by
  obtain ⟨l, hq, _⟩ := read_fw t g
  show Format.mul f64 _ _ = _
  unfold Format.mul
  rw [read_inf, hq]
  have h0 : n * 2 ^ l ≠ 0 := by
    have := Nat.mul_pos (Nat.pos_of_ne_zero hn) (Nat.two_pow_pos l)
    omega
  simp only [Datum.product, if_neg h0, Option.map_some, Format.write]
  rw [f64_inf]
theorem two_fit : Fit 1 1 := Fit.of (by omega) (by omega) (by omega)
/-- Doubling, past the greatest float too. -/
theorem dbl_fw (s : Bool) {r : Nat} {i : Int} (h1 : r ≤ 2 ^ 53) (h2 : -1074 ≤ i) : floatBits .mul .f64 (fw s r i) 4611686018427387904 = some (fw s r (i + 1)) := by
  have main : ∀ (r : Nat) (i : Int), r < 2 ^ 53 → -1074 ≤ i → floatBits .mul .f64 (fw s r i) 4611686018427387904 = some (fw s r (i + 1)) := fun r i h1 h2 => by
    have hx : (s ^^ false) = s := by cases s <;> rfl
    by_cases hF : Fit r i
    · rw [fw_two, mul_fw s false hF two_fit, Nat.mul_one, hx]
    · have e1 := rung_big h1 h2 hF
      have hF2 : ¬ Fit r (i + 1) := fun hh => hF ⟨h1, h2, by
        have a1 := hh.2.2
        have a2 : 2 ^ (i - 971).toNat ≤ 2 ^ (i + 1 - 971).toNat := Nat.pow_le_pow_right (by omega) (by omega)
        have a3 := Nat.mul_le_mul_left r a2
        omega⟩
      have e2 := rung_big h1 (by omega : -1074 ≤ i + 1) hF2
      unfold fw at *
      rw [e1, e2, fw_two]
      have := mul_inf s false two_fit (by omega)
      rw [hx] at this
      exact this
  by_cases h0 : r = 2 ^ 53
  · have a1 := fw_shift s (2 ^ 52) (i + 1) 1
    have a2 := fw_shift s (2 ^ 52) (i + 1 + 1) 1
    rw [show i + 1 - ((1 : Nat) : Int) = i by omega] at a1
    rw [show i + 1 + 1 - ((1 : Nat) : Int) = i + 1 by omega] at a2
    have e : r = 2 ^ 52 * 2 ^ 1 := by rw [h0]
    rw [e, a1, a2]
    exact main (2 ^ 52) (i + 1) (by omega) (by omega)
  · exact main r i (by omega) h2
/-- Halving what is a float as it stands. -/
theorem hlf_fw (s : Bool) {r : Nat} {i : Int} (h1 : r ≤ 2 ^ 53) (h2 : -1074 ≤ i) (h3 : i ≤ 0) : floatBits .quo .f64 (fw s r i) 4611686018427387904 = some (fw s r (i - 1)) := by
  by_cases h0 : r = 2 ^ 53
  · have a1 := fw_shift s (2 ^ 52) (i + 1) 1
    have a2 := fw_shift s (2 ^ 52) i 1
    rw [show i + 1 - ((1 : Nat) : Int) = i by omega] at a1
    rw [show i - ((1 : Nat) : Int) = i - 1 by omega] at a2
    have e : r = 2 ^ 52 * 2 ^ 1 := by rw [h0]
    rw [e, a1, a2]
    have := half_fw s (m := 2 ^ 52) (i := i + 1) (Fit.of (by omega) (by omega) (by omega))
    rw [show i + 1 - 1 = i by omega] at this
    exact this
  · exact half_fw s (Fit.of (by omega) h2 (by omega))

open Go Ieee

theorem abs_fw (s : Bool) (m : Nat) (i : Int) : fw s m i % 2 ^ 63 = fw false m i := by
  have h := rungOf_le m i
  unfold fw Format.word
  rw [f64_sw]
  cases s
  · rw [if_neg (by decide)]; omega
  · rw [if_pos rfl, if_neg (by decide)]; omega
theorem fw_least : (4503599627370496 : Nat) = fw false (2 ^ 52) (-1074) := by decide +kernel
theorem fw_52 : (4841369599423283200 : Nat) = fw false 1 52 := by
  rw [← fw_shift false 1 52 52]
  decide +kernel
theorem log2_ge {n k : Nat} (h : 2 ^ k ≤ n) : k ≤ n.log2 := by
  have h2 := lt_two_log n
  have : 2 ^ k < 2 ^ (n.log2 + 1) := by omega
  have := (Nat.pow_lt_pow_iff_right (by omega : 1 < 2)).1 this
  omega
/-- Below the least normal float. -/
theorem small_fw {m : Nat} {i : Int} (h : Fit m i) : (FloatKind.f64.format.order (fw false m i) 4503599627370496 == some .lt) = decide (m * 2 ^ (i + 1074).toNat < 2 ^ 52) := by
  have hF : Fit (2 ^ 52) (-1074) := Fit.of (by omega) (by omega) (by omega)
  rw [fw_least, order_fw false false (d := -1074) h hF h.2.1 (Int.le_refl _), compare_int]
  have e1 : vz false m i (-1074) = ((m * 2 ^ (i + 1074).toNat : Nat) : Int) := by
    unfold vz signed
    rw [Nat.shiftLeft_eq, show i - -1074 = i + 1074 by omega]
    rfl
  have e2 : vz false (2 ^ 52) (-1074) (-1074) = ((2 ^ 52 : Nat) : Int) := by
    unfold vz signed
    rfl
  rw [e1, e2]
  generalize m * 2 ^ (i + 1074).toNat = a
  by_cases hh : a < 2 ^ 52
  · rw [decide_eq_true hh, if_pos (by omega)]; rfl
  · rw [decide_eq_false hh, if_neg (by omega)]
    split <;> rfl

def Normed (s : Bool) (m : Nat) (i : Int) (w : World) (e : Ending) (w' : World) : Prop :=
  ∃ d : Nat, d ≤ 52 ∧ e = .returned (.tuple #[.float .f64 (fw s m (i + d)), .int .i64 (-(d : Int))]) ∧ w = w' ∧ (m ≠ 0 → -1022 ≤ i + d + m.log2) ∧ Fit m (i + d)

/-- The fields of a normal float. -/
theorem fields_fw (s : Bool) {m : Nat} {i : Int} {k : Nat} (h : Fit m i) (hm : m ≠ 0) (hn : -1022 ≤ i + m.log2) (h1 : 2 ^ 52 ≤ m * 2 ^ k) (h2 : m * 2 ^ k < 2 ^ 53) (h3 : m.log2 + k = 52) :
    i - k ≤ 971 ∧ fw s m i = s.toNat * 2 ^ 63 + ((i - k + 1075).toNat * 2 ^ 52 + (m * 2 ^ k - 2 ^ 52)) := by
  have hle : i - k ≤ 971 := by
    obtain ⟨_, _, h4⟩ := h
    have hh : ¬ (k + 1 ≤ (i - 971).toNat) := fun hh => by
      have a1 : 2 ^ (k + 1) ≤ 2 ^ (i - 971).toNat := Nat.pow_le_pow_right (by omega) hh
      have a2 := Nat.mul_le_mul_left m a1
      rw [Nat.pow_succ, ← Nat.mul_assoc] at a2
      omega
    omega
  refine ⟨hle, ?_⟩
  rw [← fw_shift s m i k, fw_word s h1 h2 (by omega) hle]

/-- The whole and the place of a float, with all 53 bits. -/
def Split (s : Bool) (m : Nat) (i : Int) (w : World) (e : Ending) (w' : World) : Prop :=
  ∃ k : Nat, k ≤ 52 ∧ 2 ^ 52 ≤ m * 2 ^ k ∧ m * 2 ^ k < 2 ^ 53 ∧ e = .returned (.tuple #[.float .f64 (fw s (m * 2 ^ k) (-53)), .int .i64 (i - k + 53)]) ∧ w = w'

open Go Ieee
theorem sign_fw (t : Bool) (n : Nat) (j : Int) : fw t n j = t.toNat * 2 ^ 63 + fw false n j := by
  unfold fw Format.word
  rw [f64_sw]
  cases t
  · rw [if_neg (by decide)]; simp
  · rw [if_pos rfl, if_neg (by decide)]; simp
theorem fw_false_lt (n : Nat) (j : Int) : fw false n j < 2 ^ 63 := by
  have h := rungOf_le n j
  unfold fw Format.word
  rw [if_neg (by decide)]
  omega
/-- The sign bit alone. -/
theorem get_sign (y : Nat) (hy : y < 2 ^ 64) : bits .and .u64 (y : Int) 9223372036854775808 = ((y / 2 ^ 63 * 2 ^ 63 : Nat) : Int) := by
  show IntKind.u64.wrap ((BitVec.ofInt 64 (y : Int) &&& BitVec.ofInt 64 9223372036854775808).toNat : Int) = _
  have e : (BitVec.ofInt 64 9223372036854775808).toNat = 2 ^ 63 := by decide
  rw [BitVec.toNat_and, ofInt_64 _ hy, e, and_top y hy, wrap_nat _ (by omega)]
theorem drop_sign (x : Nat) : bits .andNot .u64 (x : Int) 9223372036854775808 = ((x % 2 ^ 63 : Nat) : Int) := by
  have h := bits_abs x
  have h2 : 0 ≤ bits .andNot .u64 (x : Int) 9223372036854775808 := by
    show 0 ≤ IntKind.u64.wrap _
    rw [IntKind.wrap_u64]
    omega
  omega
theorem set_sign (x t : Nat) (hx : x < 2 ^ 63) (ht : t < 2) : bits .or .u64 (x : Int) ((t * 2 ^ 63 : Nat) : Int) = ((t * 2 ^ 63 + x : Nat) : Int) := by
  show IntKind.u64.wrap ((BitVec.ofInt 64 (x : Int) ||| BitVec.ofInt 64 ((t * 2 ^ 63 : Nat) : Int)).toNat : Int) = _
  rw [BitVec.toNat_or, ofInt_64 _ (by omega), ofInt_64 _ (by omega), Nat.or_comm, or_sum t x 63 hx, wrap_nat _ (by omega)]

/-- The exponent field, by Go's int. -/
theorem get_exp_i (x : Nat) (hx : x < 2 ^ 64) : bits .and .i64 ((x / 2 ^ 52 : Nat) : Int) 2047 = ((x / 2 ^ 52 % 2 ^ 11 : Nat) : Int) := by
  show IntKind.i64.wrap ((BitVec.ofInt 64 ((x / 2 ^ 52 : Nat) : Int) &&& BitVec.ofInt 64 2047).toNat : Int) = _
  have e : (BitVec.ofInt 64 2047).toNat = 2 ^ 11 - 1 := by decide
  rw [BitVec.toNat_and, ofInt_64 _ (by omega), e, Nat.and_two_pow_sub_one_eq_mod, IntKind.wrap_i64]
  omega
theorem fw_one : (4607182418800017408 : Nat) = fw false 1 0 := by
  have := fw_shift false 1 0 52
  rw [← this]
  decide +kernel
theorem fw_tiny : (4368491638549381120 : Nat) = fw false 1 (-53) := by
  have := fw_shift false 1 (-53) 52
  rw [← this]
  decide +kernel

end Go.Proofs.Ytabpgkkickdopaa
