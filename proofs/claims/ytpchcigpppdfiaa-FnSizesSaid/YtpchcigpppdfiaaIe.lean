/-
  Rounding to a float: it depends on the value alone, keeps the order, and leaves what a float has as it is. Plain facts on 'Ieee'. No conditions.
-/
import Derived.Laws.FloatBits
namespace Go.Proofs.Ytpchcigpppdfiaa
set_option linter.unusedVariables false
open Ieee

/-- n / 2^d, rounded to nearest, ties to even. -/
def rne (n d : Nat) : Nat := n / 2 ^ d + if 2 ^ d < 2 * (n % 2 ^ d) ∨ (2 ^ d = 2 * (n % 2 ^ d) ∧ n / 2 ^ d % 2 = 1) then 1 else 0

theorem rne_zero_of_small {n d : Nat} (h : 2 * n < 2 ^ d) : rne n d = 0 := by
  unfold rne
  have h1 : n < 2 ^ d := by omega
  rw [Nat.div_eq_of_lt h1, Nat.mod_eq_of_lt h1]
  rw [if_neg (by omega)]

theorem cut_gap (s : Bool) (n drop : Nat) : Toward.even.cut s n drop = rne n (min drop (n.log2 + 2)) := by
  unfold Toward.cut rne
  simp only [Nat.shiftLeft_eq, Nat.one_mul]
  congr 1
  by_cases h : 2 ^ min drop (n.log2 + 2) < 2 * (n % 2 ^ min drop (n.log2 + 2)) ∨ (2 ^ min drop (n.log2 + 2) = 2 * (n % 2 ^ min drop (n.log2 + 2)) ∧ n / 2 ^ min drop (n.log2 + 2) % 2 = 1)
  · rw [if_pos h]
    have : (decide (2 ^ min drop (n.log2 + 2) < 2 * (n % 2 ^ min drop (n.log2 + 2))) || (2 ^ min drop (n.log2 + 2) == 2 * (n % 2 ^ min drop (n.log2 + 2)) && n / 2 ^ min drop (n.log2 + 2) % 2 == 1)) = true := by
      simpa using h
    rw [this]; rfl
  · rw [if_neg h]
    have : (decide (2 ^ min drop (n.log2 + 2) < 2 * (n % 2 ^ min drop (n.log2 + 2))) || (2 ^ min drop (n.log2 + 2) == 2 * (n % 2 ^ min drop (n.log2 + 2)) && n / 2 ^ min drop (n.log2 + 2) % 2 == 1)) = false := by
      rw [Bool.eq_false_iff]
      intro hh
      exact h (by simpa using hh)
    rw [this]; rfl

theorem lt_two_log (n : Nat) : n < 2 ^ (n.log2 + 1) := Nat.lt_log2_self
theorem log_le {n : Nat} (h : n ≠ 0) : 2 ^ n.log2 ≤ n := Nat.log2_self_le h

theorem cut_rne (s : Bool) (n drop : Nat) : Toward.even.cut s n drop = rne n drop := by
  rw [cut_gap]
  by_cases h : drop ≤ n.log2 + 2
  · rw [Nat.min_eq_left h]
  · rw [Nat.min_eq_right (by omega)]
    have h1 := lt_two_log n
    have h2 : 2 ^ (n.log2 + 2) = 2 * 2 ^ (n.log2 + 1) := by rw [Nat.pow_succ]; omega
    have h3 : 2 ^ (n.log2 + 2) ≤ 2 ^ drop := Nat.pow_le_pow_right (by omega) (by omega)
    rw [rne_zero_of_small (by omega), rne_zero_of_small (by omega)]

theorem rne_scale (n d k : Nat) : rne (n * 2 ^ k) (d + k) = rne n d := by
  unfold rne
  have hk : 0 < 2 ^ k := Nat.two_pow_pos k
  have e1 : n * 2 ^ k / 2 ^ (d + k) = n / 2 ^ d := by
    rw [Nat.pow_add, Nat.mul_div_mul_right _ _ hk]
  have e2 : n * 2 ^ k % 2 ^ (d + k) = (n % 2 ^ d) * 2 ^ k := by
    rw [Nat.pow_add, Nat.mul_mod_mul_right]
  rw [e1, e2, Nat.pow_add]
  have i1 : (2 ^ d * 2 ^ k < 2 * (n % 2 ^ d * 2 ^ k)) ↔ (2 ^ d < 2 * (n % 2 ^ d)) := by
    rw [← Nat.mul_assoc]; exact Nat.mul_lt_mul_right hk
  have i2 : (2 ^ d * 2 ^ k = 2 * (n % 2 ^ d * 2 ^ k)) ↔ (2 ^ d = 2 * (n % 2 ^ d)) := by
    rw [← Nat.mul_assoc]; exact Nat.mul_left_inj (by omega)
  simp only [i1, i2]

theorem rne_exact (n d : Nat) : rne (n * 2 ^ d) d = n := by
  unfold rne
  have hd : 0 < 2 ^ d := Nat.two_pow_pos d
  rw [Nat.mul_div_cancel _ hd, Nat.mul_mod_left, if_neg (by omega)]
  rfl

theorem rne_lo (n d : Nat) : n / 2 ^ d ≤ rne n d := by unfold rne; omega
theorem rne_hi (n d : Nat) : rne n d ≤ n / 2 ^ d + 1 := by unfold rne; split <;> omega

theorem rne_mono {n n' : Nat} (h : n ≤ n') (d : Nat) : rne n d ≤ rne n' d := by
  have hd : 0 < 2 ^ d := Nat.two_pow_pos d
  have hq : n / 2 ^ d ≤ n' / 2 ^ d := Nat.div_le_div_right h
  by_cases e : n / 2 ^ d = n' / 2 ^ d
  · have h1 := Nat.div_add_mod n (2 ^ d)
    have h2 := Nat.div_add_mod n' (2 ^ d)
    unfold rne
    rw [← e] at h2 ⊢
    have hr : n % 2 ^ d ≤ n' % 2 ^ d := by omega
    generalize n % 2 ^ d = r at *
    generalize n' % 2 ^ d = r' at *
    generalize 2 ^ d = p at *
    split <;> split <;> omega
  · have := rne_hi n d
    have := rne_lo n' d
    omega

section
variable (f : Format)

/-- The rung of a magnitude, before infinity cuts it off. -/
def rawRung (mag : Nat) (place : Int) : Nat :=
  if mag = 0 then 0 else
  let last := max (place + mag.log2 - f.fractionBits) f.leastPlace
  (last - f.leastPlace).toNat * f.binade + Toward.even.cut false (mag <<< (place - last).toNat) (last - place).toNat

theorem nearest_eq (s : Bool) (mag : Nat) (place : Int) : f.nearest s mag place = f.word s (min (rawRung f mag place) f.infRung) := by
  unfold Format.nearest rawRung
  by_cases h : mag = 0
  · rw [if_pos h, if_pos h, Nat.min_eq_left (Nat.zero_le _)]
  · rw [if_neg h, if_neg h]
    simp only [cut_rne]

theorem log2_shift {m : Nat} (h : m ≠ 0) (k : Nat) : (m * 2 ^ k).log2 = m.log2 + k := by
  have hk : 0 < 2 ^ k := Nat.two_pow_pos k
  have h1 := log_le h
  have h2 := lt_two_log m
  have hm : m * 2 ^ k ≠ 0 := by
    have := Nat.mul_pos (Nat.pos_of_ne_zero h) hk
    omega
  rw [Nat.log2_eq_iff hm]
  constructor
  · rw [Nat.pow_add]; exact Nat.mul_le_mul_right _ h1
  · rw [show m.log2 + k + 1 = (m.log2 + 1) + k by omega, Nat.pow_add]
    exact (Nat.mul_lt_mul_right hk).2 h2

/-- Only the value counts: twice the magnitude at the place below. -/
theorem rawRung_shift (m : Nat) (i : Int) (k : Nat) : rawRung f (m * 2 ^ k) (i - k) = rawRung f m i := by
  unfold rawRung
  by_cases h : m = 0
  · subst h; simp
  · have hk : 0 < 2 ^ k := Nat.two_pow_pos k
    have hm : m * 2 ^ k ≠ 0 := by
      have := Nat.mul_pos (Nat.pos_of_ne_zero h) hk
      omega
    rw [if_neg h, if_neg hm, log2_shift h]
    have e : (i - k : Int) + ((m.log2 + k : Nat) : Int) - f.fractionBits = i + m.log2 - f.fractionBits := by omega
    simp only [e, cut_rne, Nat.shiftLeft_eq]
    generalize max (i + (m.log2 : Int) - f.fractionBits) f.leastPlace = last
    congr 1
    by_cases h1 : last ≤ i - k
    · rw [show (last - (i - k)).toNat = 0 by omega, show (last - i).toNat = 0 by omega, Nat.mul_assoc, ← Nat.pow_add, show k + (i - k - last).toNat = (i - last).toNat by omega]
    · by_cases h2 : last ≤ i
      · obtain ⟨a, ha⟩ : ∃ a : Nat, (i - last).toNat = a := ⟨_, rfl⟩
        have hb : (last - (i - k)).toNat + a = k := by omega
        rw [show (last - i).toNat = 0 by omega, show (i - k - last).toNat = 0 by omega, ha, Nat.pow_zero, Nat.mul_one]
        have : m * 2 ^ k = (m * 2 ^ a) * 2 ^ (last - (i - k)).toNat := by
          rw [Nat.mul_assoc, ← Nat.pow_add, Nat.add_comm a, hb]
        rw [this, rne_exact]
        have h0 := rne_exact (m * 2 ^ a) 0
        rw [Nat.pow_zero, Nat.mul_one] at h0
        exact h0.symm
      · rw [show (i - k - last).toNat = 0 by omega, show (i - last).toNat = 0 by omega, Nat.pow_zero, Nat.mul_one, Nat.mul_one]
        rw [show (last - (i - k)).toNat = (last - i).toNat + k by omega, rne_scale]

/-- At a place not above the least one: the plain form. -/
theorem rawRung_low (m : Nat) (c : Int) (hm : m ≠ 0) (hc : c ≤ f.leastPlace) :
    rawRung f m c = (max (c + m.log2 - f.fractionBits) f.leastPlace - f.leastPlace).toNat * f.binade + rne m (max (c + m.log2 - f.fractionBits) f.leastPlace - c).toNat := by
  unfold rawRung
  rw [if_neg hm]
  simp only [cut_rne, Nat.shiftLeft_eq]
  rw [show (c - max (c + (m.log2 : Int) - f.fractionBits) f.leastPlace).toNat = 0 by omega, Nat.pow_zero, Nat.mul_one]

theorem log2_mono {m n : Nat} (hm : m ≠ 0) (h : m ≤ n) : m.log2 ≤ n.log2 := by
  have h1 := log_le hm
  have h2 := lt_two_log n
  have : 2 ^ m.log2 < 2 ^ (n.log2 + 1) := by omega
  have := (Nat.pow_lt_pow_iff_right (by omega : 1 < 2)).1 this
  omega

/-- Greater magnitudes have no lower rungs. -/
theorem rawRung_mono_low {m n : Nat} {c : Int} (hc : c ≤ f.leastPlace) (h : m ≤ n) : rawRung f m c ≤ rawRung f n c := by
  by_cases hm : m = 0
  · subst hm
    rw [show rawRung f 0 c = 0 from if_pos rfl]
    exact Nat.zero_le _
  · have hn : n ≠ 0 := by omega
    rw [rawRung_low f m c hm hc, rawRung_low f n c hn hc]
    have hl := log2_mono hm h
    obtain ⟨a, ha⟩ : ∃ a, a = max (c + (m.log2 : Int) - f.fractionBits) f.leastPlace := ⟨_, rfl⟩
    obtain ⟨b, hb⟩ : ∃ b, b = max (c + (n.log2 : Int) - f.fractionBits) f.leastPlace := ⟨_, rfl⟩
    rw [← ha, ← hb]
    by_cases e : a = b
    · rw [e]
      exact Nat.add_le_add_left (rne_mono h _) _
    · have hab : a < b := by omega
      -- below: at most two binades' worth of units; above: at least one
      have hB : f.binade = 2 ^ f.fractionBits := rfl
      have up : rne m (a - c).toNat ≤ 2 * f.binade := by
        have h1 := lt_two_log m
        have h2 : m.log2 + 1 ≤ (f.fractionBits + 1) + (a - c).toNat := by omega
        have h3 : m < 2 ^ (f.fractionBits + 1) * 2 ^ (a - c).toNat := by
          rw [← Nat.pow_add]
          exact Nat.lt_of_lt_of_le h1 (Nat.pow_le_pow_right (by omega) h2)
        have h4 : m / 2 ^ (a - c).toNat < 2 ^ (f.fractionBits + 1) := by
          rw [Nat.div_lt_iff_lt_mul (Nat.two_pow_pos _)]
          exact h3
        have h5 := rne_hi m (a - c).toNat
        rw [hB]
        rw [Nat.pow_succ] at h4
        omega
      have lo : f.binade ≤ rne n (b - c).toNat := by
        have h1 := log_le hn
        have h2 : f.fractionBits + (b - c).toNat = n.log2 := by omega
        have h3 : 2 ^ f.fractionBits * 2 ^ (b - c).toNat ≤ n := by
          rw [← Nat.pow_add, h2]; exact h1
        have h4 : 2 ^ f.fractionBits ≤ n / 2 ^ (b - c).toNat := by
          rw [Nat.le_div_iff_mul_le (Nat.two_pow_pos _)]; exact h3
        have h5 := rne_lo n (b - c).toNat
        rw [hB]; omega
      have hd : (a - f.leastPlace).toNat + 1 ≤ (b - f.leastPlace).toNat := by omega
      have := Nat.mul_le_mul_right f.binade hd
      rw [Nat.add_mul, Nat.one_mul] at this
      omega

/-- Rungs keep the order of values: m 2^i is at most n 2^j. -/
theorem rawRung_mono {m n : Nat} {i j c : Int} (hi : c ≤ i) (hj : c ≤ j) (h : m * 2 ^ (i - c).toNat ≤ n * 2 ^ (j - c).toNat) : rawRung f m i ≤ rawRung f n j := by
  obtain ⟨d, hd1, hd2⟩ : ∃ d : Int, d ≤ c ∧ d ≤ f.leastPlace := ⟨min c f.leastPlace, by omega, by omega⟩
  have e1 := rawRung_shift f m i (i - d).toNat
  have e2 := rawRung_shift f n j (j - d).toNat
  rw [← e1, ← e2, show i - ((i - d).toNat : Int) = d by omega, show j - ((j - d).toNat : Int) = d by omega]
  refine rawRung_mono_low f hd2 ?_
  have := Nat.mul_le_mul_right (2 ^ (c - d).toNat) h
  rw [Nat.mul_assoc, Nat.mul_assoc, ← Nat.pow_add, ← Nat.pow_add] at this
  rw [show (i - d).toNat = (i - c).toNat + (c - d).toNat by omega, show (j - d).toNat = (j - c).toNat + (c - d).toNat by omega]
  exact this
theorem rawRung_congr {m n : Nat} {i j c : Int} (hi : c ≤ i) (hj : c ≤ j) (h : m * 2 ^ (i - c).toNat = n * 2 ^ (j - c).toNat) : rawRung f m i = rawRung f n j :=
  Nat.le_antisymm (rawRung_mono f hi hj (by omega)) (rawRung_mono f hj hi (by omega))

/-- What a float has: below a binade at the least place, or from one binade on. -/
def Canon (m : Nat) (i : Int) : Prop := f.leastPlace ≤ i ∧ m < 2 * f.binade ∧ (i = f.leastPlace ∨ f.binade ≤ m)
theorem rawRung_canon {m : Nat} {i : Int} (h : Canon f m i) : rawRung f m i = (i - f.leastPlace).toNat * f.binade + m := by
  obtain ⟨h1, h2, h3⟩ := h
  have hB : f.binade = 2 ^ f.fractionBits := rfl
  by_cases hm : m = 0
  · subst hm
    have hi : i = f.leastPlace := by
      rcases h3 with h3 | h3
      · exact h3
      · have := Nat.two_pow_pos f.fractionBits; omega
    subst hi
    simp [rawRung]
  · unfold rawRung
    rw [if_neg hm]
    have hlog : m.log2 ≤ f.fractionBits := by
      have h4 := log_le hm
      have h5 : 2 ^ m.log2 < 2 ^ (f.fractionBits + 1) := by rw [Nat.pow_succ]; omega
      have := (Nat.pow_lt_pow_iff_right (by omega : 1 < 2)).1 h5
      omega
    have hlast : max (i + (m.log2 : Int) - f.fractionBits) f.leastPlace = i := by
      rcases h3 with h3 | h3
      · omega
      · have h4 := lt_two_log m
        have h5 : 2 ^ f.fractionBits < 2 ^ (m.log2 + 1) := by omega
        have := (Nat.pow_lt_pow_iff_right (by omega : 1 < 2)).1 h5
        omega
    simp only [hlast, cut_rne, Nat.shiftLeft_eq, Int.sub_self, Int.toNat_zero, Nat.pow_zero, Nat.mul_one]
    have h0 := rne_exact m 0
    rw [Nat.pow_zero, Nat.mul_one] at h0
    rw [h0]
end
end Go.Proofs.Ytpchcigpppdfiaa
