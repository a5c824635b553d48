/-
  Words of float64 and their rungs: reading a word, the order of words, sizes. Plain facts. No conditions.
-/
import Derived.Test.YtpchcigpppdfiaaIe
import Derived.Test.YtpchcigpppdfiaaFm
namespace Go.Proofs.Ytpchcigpppdfiaa
set_option linter.unusedVariables false
open Go Ieee

def f64 : Format := FloatKind.f64.format
theorem f64_sw : f64.signWeight = 2 ^ 63 := by decide
theorem f64_bin : f64.binade = 2 ^ 52 := by decide
theorem f64_inf : f64.infRung = 0x7ff0000000000000 := by decide
theorem f64_low : f64.leastPlace = -1074 := by decide
theorem f64_fb : f64.fractionBits = 52 := by decide

/-- What reading tells of a word: its rung is that of the number. -/
theorem read_canon {x : Nat} {s : Bool} {m : Nat} {i : Int} (h : f64.read x = .number s m i) :
    Canon f64 m i ∧ x % 2 ^ 63 = rawRung f64 m i ∧ x % 2 ^ 63 < 0x7ff0000000000000 ∧ s = (x / 2 ^ 63 % 2 == 1) := by
  have hc : Canon f64 m i ∧ x % 2 ^ 63 = (i - f64.leastPlace).toNat * f64.binade + m ∧ x % 2 ^ 63 < 0x7ff0000000000000 ∧ s = (x / 2 ^ 63 % 2 == 1) := by
    simp only [Format.read, f64_sw, f64_bin, f64_inf, f64_low] at h
    unfold Canon
    rw [f64_bin, f64_low]
    split at h
    · simp only [Datum.number.injEq] at h
      obtain ⟨h1, h2, h3⟩ := h
      refine ⟨⟨by omega, by omega, by omega⟩, ?_, by omega, h1.symm⟩
      rw [show (i - -1074).toNat = 0 by omega]; omega
    · split at h
      · simp only [Datum.number.injEq] at h
        obtain ⟨h1, h2, h3⟩ := h
        refine ⟨⟨by omega, by omega, by omega⟩, ?_, by omega, h1.symm⟩
        have h4 : (i - -1074).toNat = x % 2 ^ 63 / 2 ^ 52 - 1 := by omega
        rw [h4, ← h2]
        omega
      · split at h <;> cases h
  exact ⟨hc.1, by rw [rawRung_canon f64 hc.1]; exact hc.2.1, hc.2.2⟩

/-- Reading a word back. -/
theorem read_word {s : Bool} {m : Nat} {i : Int} (h : Canon f64 m i) (hr : rawRung f64 m i < 0x7ff0000000000000) : f64.read (f64.word s (rawRung f64 m i)) = .number s m i := by
  rw [rawRung_canon f64 h] at hr ⊢
  obtain ⟨h1, h2, h3⟩ := h
  rw [f64_bin, f64_low] at *
  have hw : f64.word s ((i - -1074).toNat * 2 ^ 52 + m) % 2 ^ 63 = (i - -1074).toNat * 2 ^ 52 + m ∧ (f64.word s ((i - -1074).toNat * 2 ^ 52 + m) / 2 ^ 63 % 2 == 1) = s := by
    unfold Format.word
    rw [f64_sw]
    cases s
    · rw [if_neg (by decide)]
      refine ⟨by omega, ?_⟩
      rw [show ((i - -1074).toNat * 2 ^ 52 + m) / 2 ^ 63 = 0 by omega]; rfl
    · rw [if_pos rfl]
      refine ⟨by omega, ?_⟩
      rw [show (2 ^ 63 + ((i - -1074).toNat * 2 ^ 52 + m)) / 2 ^ 63 = 1 by omega]; rfl
  simp only [Format.read, f64_sw, f64_bin, f64_inf, f64_low, hw.1, hw.2]
  by_cases hl : (i - -1074).toNat * 2 ^ 52 + m < 2 ^ 52
  · rw [if_pos hl]
    rcases h3 with h3 | h3
    · rw [show ((i - -1074).toNat * 2 ^ 52 + m) = m by rw [show (i - -1074).toNat = 0 by omega]; omega, h3]
    · omega
  · rw [if_neg hl, if_pos hr]
    have h4 : 2 ^ 52 ≤ m := by
      rcases h3 with h3 | h3
      · rw [show (i - -1074).toNat = 0 by omega] at hl; omega
      · exact h3
    have h5 : ((i - -1074).toNat * 2 ^ 52 + m) / 2 ^ 52 = (i - -1074).toNat + 1 := by omega
    have h6 : ((i - -1074).toNat * 2 ^ 52 + m) % 2 ^ 52 = m - 2 ^ 52 := by omega
    rw [h5, h6]
    simp only [Datum.number.injEq, true_and]
    constructor <;> omega

theorem read_inf (s : Bool) : f64.read (f64.word s 0x7ff0000000000000) = .infinity s := by cases s <;> decide +kernel

/-- The rung of what is nearest to m 2^i. -/
def rungOf (m : Nat) (i : Int) : Nat := min (rawRung f64 m i) 0x7ff0000000000000
theorem nearest_rung (s : Bool) (m : Nat) (i : Int) : f64.nearest s m i = f64.word s (rungOf m i) := by
  rw [nearest_eq, f64_inf]; rfl

/-- Each rung below infinity's is that of a number. -/
theorem rung_number {r : Nat} (h : r < 0x7ff0000000000000) : ∃ m i, Canon f64 m i ∧ rawRung f64 m i = r := by
  by_cases hl : r < 2 ^ 52
  · have hc : Canon f64 r (-1074) := by
      unfold Canon; rw [f64_bin, f64_low]; omega
    refine ⟨r, -1074, hc, ?_⟩
    rw [rawRung_canon f64 hc, f64_bin, f64_low]; simp
  · have hc : Canon f64 (2 ^ 52 + r % 2 ^ 52) (-1074 + ((r / 2 ^ 52 - 1 : Nat) : Int)) := by
      unfold Canon; rw [f64_bin, f64_low]; omega
    refine ⟨_, _, hc, ?_⟩
    rw [rawRung_canon f64 hc, f64_bin, f64_low]
    rw [show (-1074 + ((r / 2 ^ 52 - 1 : Nat) : Int) - -1074).toNat = r / 2 ^ 52 - 1 by omega]
    omega

theorem signed_false (m k : Nat) : signed false m k = ((m * 2 ^ k : Nat) : Int) := by unfold signed; rw [if_neg (by decide), Nat.shiftLeft_eq]
theorem signed_true (m k : Nat) : signed true m k = -((m * 2 ^ k : Nat) : Int) := by unfold signed; rw [if_pos rfl, Nat.shiftLeft_eq]

theorem compare_int {a b : Int} : compare a b = if a < b then .lt else if a = b then .eq else .gt := rfl

/-- Words without a sign compare as their rungs. -/
theorem order_word {r t : Nat} (hr : r ≤ 0x7ff0000000000000) (ht : t ≤ 0x7ff0000000000000) :
    f64.order (f64.word false r) (f64.word false t) = some (if r < t then .lt else if r = t then .eq else .gt) := by
  unfold Format.order
  by_cases h1 : r < 0x7ff0000000000000
  · obtain ⟨m, i, hc, rfl⟩ := rung_number h1
    rw [read_word hc h1]
    by_cases h2 : t < 0x7ff0000000000000
    · obtain ⟨n, j, hd, rfl⟩ := rung_number h2
      rw [read_word hd h2]
      simp only [Datum.order, signed_false, compare_int]
      congr 1
      have lo1 : min i j ≤ i := by omega
      have lo2 : min i j ≤ j := by omega
      by_cases e1 : rawRung f64 m i < rawRung f64 n j
      · rw [if_pos e1]
        have : ¬ n * 2 ^ (j - min i j).toNat ≤ m * 2 ^ (i - min i j).toNat := fun hh => by
          have := rawRung_mono f64 lo2 lo1 hh; omega
        rw [if_pos (by exact_mod_cast Nat.lt_of_not_le this)]
      · rw [if_neg e1]
        by_cases e2 : rawRung f64 m i = rawRung f64 n j
        · rw [if_pos e2]
          have r1 := read_word (s := false) hc h1
          have r2 := read_word (s := false) hd h2
          rw [e2, r2] at r1
          simp only [Datum.number.injEq, true_and] at r1
          obtain ⟨rfl, rfl⟩ := r1
          rw [if_neg (by omega), if_pos rfl]
        · rw [if_neg e2]
          have : ¬ m * 2 ^ (i - min i j).toNat ≤ n * 2 ^ (j - min i j).toNat := fun hh => by
            have := rawRung_mono f64 lo1 lo2 hh; omega
          have h3 := Nat.lt_of_not_le this
          rw [if_neg (by omega), if_neg (by omega)]
    · obtain rfl : t = 0x7ff0000000000000 := by omega
      rw [read_inf, if_pos h1]; rfl
  · obtain rfl : r = 0x7ff0000000000000 := by omega
    rw [read_inf]
    by_cases h2 : t < 0x7ff0000000000000
    · obtain ⟨n, j, hd, rfl⟩ := rung_number h2
      rw [read_word hd h2, if_neg (by omega), if_neg (by omega)]; rfl
    · obtain rfl : t = 0x7ff0000000000000 := by omega
      rw [read_inf]; rfl

/-- The value m 2^i is at most n 2^j. -/
def Le (m : Nat) (i : Int) (n : Nat) (j : Int) : Prop := ∃ c, c ≤ i ∧ c ≤ j ∧ m * 2 ^ (i - c).toNat ≤ n * 2 ^ (j - c).toNat
theorem rungOf_mono {m n : Nat} {i j : Int} (h : Le m i n j) : rungOf m i ≤ rungOf n j := by
  obtain ⟨c, h1, h2, h3⟩ := h
  have := rawRung_mono f64 h1 h2 h3
  unfold rungOf; omega
theorem rungOf_le (m : Nat) (i : Int) : rungOf m i ≤ 0x7ff0000000000000 := Nat.min_le_right _ _
end Go.Proofs.Ytpchcigpppdfiaa
