/-
  Contract: shifts of magnitudes down. Conditions: the limbs can be read.
-/
import Derived.Test.YtpchcigpppdfiaaVf
namespace Go.Proofs.Ytpchcigpppdfiaa
set_option linter.unusedVariables false
open Go Go.RowKit

theorem blen_le {n K : Nat} : blen n ≤ (K : Int) ↔ n < 2 ^ K := by
  by_cases h : n = 0
  · subst h
    have : 0 < 2 ^ K := Nat.pow_pos (by omega)
    simp [blen, this]
  have hp := dig_length_pos h
  obtain ⟨h1, h2⟩ := last_bounds h
  rw [blen_pos h]
  have hlast : (dig n).getD ((dig n).length - 1) 0 < 16777216 := getD_lt (small_dig n) _
  have hne : (dig n).getD ((dig n).length - 1) 0 ≠ 0 := by
    rw [getD_of_lt (by omega : (dig n).length - 1 < (dig n).length)]
    exact (norm_dig n).2 hp
  obtain ⟨b1, b2, b3⟩ := bit_bounds hlast hne
  generalize (dig n).getD ((dig n).length - 1) 0 = d at *
  obtain ⟨q, hq⟩ : ∃ q, q = Lib.bitLen d := ⟨_, rfl⟩
  rw [← hq] at b1 b2 b3 ⊢
  obtain ⟨l, hl⟩ : ∃ l, l = (dig n).length - 1 := ⟨_, rfl⟩
  rw [← hl] at h1 h2
  have e1 : (16777216 : Nat) ^ l = 2 ^ (24 * l) := by rw [Nat.pow_mul]
  rw [e1] at h1 h2
  have el : 24 * (((dig n).length : Int) - 1) + (q : Int) = ((24 * l + q : Nat) : Int) := by omega
  rw [el, Int.ofNat_le]
  constructor
  · intro hle
    have h3 : 2 ^ (24 * l) * (d + 1) ≤ 2 ^ (24 * l) * 2 ^ q := Nat.mul_le_mul_left _ b3
    rw [← Nat.pow_add] at h3
    have h4 : 2 ^ (24 * l + q) ≤ 2 ^ K := Nat.pow_le_pow_right (by omega) hle
    exact Nat.lt_of_lt_of_le h2 (Nat.le_trans h3 h4)
  · intro hlt
    apply Nat.le_of_not_lt
    intro hgt
    have h3 : 2 ^ (24 * l) * 2 ^ (q - 1) ≤ 2 ^ (24 * l) * d := Nat.mul_le_mul_left _ b2
    rw [← Nat.pow_add] at h3
    have h4 : 2 ^ K ≤ 2 ^ (24 * l + (q - 1)) := Nat.pow_le_pow_right (by omega) (by omega)
    exact absurd (Nat.lt_of_lt_of_le hlt (Nat.le_trans h4 (Nat.le_trans h3 h1))) (Nat.lt_irrefl _)
theorem cut_or (x y r : Nat) (hx : x < 16777216) (hy : y < 16777216) : bits .or .i64 (x : Int) ((y : Int) * 16777216) = ((x + 16777216 * y : Nat) : Int) := by
  have h := i64_or_sh x y 24 (by omega) (by omega)
  have e : ((y * 2 ^ 24 : Nat) : Int) = (y : Int) * 16777216 := by omega
  rw [e] at h
  rw [h]
  congr 1
  omega
theorem cut_div (t r : Nat) : (t : Int) / 2 ^ r = ((t / 2 ^ r : Nat) : Int) := by
  rw [show (2 : Int) ^ r = ((2 ^ r : Nat) : Int) by simp]
  generalize 2 ^ r = p
  exact (Int.natCast_ediv t p).symm

end Go.Proofs.Ytpchcigpppdfiaa
