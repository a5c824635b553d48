/-
  Contract of the model: whole numbers without their last bits. Conditions: the limbs can be read.
-/
import Derived.Test.YtpchcigpppdfiaaVj
import Derived.Test.YtpchcigpppdfiaaTf
namespace Go.Proofs.Ytpchcigpppdfiaa
set_option linter.unusedVariables false
open Go Go.RowKit

theorem cut_parts {x y r s : Nat} (h : r + s = 24) : x / 2 ^ r + y * 2 ^ s = (x + 16777216 * y) / 2 ^ r := by
  have e : (16777216 : Nat) = 2 ^ r * 2 ^ s := by rw [← Nat.pow_add, h]
  have e2 : x + 16777216 * y = x + 2 ^ r * (2 ^ s * y) := by
    conv => lhs; rw [e]
    rw [Nat.mul_assoc]
  rw [e2, Nat.add_mul_div_left _ _ (Nat.pow_pos (by omega)), Nat.mul_comm (2 ^ s)]
theorem cut_bounds {x y r s : Nat} (hx : x < 16777216) (hy : y < 16777216) (h : r + s = 24) : x / 2 ^ r ≤ 16777215 ∧ y * 2 ^ s ≤ 281474976710656 := by
  have h1 := Nat.div_le_self x (2 ^ r)
  have h2 : 2 ^ s ≤ 16777216 := Nat.le_trans (Nat.pow_le_pow_right (by omega) (show s ≤ 24 by omega)) (by decide)
  have h3 : y * 2 ^ s ≤ 16777215 * 16777216 := Nat.mul_le_mul (by omega) h2
  omega
theorem cut_total {n q r K0 : Nat} (hq : q = K0 / 24) (hr : r = K0 % 24) : val (cutL r ((dig n).drop q)) = n / 2 ^ K0 := by
  subst hq hr
  by_cases h : K0 / 24 ≤ (dig n).length
  · have := cut_val (small_dig n) h
    rwa [val_dig] at this
  · have := cut_big (small_dig n) (k := K0) (by omega)
    rw [val_dig] at this
    rw [this, List.drop_of_length_le (by omega)]
    rfl

theorem tdiv_add (u v : Nat) : Int.tdiv ((u : Int) + (v : Int)) 16777216 = (((u + v) / 16777216 : Nat) : Int) := by
  rw [Int.tdiv_eq_ediv_of_nonneg (by omega)]
  rfl
theorem left_bounds {c y P : Nat} (h1 : c < P) (h2 : c + y < 16777216 * P) (h3 : P ≤ 8388608) : c ≤ 2305843009213693952 ∧ y ≤ 2305843009213693952 := by omega
theorem tmod_add (u v : Nat) : Int.tmod ((u : Int) + (v : Int)) 16777216 = (((u + v) % 16777216 : Nat) : Int) := by
  rw [Int.tmod_eq_emod_of_nonneg (by omega)]
  rfl

end Go.Proofs.Ytpchcigpppdfiaa
