/-
  Contracts of the model's limbs: differences, order. Conditions: the limbs can be read.
-/
import Derived.Test.YtpchcigpppdfiabTb
namespace Go.Proofs.Ytpchcigpppdfiab
set_option linter.unusedVariables false
open Go Go.RowKit

structure MinusInv (xs ys L : List Nat) (c k : Nat) : Prop where
  len : L.length = k
  small : Small L
  hi : c ≤ 1
  sum : val L + val (ys.take k) = val (xs.take k) + 16777216 ^ k * c
theorem minusInv_step {xs ys L : List Nat} {c k r q : Nat} (h : MinusInv xs ys L c k) (hr : r < 16777216) (hq : q ≤ 1) (e : r + c + ys.getD k 0 = xs.getD k 0 + 16777216 * q) : MinusInv xs ys (L ++ [r]) q (k + 1) := by
  have hs := h.sum
  refine ⟨by simp [h.len], small_snoc h.small hr, hq, ?_⟩
  rw [val_snoc, h.len, val_take_getD, val_take_getD, Nat.pow_succ]
  generalize xs.getD k 0 = x at *
  generalize ys.getD k 0 = y at *
  have e2 : 16777216 ^ k * (r + c + y) = 16777216 ^ k * (x + 16777216 * q) := by rw [e]
  rw [Nat.mul_add, Nat.mul_add, Nat.mul_add] at e2
  have e3 : 16777216 ^ k * (16777216 * q) = 16777216 ^ k * 16777216 * q := by rw [Nat.mul_assoc]
  omega
theorem minusInv_done {xs ys L : List Nat} {c : Nat} (h : MinusInv xs ys L c xs.length) (hle : ys.length ≤ xs.length) (hv : val ys ≤ val xs) : val L = val xs - val ys := by
  have hs := h.sum
  rw [List.take_length, List.take_of_length_le hle] at hs
  have h1 := val_lt h.small
  rw [h.len] at h1
  rcases Nat.eq_zero_or_pos c with h0 | h0
  · subst h0; omega
  · have := h.hi
    obtain rfl : c = 1 := by omega
    omega

end Go.Proofs.Ytpchcigpppdfiab
