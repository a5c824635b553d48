/-
  What loops over boxed variables share: worlds with a new variable, signs, shifts to the left by the model. Conditions: the limbs can be read.
-/
import Derived.Test.YtebkpaonmeokgaaVl
import Derived.Test.YtebkpaonmeokgaaLx
namespace Go.Proofs.Ytebkpaonmeokgaa
set_option linter.unusedVariables false
open Go Go.RowKit

theorem bal {w W : World} {o : Obj} (h : Below w.heap.size w W) : Below w.heap.size w (W.alloc o) := h.alloc h.size o
theorem sgn_mul {x y : Nat} (hy : y ≠ 0) : sgnOf (sgnOf 1 x) (x * y) = sgnOf 1 (x * y) := by
  by_cases h : x = 0
  · subst h; simp [sgnOf]
  · rw [sgnOf_pos h]
theorem sLeftN (n : Nat) (a : Option Addr) (c1 K0 : Nat) (w : World) (hx : Ints w w.heap.size a (lim n)) (hl : (lim n).length ≤ 1048576) (hk : K0 ≤ 100000000) :
    Calls Try.prog 96 #[.agg #[.int .i64 (sgnOf 1 n), .slice a (lim n).length c1], .int .i64 (K0 : Int)] w (RetN (sgnOf 1 (n * 2 ^ K0)) (n * 2 ^ K0) w) := by
  have h := sLeft (sgnOf 1 n) a n c1 K0 w _ (Nat.le_refl _) hx hl hk
  rwa [sgn_mul (by have := Nat.pow_pos (n := K0) (show 0 < 2 by omega); omega)] at h
theorem sgn_self (m : Nat) : Sg (sgnOf 1 m) m ∧ sgnOf 1 m * (m : Int) = (m : Int) := by
  by_cases h : m = 0
  · subst h; exact ⟨.inl ⟨rfl, sgnOf_zero _⟩, by simp⟩
  · rw [sgnOf_pos h]; exact ⟨.inr ⟨h, .inl rfl⟩, by simp⟩
end Go.Proofs.Ytebkpaonmeokgaa
