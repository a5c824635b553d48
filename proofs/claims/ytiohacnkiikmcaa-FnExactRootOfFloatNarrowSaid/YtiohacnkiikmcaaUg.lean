/-
  Contracts: WholeOf, of the program and of the model. No conditions.
-/
import Derived.Test.YtiohacnkiikmcaaUf
namespace Go.Proofs.Ytiohacnkiikmcaa
set_option linter.unusedVariables false
open Go Go.RowKit

theorem sgnOf_one (N : Nat) : sgnOf 1 N = (N : Int).sign := by
  unfold sgnOf
  split
  · rename_i h; subst h; rfl
  · exact (Int.sign_eq_one_of_pos (by omega)).symm
theorem sgnOf_neg (N : Nat) : sgnOf (-1) N = (-(N : Int)).sign := by
  unfold sgnOf
  split
  · rename_i h; subst h; rfl
  · exact (Int.sign_eq_neg_one_of_neg (by omega)).symm

theorem sOf (n : Int) (bl : -9223372036854775808 ≤ n) (bh : n ≤ 9223372036854775807) (w : World) : Calls Try.prog 113 #[.int .i64 n] w (RetN n.sign n.natAbs w) := by
  by_cases h : 0 ≤ n
  · obtain ⟨N, rfl⟩ := Int.eq_ofNat_of_zero_le h
    have := sOfP N (by omega) w
    rw [sgnOf_one] at this
    exact this
  · obtain ⟨N, hN⟩ := Int.eq_ofNat_of_zero_le (show 0 ≤ -n by omega)
    obtain rfl : n = -(N : Int) := by omega
    have := sOfM N (by omega) (by omega) w
    rw [sgnOf_neg] at this
    rw [Int.natAbs_neg]
    exact this

end Go.Proofs.Ytiohacnkiikmcaa
