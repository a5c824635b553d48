/-
  Contracts: WholeOf, of the program and of the model. No conditions.
-/
import Derived.Test.YtabpgkkickdopaaUf
namespace Go.Proofs.Ytabpgkkickdopaa
set_option linter.unusedVariables false
open Go Go.RowKit

theorem sgnOf_one (N : Nat) : sgnOf 1 N = (N : Int).sign := by
  unfold sgnOf
  split
  · rename_i h; subst h; rfl
  · exact (Int.sign_eq_one_of_pos (by omega)).symm
theorem sgnOf_neg (N : Nat) : sgnOf (-1) N = (-(N : Int)).sign := by
  unfold sgnOf
  split
  · rename_i h; subst h; rfl
  · exact (Int.sign_eq_neg_one_of_neg (by omega)).symm

end Go.Proofs.Ytabpgkkickdopaa
