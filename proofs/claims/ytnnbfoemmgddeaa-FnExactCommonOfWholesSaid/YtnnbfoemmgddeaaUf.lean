/-
  Contracts of the model: whole numbers of integers. No conditions.
-/
import Derived.Test.YtnnbfoemmgddeaaUe
import Derived.Test.YtnnbfoemmgddeaaTf
namespace Go.Proofs.Ytnnbfoemmgddeaa
set_option linter.unusedVariables false
open Go Go.RowKit
end Go.Proofs.Ytnnbfoemmgddeaa
