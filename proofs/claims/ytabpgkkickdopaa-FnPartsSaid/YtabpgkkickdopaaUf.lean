/-
  Contracts of the model: whole numbers of integers. No conditions.
-/
import Derived.Test.YtabpgkkickdopaaUe
import Derived.Test.YtabpgkkickdopaaTf
namespace Go.Proofs.Ytabpgkkickdopaa
set_option linter.unusedVariables false
open Go Go.RowKit
end Go.Proofs.Ytabpgkkickdopaa
