/-
  Contract of the model: absolute values. Conditions: the limbs can be read.
-/
import Derived.Test.YtabpgkkickdopaaTf
namespace Go.Proofs.Ytabpgkkickdopaa
set_option linter.unusedVariables false
open Go Go.RowKit
end Go.Proofs.Ytabpgkkickdopaa
