/-
  Contract of the model: absolute values. Conditions: the limbs can be read.
-/
import Derived.Test.YtnnbfoemmgddeaaDoorTf
namespace Go.Proofs.YtnnbfoemmgddeaaDoor
set_option linter.unusedVariables false
open Go Go.RowKit
end Go.Proofs.YtnnbfoemmgddeaaDoor
