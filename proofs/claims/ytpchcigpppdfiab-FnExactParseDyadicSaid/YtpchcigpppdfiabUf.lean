/-
  Contracts of the model: whole numbers of integers. No conditions.
-/
import Derived.Test.YtpchcigpppdfiabUe
import Derived.Test.YtpchcigpppdfiabTf
namespace Go.Proofs.Ytpchcigpppdfiab
set_option linter.unusedVariables false
open Go Go.RowKit
end Go.Proofs.Ytpchcigpppdfiab
