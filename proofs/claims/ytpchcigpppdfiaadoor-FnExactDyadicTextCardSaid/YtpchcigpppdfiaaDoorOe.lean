/-
  The listed table of powers of 10, third on the list, as it reads. Conditions: none.
-/
import Derived.Test.YtpchcigpppdfiaaDoorOa
import Derived.Test.YtpchcigpppdfiaaDoorTu
import Derived.Test.YtpchcigpppdfiaaDoorRows
import Derived.Lib.LaidTab
import Derived.MakeChecks
import Derived.Stop.LaidErr
namespace Go.Proofs.YtpchcigpppdfiaaDoor
set_option linter.unusedVariables false
open Go

theorem laid_pows : (Rows.laid_internal_strconv_uint64pow10 : DataW Unit) = Lib.tabData .u64 Lib.pow10Tab := by rfl
set_option maxRecDepth 100000 in
theorem pows_of_laid {W : World} (h : laidMetH Tryd.prog [("math/bits.deBruijn32tab", Rows.laid_math_bits_deBruijn32tab), ("math/bits.deBruijn64tab", Rows.laid_math_bits_deBruijn64tab), ("internal/strconv.uint64pow10", Rows.laid_internal_strconv_uint64pow10)] W) : Pows W.heap.size W := by
  rw [MakeChecks.laidMetH_plain _ _ _ (by kernel_rfl)] at h
  have h3 := h.tail.tail
  rw [laid_pows] at h3
  have hg : Tryd.prog.globalNamed "internal/strconv.uint64pow10" = some 0 := by kernel_rfl
  exact Lib.tabBelow_of_tabIs (Lib.tabIs_of_head hg (by kernel_rfl) Tryd.underlying151 Tryd.underlying98 (by kernel_rfl) (by kernel_rfl) h3)
end Go.Proofs.YtpchcigpppdfiaaDoor
