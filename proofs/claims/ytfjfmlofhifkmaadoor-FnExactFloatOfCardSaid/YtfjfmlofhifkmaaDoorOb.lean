/-
  The listed table, as it reads. Conditions: none.
-/
import Derived.Test.YtfjfmlofhifkmaaDoorOa
import Derived.Test.YtfjfmlofhifkmaaDoorRd
import Derived.Lib.LaidTab
import Derived.MakeChecks
namespace Go.Proofs.YtfjfmlofhifkmaaDoor
set_option linter.unusedVariables false
open Go

theorem laid_data : (Rows.laid_math_bits_deBruijn64tab : DataW Unit) = Lib.tabData .u8 (Lib.deBruijn64tab.map fun (x : Nat) => (x : Int)) := by rfl
set_option maxRecDepth 100000 in
theorem tab_of_laid {W : World} (h : laidMetH Tryd.prog [("math/bits.deBruijn64tab", Rows.laid_math_bits_deBruijn64tab)] W) : Tab W := by
  rw [MakeChecks.laidMetH_plain _ _ _ (by kernel_rfl), laid_data] at h
  have hg : Tryd.prog.globalNamed "math/bits.deBruijn64tab" = some 0 := by kernel_rfl
  have ht := Lib.tabIs_of_head hg (by kernel_rfl) Tryd.underlying156 Tryd.underlying5 (by kernel_rfl) (by kernel_rfl) h
  intro j hj
  have hc := ht.cell hg j (by rw [List.length_map]; exact hj)
  rw [hc]
  congr 2
  have hj' : j < Lib.deBruijn64tab.length := hj
  simp [List.getD, List.getElem?_eq_getElem hj']
end Go.Proofs.YtfjfmlofhifkmaaDoor
