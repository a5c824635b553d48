/-
  Contracts of the model: AddWholes, SubtractWholes. Conditions: the limbs can be read.
-/
import Derived.Test.YtfjfmlofhifkmaaDoorTe
namespace Go.Proofs.YtfjfmlofhifkmaaDoor
set_option linter.unusedVariables false
open Go Go.RowKit

theorem RetWC.alloc {r : Int × List Int × Int} {lo : Nat} {w W : World} {e : Ending} (h : RetWC r lo w e W) (o : Obj) : RetWC r lo w e (W.alloc o) := by
  obtain ⟨a, c, he, hc, ho, hb⟩ := h
  exact ⟨a, c, he, hc, ho.alloc o, hb.alloc hb.size o⟩

end Go.Proofs.YtfjfmlofhifkmaaDoor
