/-
  Contracts: tests of whole numbers by the model, lists and whole numbers compared, copied and counted by the laws. Conditions: the limbs can be read.
-/
import Derived.Test.YtnnbfoemmgddeaaDoorMe
namespace Go.Proofs.YtnnbfoemmgddeaaDoor
set_option linter.unusedVariables false
open Go Go.RowKit
/-- Some draws, and v. -/
def RetQ (v : Value) (w : World) (e : Ending) (w' : World) : Prop := ∃ n : Nat, e = .returned v ∧ w' = w.drewN n
noncomputable def sameB (xs ys : List Int) : Bool := @decide (xs = ys) (Classical.propDecidable _)
theorem sameB_yes {xs ys : List Int} (h : xs = ys) : sameB xs ys = true := by unfold sameB; exact @decide_eq_true _ (Classical.propDecidable _) h
theorem sameB_no {xs ys : List Int} (h : xs ≠ ys) : sameB xs ys = false := by unfold sameB; exact @decide_eq_false _ (Classical.propDecidable _) h

end Go.Proofs.YtnnbfoemmgddeaaDoor
