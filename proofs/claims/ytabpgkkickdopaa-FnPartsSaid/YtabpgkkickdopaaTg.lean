/-
  Contracts: CompareWholes of the program and of the model. Conditions: the limbs can be read.
-/
import Derived.Test.YtabpgkkickdopaaLx
namespace Go.Proofs.Ytabpgkkickdopaa
set_option linter.unusedVariables false
open Go Go.RowKit

noncomputable def cmpR (s : Int) (xs : List Int) (t : Int) (ys : List Int) : Int × Int := @ite _ (IsWh s xs ∧ IsWh t ys) (Classical.propDecidable _) (cmpZ (wv s xs) (wv t ys), 0) (0, 1)
theorem cmpR_yes {s : Int} {xs : List Int} {t : Int} {ys : List Int} (h : IsWh s xs) (k : IsWh t ys) : cmpR s xs t ys = (cmpZ (wv s xs) (wv t ys), 0) := by unfold cmpR; rw [if_pos ⟨h, k⟩]
theorem cmpR_no {s : Int} {xs : List Int} {t : Int} {ys : List Int} (h : ¬ (IsWh s xs ∧ IsWh t ys)) : cmpR s xs t ys = (0, 1) := by unfold cmpR; rw [if_neg h]
def pairI (r : Int × Int) : Value := .tuple #[.int .i64 r.1, .int .i64 r.2]

end Go.Proofs.Ytabpgkkickdopaa
