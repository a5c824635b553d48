/-
  Contracts: NumberOf of both sides. Conditions: the limbs can be read; the library's table is as its initialiser lays it. The walk of laws.FnExactNumberOf. Conditions: the limbs can be read; the library's table is as its initialiser lays it.
-/
import Derived.Test.YtgppagmejhgmaaaGreatDoorGc
import Derived.Test.YtgppagmejhgmaaaGreatDoorEa
import Derived.Test.YtgppagmejhgmaaaGreatDoorOd
import Derived.Test.YtgppagmejhgmaaaGreatDoorLx
import Derived.Deep.DeepCutAuto
import Derived.Deep.RegionHeld3
namespace Go.Proofs.YtgppagmejhgmaaaGreatDoor
set_option linter.unusedVariables false
open Go Go.RowKit

/-- What NumberOf gives of two parts. -/
def nbP (p q : Nat × Int) : Nat × Nat × Int := if p.2 = 0 then (if q.2 = 0 then (p.1, q.1, 0) else (0, 0, q.2)) else (0, 0, p.2)
noncomputable def nbR (s : Int) (xs : List Int) (x s' : Int) (xs' : List Int) (x' : Int) : Nat × Nat × Int := if (dyB s xs x && dyB s' xs' x') = true then nbP (flR s xs x) (flR s' xs' x') else (0, 0, 1)

def fitC (a b : Nat) : Nat × Nat × Int := if (isF .f64 a && isF .f64 b) = true then (a, b, 0) else (0, 0, 3)
theorem nbP_fit (s : Int) (m : Nat) (x s' : Int) (m' : Nat) (x' : Int) : fitC (fw (decide (s < 0)) m x) (fw (decide (s' < 0)) m' x') = nbP (flt s m x) (flt s' m' x') := by
  unfold fitC nbP flt
  rw [isF_rung, isF_rung]
  by_cases h : rawRung f64 m x < 0x7ff0000000000000
  · by_cases h' : rawRung f64 m' x' < 0x7ff0000000000000
    · rw [if_pos h, if_pos h', decide_eq_true h, decide_eq_true h']; rfl
    · rw [if_pos h, if_neg h', decide_eq_true h, decide_eq_false h']; rfl
  · rw [if_neg h, decide_eq_false h]
    by_cases h' : rawRung f64 m' x' < 0x7ff0000000000000
    · rw [if_pos h']; rfl
    · rw [if_neg h']; rfl

theorem nbR_fin (s : Int) (xs : List Int) (x s' : Int) (xs' : List Int) (x' : Int) : isF .f64 (nbR s xs x s' xs' x').1 = true ∧ isF .f64 (nbR s xs x s' xs' x').2.1 = true := by
  unfold nbR
  split
  · unfold nbP
    split
    · split
      · exact ⟨flR_fin _ _ _, flR_fin _ _ _⟩
      · exact ⟨isF_zero, isF_zero⟩
    · exact ⟨isF_zero, isF_zero⟩
  · exact ⟨isF_zero, isF_zero⟩

end Go.Proofs.YtgppagmejhgmaaaGreatDoor
