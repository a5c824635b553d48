/-
  Contract: CommonOfWholes of the program. Conditions: the limbs can be read.
-/
import Derived.Test.YtnnbfoemmgddeaaGreatDoorRa
import Derived.Test.YtnnbfoemmgddeaaGreatDoorUc
namespace Go.Proofs.YtnnbfoemmgddeaaGreatDoor
set_option linter.unusedVariables false
open Go Go.RowKit

/-- The greatest common divisor of two whole numbers. -/
def gcdZ (x y : Int) : Int := ((Nat.gcd x.natAbs y.natAbs : Nat) : Int)
theorem sg_abs {s : Int} {m : Nat} (h : Sg s m) : (s * (m : Int)).natAbs = m := by
  unfold Sg at h
  rcases h with ⟨rfl, rfl⟩ | ⟨_, rfl | rfl⟩ <;> simp
theorem gcdZ_lim {s t : Int} {m n : Nat} (hs : Sg s m) (ht : Sg t n) : gcdZ (s * (m : Int)) (t * (n : Int)) = ((Nat.gcd m n : Nat) : Int) := by
  unfold gcdZ
  rw [sg_abs hs, sg_abs ht]
theorem gcd_len {m n k : Nat} (hm : (lim m).length ≤ k) (hn : (lim n).length ≤ k) : (lim (Nat.gcd m n)).length ≤ k := by
  rcases Nat.eq_zero_or_pos m with rfl | h
  · rwa [Nat.gcd_zero_left]
  · exact Nat.le_trans (lim_le_of_le (Nat.gcd_le_left n h)) hm
theorem fitZ_lim {g : Nat} (h : (lim g).length ≤ 200) : fitZ (g : Int) = (sgnOf 1 g, lim g, 0) := by
  have e : (g : Int).natAbs = g := Int.natAbs_natCast g
  unfold fitZ fitW
  rw [e]
  simp only [h]
  unfold sgnOf
  rcases Nat.eq_zero_or_pos g with rfl | hg
  · simp
  · simp [show ¬ g = 0 by omega, Int.sign_eq_one_of_pos (show (0 : Int) < (g : Int) by omega)]

end Go.Proofs.YtnnbfoemmgddeaaGreatDoor
