/-
  Contracts: sums, differences and products of exact numbers, which may be too large, by the program and by the model. Conditions: the limbs can be read; the library's table is as its initialiser lays it.
-/
import Derived.Test.YtfjfmlofhifkmaaDoorQm
import Derived.Test.YtfjfmlofhifkmaaDoorTd
import Derived.Test.YtfjfmlofhifkmaaDoorUc
import Derived.Deep.DeepCutAuto
import Derived.Deep.RegionHeld3
namespace Go.Proofs.YtfjfmlofhifkmaaDoor
set_option linter.unusedVariables false
open Go Go.RowKit

def addW (z1 x z2 y : Int) : Int × List Int × Int := redZ (shZ z1 (x - min x y) + shZ z2 (y - min x y)) (min x y)
def mulW (z1 x z2 y : Int) : Int × List Int × Int := redZ (z1 * z2) (x + y)
theorem lim_pow_len (K : Nat) : (lim (2 ^ K)).length ≤ K / 24 + 1 := by
  rw [lim_length]
  refine dig_length_le ?_
  rw [two24]
  exact Nat.pow_lt_pow_right (by omega) (by omega)
theorem shZ_nn {z k : Int} (h : 0 ≤ k) : shZ z k = z * 2 ^ k.toNat := by unfold shZ; rw [if_pos h]
theorem shZ_zero (k : Int) : shZ 0 k = 0 := by unfold shZ; split <;> simp
theorem shZ_up_len {z k : Int} (h : 0 ≤ k) : (lim (shZ z k).natAbs).length ≤ (lim z.natAbs).length + (k.toNat / 24 + 1) := by
  rw [shZ_nn h, Int.natAbs_mul]
  have e : ((2 : Int) ^ k.toNat).natAbs = 2 ^ k.toNat := by rw [show (2 : Int) ^ k.toNat = ((2 ^ k.toNat : Nat) : Int) by simp]; exact Int.natAbs_natCast _
  rw [e]
  have h1 := lim_mul_len z.natAbs (2 ^ k.toNat)
  have h2 := lim_pow_len k.toNat
  omega

end Go.Proofs.YtfjfmlofhifkmaaDoor
