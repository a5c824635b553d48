/-
  Contracts of the model: AddWholes, SubtractWholes. Conditions: the limbs can be read. Contracts of the model: AddWholes, SubtractWholes. Conditions: the limbs can be read.
-/
import Derived.Test.YtabpgkkickdopaaTd
namespace Go.Proofs.Ytabpgkkickdopaa
set_option linter.unusedVariables false
open Go Go.RowKit

noncomputable def bothR (s : Int) (xs : List Int) (t : Int) (ys : List Int) : Int := @ite _ (IsWh s xs ∧ IsWh t ys) (Classical.propDecidable _) 0 1
theorem bothR_yes {s : Int} {xs : List Int} {t : Int} {ys : List Int} (h : IsWh s xs) (k : IsWh t ys) : bothR s xs t ys = 0 := by unfold bothR; rw [if_pos ⟨h, k⟩]
theorem bothR_no {s : Int} {xs : List Int} {t : Int} {ys : List Int} (h : ¬ (IsWh s xs ∧ IsWh t ys)) : bothR s xs t ys = 1 := by unfold bothR; rw [if_neg h]

/-! How long sums and products are -/
theorem lim_add_len (m n : Nat) : (lim (m + n)).length ≤ max (lim m).length (lim n).length + 1 := by
  rw [lim_length, lim_length, lim_length]
  refine dig_length_le ?_
  have h1 := dig_lt m
  have h2 := dig_lt n
  have h3 : 16777216 ^ (dig m).length ≤ 16777216 ^ (max (dig m).length (dig n).length) := Nat.pow_le_pow_right (by omega) (by omega)
  have h4 : 16777216 ^ (dig n).length ≤ 16777216 ^ (max (dig m).length (dig n).length) := Nat.pow_le_pow_right (by omega) (by omega)
  rw [Nat.pow_succ]
  omega
theorem lim_mul_len (m n : Nat) : (lim (m * n)).length ≤ (lim m).length + (lim n).length := by
  rw [lim_length, lim_length, lim_length]
  refine dig_length_le ?_
  rw [Nat.pow_add]
  exact Nat.mul_lt_mul'' (dig_lt m) (dig_lt n)
theorem Sg.abs {s : Int} {n : Nat} (h : Sg s n) : (s * (n : Int)).natAbs = n := by
  unfold Sg at h
  rcases h with ⟨rfl, rfl⟩ | ⟨_, rfl | rfl⟩ <;> omega
theorem len_add {s t : Int} {m n : Nat} (hs : Sg s m) (ht : Sg t n) (hm : (lim m).length ≤ 200) (hn : (lim n).length ≤ 200) : (lim (s * (m : Int) + t * n).natAbs).length ≤ 1048576 := by
  have h1 := lim_le_of_le (Int.natAbs_add_le (s * (m : Int)) (t * n))
  rw [hs.abs, ht.abs] at h1
  have := lim_add_len m n
  omega
theorem len_sub {s t : Int} {m n : Nat} (hs : Sg s m) (ht : Sg t n) (hm : (lim m).length ≤ 200) (hn : (lim n).length ≤ 200) : (lim (s * (m : Int) - t * n).natAbs).length ≤ 1048576 := by
  have h0 : (s * (m : Int) - t * n).natAbs ≤ (s * (m : Int)).natAbs + (t * (n : Int)).natAbs := by omega
  have h1 := lim_le_of_le h0
  rw [hs.abs, ht.abs] at h1
  have := lim_add_len m n
  omega

theorem RetWC.alloc {r : Int × List Int × Int} {lo : Nat} {w W : World} {e : Ending} (h : RetWC r lo w e W) (o : Obj) : RetWC r lo w e (W.alloc o) := by
  obtain ⟨a, c, he, hc, ho, hb⟩ := h
  exact ⟨a, c, he, hc, ho.alloc o, hb.alloc hb.size o⟩

end Go.Proofs.Ytabpgkkickdopaa
