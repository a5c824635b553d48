/-
  Contract of the model: shifts of whole numbers. Conditions: the limbs can be read. Contracts: ShiftWhole of the program and of the model. Conditions: the limbs can be read; the library's table is as its initialiser lays it.
-/
import Derived.Test.YtabpgkkickdopaaRd
import Derived.Test.YtabpgkkickdopaaUf
namespace Go.Proofs.Ytabpgkkickdopaa
set_option linter.unusedVariables false
open Go Go.RowKit

theorem RetZ.alloc {z : Int} {w W : World} {e : Ending} (h : RetZ z w e W) (o : Obj) : RetZ z w e (W.alloc o) := by
  obtain ⟨a, c, he, hc, ho, hb⟩ := h
  exact ⟨a, c, he, hc, ho.alloc o, hb.alloc hb.size o⟩
theorem neg_less (M : Nat) : sgnOf (-1) M * (M : Int) - 1 * 1 = -1 * ((M + 1 : Nat) : Int) := by
  by_cases h : M = 0
  · subst h; rw [sgnOf_zero]; rfl
  · rw [sgnOf_pos h]; omega
theorem Sg.sgn1 (M : Nat) : Sg (sgnOf (-1) M) M := by
  unfold Sg
  by_cases h : M = 0
  · left; subst h; exact ⟨rfl, sgnOf_zero _⟩
  · right; exact ⟨h, .inr (sgnOf_pos h)⟩

noncomputable def shR (s : Int) (xs : List Int) (k : Int) : Int × List Int × Int := @ite _ (IsWh s xs) (Classical.propDecidable _) (if -5000 ≤ k ∧ k ≤ 5000 then fitZ (shZ (wv s xs) k) else (0, [], 2)) (0, [], 1)
theorem shR_yes {s : Int} {xs : List Int} {k : Int} (h : IsWh s xs) (h1 : -5000 ≤ k ∧ k ≤ 5000) : shR s xs k = fitZ (shZ (wv s xs) k) := by unfold shR; rw [if_pos h, if_pos h1]
theorem shR_rng {s : Int} {xs : List Int} {k : Int} (h : IsWh s xs) (h1 : ¬ (-5000 ≤ k ∧ k ≤ 5000)) : shR s xs k = (0, [], 2) := by unfold shR; rw [if_pos h, if_neg h1]
theorem shR_no {s : Int} {xs : List Int} {k : Int} (h : ¬ IsWh s xs) : shR s xs k = (0, [], 1) := by unfold shR; rw [if_neg h]
theorem fitW_len' (s : Int) (n : Nat) : (fitW s n).2.1.length ≤ 200 := by
  unfold fitW
  split
  · assumption
  · simp
theorem shR_len (s : Int) (xs : List Int) (k : Int) : (shR s xs k).2.1.length ≤ 200 := by
  unfold shR
  split
  · split
    · exact fitW_len' _ _
    · simp
  · simp
theorem retWC_zeroB {w W0 W : World} (code : Int) (P3 : Below w.heap.size w W0) (P4 : W0.heap.size = w.heap.size + 2) (hb : Below W0.heap.size W0 W) (u v : Value) :
    RetWC (0, [], code) w.heap.size w (.returned (.tuple #[.agg #[.int .i64 0, .slice none 0 0], .int .i64 code])) ((W.setCell ⟨w.heap.size + 1, 0, none⟩ u).setCell ⟨w.heap.size + 1, 1, none⟩ v) :=
  ⟨none, 0, rfl, Nat.le_refl _, Own.nil, ((P3.trans (hb.mono (by omega))).setCell (by simp <;> omega) _).setCell (by simp <;> omega) _⟩
theorem retWC_endB {w W0 W : World} {r : Int × List Int × Int} {a : Option Addr} {c : Nat} (P3 : Below w.heap.size w W0) (P4 : W0.heap.size = w.heap.size + 2) (hb : Below W0.heap.size W0 W) (u v : Value) (ho : Own W W0.heap.size a r.2.1) (hc : r.2.1.length ≤ c) :
    RetWC r w.heap.size w (.returned (.tuple #[.agg #[.int .i64 r.1, .slice a r.2.1.length c], .int .i64 r.2.2])) ((W.setCell ⟨w.heap.size + 1, 0, none⟩ u).setCell ⟨w.heap.size + 1, 1, none⟩ v) :=
  ⟨a, c, rfl, hc, ((ho.setFar (by simp; omega) _).setFar (by simp; omega) _).mono (by omega), ((P3.trans (hb.mono (by omega))).setCell (by simp <;> omega) _).setCell (by simp <;> omega) _⟩

theorem shZ_len {s k : Int} {m : Nat} (hm : (lim m).length ≤ 200) (hs : s = 0 ∨ s = 1 ∨ s = -1) (h1 : -5000 ≤ k) (h2 : k ≤ 5000) : (lim (shZ (s * (m : Int)) k).natAbs).length ≤ 9223372036854775807 := by
  have h3 : (s * (m : Int)).natAbs ≤ m := by
    rcases hs with rfl | rfl | rfl <;> simp
  obtain ⟨z, hz⟩ : ∃ z, z = s * (m : Int) := ⟨_, rfl⟩
  rw [← hz] at h3 ⊢
  have hzl := lim_le_of_le h3
  by_cases h : 0 ≤ k
  · obtain ⟨K, rfl⟩ := Int.eq_ofNat_of_zero_le h
    rw [shZ_up, Int.natAbs_mul]
    have e : ((2 : Int) ^ K).natAbs = 2 ^ K := by rw [show (2 : Int) ^ K = ((2 ^ K : Nat) : Int) by simp]; exact Int.natAbs_natCast _
    rw [e]
    have h4 := lim_mul_len z.natAbs (2 ^ K)
    have h5 : (lim (2 ^ K)).length ≤ K / 24 + 1 := by
      rw [lim_length]
      refine dig_length_le ?_
      rw [two24]
      exact Nat.pow_lt_pow_right (by omega) (by omega)
    omega
  · obtain ⟨K, hK⟩ := Int.eq_ofNat_of_zero_le (show 0 ≤ -k by omega)
    obtain rfl : k = -(K : Int) := by omega
    rw [shZ_down _ _ (by omega)]
    have e : (2 : Int) ^ K = ((2 ^ K : Nat) : Int) := by simp
    rw [e]
    have h4 := lim_le_of_le (Int.natAbs_ediv_le_natAbs z ((2 ^ K : Nat) : Int))
    omega

end Go.Proofs.Ytabpgkkickdopaa
