/-
  A number of limbs times a scale and a value, in place: maths. No conditions.
-/
import Derived.Test.YtpchcigpppdfiabDb
import Derived.Test.YtpchcigpppdfiabUe
namespace Go.Proofs.Ytpchcigpppdfiab
set_option linter.unusedVariables false
open Go Go.RowKit

/-- The first i limbs of L are those of the product, c is carried. -/
structure ExtInv (P L : List Nat) (sc v c i : Nat) : Prop where
  len : L.length = P.length
  small : Small L
  same : ∀ (j : Nat) (h : j < L.length) (k : j < P.length), i ≤ j → L[j] = P[j]
  hi : c < sc
  sum : val (L.take i) + 16777216 ^ i * c = val (P.take i) * sc + v
theorem extInv_start {P : List Nat} (hP : Small P) {sc v : Nat} (hv : v < sc) : ExtInv P P sc v v 0 := ⟨rfl, hP, fun j h k _ => rfl, hv, by simp [val]⟩
theorem extInv_step {P L : List Nat} {sc v c i : Nat} (h : ExtInv P L sc v c i) (hi : i < L.length) :
    ExtInv P (L.set i ((c + L[i] * sc) % 16777216)) sc v ((c + L[i] * sc) / 16777216) (i + 1) := by
  have hl := h.len
  have hx := h.small i hi
  have e := h.same i hi (by omega) (Nat.le_refl _)
  have hc := h.hi
  have hs := h.sum
  obtain ⟨x, hxx⟩ : ∃ x, x = L[i] := ⟨_, rfl⟩
  rw [← hxx] at hx e ⊢
  refine ⟨by simpa using hl, small_set h.small i (Nat.mod_lt _ (by omega)), fun j hj hk hij => ?_, ?_, ?_⟩
  · rw [List.getElem_set_ne (by omega)]; exact h.same j (by simpa using hj) hk (by omega)
  · refine Nat.div_lt_of_lt_mul ?_
    have h1 : x * sc ≤ 16777215 * sc := Nat.mul_le_mul_right _ (by omega)
    omega
  · have h2 : (c + x * sc) % 16777216 + 16777216 * ((c + x * sc) / 16777216) = c + x * sc := by omega
    rw [val_take_succ _ i (by simpa using hi), List.take_set_of_le (Nat.le_refl _), List.getElem_set_self, val_take_succ P i (by omega), ← e]
    generalize (c + x * sc) % 16777216 = r at *
    generalize (c + x * sc) / 16777216 = q at *
    rw [Nat.pow_succ]
    grind
theorem extInv_done {P L : List Nat} {sc v c : Nat} (h : ExtInv P L sc v c L.length) : val (L ++ dig c) = val P * sc + v := by
  have hl := h.len
  have hs := h.sum
  rw [List.take_of_length_le (Nat.le_refl _), hl, List.take_of_length_le (Nat.le_refl _)] at hs
  rw [val_append, val_dig, hl]
  exact hs
/-- The limbs of the product. -/
theorem extInv_dig {N : Nat} {L : List Nat} {sc v c : Nat} (h : ExtInv (dig N) L sc v c L.length) (h1 : 1 ≤ sc) : L ++ dig c = dig (N * sc + v) := by
  have hd := extInv_done h
  rw [val_dig] at hd
  rw [← hd]
  refine (dig_val ⟨small_append h.small (small_dig c), fun hp => ?_⟩).symm
  by_cases hc : c = 0
  · subst hc
    rw [dig_zero, List.append_nil] at hd
    simp only [dig_zero, List.append_nil] at hp ⊢
    have hl := h.len
    have hN : N ≠ 0 := fun h0 => by subst h0; rw [dig_zero] at hl; simp at hl; simp [hl] at hp
    have hg := dig_ge hN
    have h2 : N * 1 ≤ N * sc := Nat.mul_le_mul_left _ h1
    intro hz
    have h3 := val_take_succ L (L.length - 1) (by omega)
    rw [show L.length - 1 + 1 = L.length by omega, List.take_of_length_le (Nat.le_refl _), hz, Nat.mul_zero, Nat.add_zero] at h3
    have h4 := val_lt (small_take h.small (L.length - 1))
    rw [List.length_take, Nat.min_eq_left (by omega)] at h4
    rw [← hl] at hg
    omega
  · have hpos := dig_length_pos hc
    have hn := (norm_dig c).2 hpos
    have e : (L ++ dig c).length - 1 = L.length + ((dig c).length - 1) := by simp; omega
    simp only [e]
    rw [List.getElem_append_right (by omega)]
    simpa using hn
end Go.Proofs.Ytpchcigpppdfiab
