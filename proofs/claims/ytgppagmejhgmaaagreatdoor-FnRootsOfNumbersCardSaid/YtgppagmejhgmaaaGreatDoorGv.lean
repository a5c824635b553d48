/-
  Helpers of the laws of floats: equal exact numbers are equal, the codes of values, tests of sums. No conditions.
-/
import Derived.Test.YtgppagmejhgmaaaGreatDoorFz
import Derived.Test.YtgppagmejhgmaaaGreatDoorHb
import Derived.Test.YtgppagmejhgmaaaGreatDoorFg
namespace Go.Proofs.YtgppagmejhgmaaaGreatDoor
set_option linter.unusedVariables false
open Go Go.RowKit
theorem dyF_code (x : Nat) : ∃ s l e c, dyF x = (s, l, e, c) ∧ l.length ≤ 9223372036854775807 ∧ ((c = 0 ∧ isF .f64 x = true) ∨ (c = 1 ∧ isF .f64 x = false)) := by
  have hl := dyF_len x
  cases h : isF .f64 x
  · exact ⟨0, [], 0, 1, dyF_no h, by simp, .inr ⟨rfl, rfl⟩⟩
  · unfold isF at h
    unfold dyF at hl ⊢
    cases e : FloatKind.f64.format.read x with
    | number s m i =>
      rw [e] at hl
      exact ⟨_, _, _, _, rfl, by simp only at hl; omega, .inl ⟨rfl, rfl⟩⟩
    | _ => rw [e] at h; simp at h
theorem dyN_code (x : Nat) : ∃ s l e c, dyN x = (s, l, e, c) ∧ l.length ≤ 9223372036854775807 ∧ (c = 0 ∨ c = 1) := by
  have hl := dyN_len x
  unfold dyN at hl ⊢
  cases e : FloatKind.f32.format.read x with
  | number s m i =>
    rw [e] at hl
    exact ⟨_, _, _, _, rfl, by simp only at hl; omega, .inl rfl⟩
  | _ => exact ⟨0, [], 0, 1, rfl, by simp, .inr rfl⟩
theorem binY_len' {f : Int → Int → Int → Int → Int × List Int × Int} {s x t y r e : Int} {xs ys l : List Int} {c : Int} (h : binY f s xs x t ys y = (r, l, e, c)) : l.length ≤ 9223372036854775807 := by
  have := binY_len f s xs x t ys y
  rw [h] at this
  simp only at this
  omega
theorem ne_of_eqF {o : Option Ordering} (h : (o == some .eq) = true) : (o != some .eq) = false := by
  show (!(o == some .eq)) = false
  rw [h]; rfl
theorem fop_test (P : Program) (W : World) (t : TypeId) (v : Nat) : (FloatKind.f64.format.order (fop P W .sub t .f64 v v).1 0 == some .eq) = isF .f64 v := by
  rw [order_congr (fop_eq P W .sub t .f64 v v rfl) (NEq.refl _ _)]
  exact real_test .f64 v
theorem fin_case {d : Int} {v z : Nat} (h : (d == 0) = isF .f64 v ∧ (d = 0 → (FloatKind.f64.format.order z v == some .eq) = true)) :
    (d = 0 ∧ isF .f64 v = true ∧ (FloatKind.f64.format.order z v == some .eq) = true) ∨ ((d == 0) = false ∧ (d != 0) = true ∧ isF .f64 v = false) := by
  by_cases hd : d = 0
  · subst hd
    exact .inl ⟨rfl, h.1.symm, h.2 rfl⟩
  · have h1 : (d == 0) = false := by simpa using hd
    exact .inr ⟨h1, by simpa using hd, by rw [← h.1, h1]⟩
theorem len3 {n : Nat} (h : n ≤ 3) : n ≤ 9223372036854775807 := by omega
end Go.Proofs.YtgppagmejhgmaaaGreatDoor
