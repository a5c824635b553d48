/-
  A division bit by bit: the comparison of the rest with the divisor. Plain mathematics, no conditions.
-/
import Derived.Test.YtpchcigpppdfiaaVc
namespace Go.Proofs.Ytpchcigpppdfiaa
set_option linter.unusedVariables false

theorem eq_up {S D : List Nat} {i : Nat} : ∀ {k : Nat}, i ≤ k → (∀ j, i ≤ j → j < k → S.getD j 0 = D.getD j 0) → val (S.take k) + val (D.take i) = val (D.take k) + val (S.take i) := by
  intro k
  induction k with
  | zero =>
    intro h _
    obtain rfl : i = 0 := by omega
    omega
  | succ k ih =>
    intro h he
    rcases Nat.lt_or_ge i (k + 1) with hl | hl
    · have h1 := ih (by omega) (fun j h1 h2 => he j h1 (by omega))
      rw [val_take_getD, val_take_getD, he k (by omega) (by omega)]
      omega
    · obtain rfl : i = k + 1 := by omega
      omega
/-- The rest as the comparison sees it: its limbs from i on are those of the divisor. -/
structure LessAt (S D : List Nat) (n i : Nat) : Prop where
  top : S.getD n 0 = 0
  same : ∀ j, i ≤ j → j < n → S.getD j 0 = D.getD j 0
theorem val_top {S : List Nat} {n : Nat} (h : S.length = n + 1) : val S = val (S.take n) + 16777216 ^ n * S.getD n 0 := by
  have e : S = S.take (n + 1) := by rw [← h, List.take_length]
  conv => lhs; rw [e]
  exact val_take_getD S n
theorem less_top {S D : List Nat} {n : Nat} (hS : Small S) (hD : Small D) (hl : S.length = n + 1) (hd : D.length = n) (h0 : S.getD n 0 ≠ 0) : val D ≤ val S := by
  have h1 := val_top hl
  have h2 := val_lt hD
  rw [hd] at h2
  have h3 : 16777216 ^ n * 1 ≤ 16777216 ^ n * S.getD n 0 := Nat.mul_le_mul_left _ (by omega)
  omega
theorem less_all {S D : List Nat} {n : Nat} (hl : S.length = n + 1) (hd : D.length = n) (h : LessAt S D n 0) : val D ≤ val S := by
  have h1 := val_top hl
  have h2 := eq_up (Nat.zero_le n) h.same
  rw [← hd, List.take_length, hd] at h2
  simp [val] at h2
  omega
theorem less_here {S D : List Nat} {n i : Nat} (hS : Small S) (hD : Small D) (hl : S.length = n + 1) (hd : D.length = n) (hi : i < n) (h : LessAt S D n (i + 1)) :
    (S.getD i 0 < D.getD i 0 → val S < val D) ∧ (D.getD i 0 < S.getD i 0 → val D ≤ val S) := by
  have h1 := val_top hl
  rw [h.top, Nat.mul_zero, Nat.add_zero] at h1
  have h2 := eq_up (show i + 1 ≤ n by omega) h.same
  have hdt : val (D.take n) = val D := by rw [← hd, List.take_length]
  rw [hdt, ← h1, val_take_getD, val_take_getD] at h2
  have h3 := val_lt (small_take hS i)
  have h4 := val_lt (small_take hD i)
  rw [List.length_take, Nat.min_eq_left (by omega)] at h3 h4
  constructor
  · intro hlt
    have h5 : 16777216 ^ i * (S.getD i 0 + 1) ≤ 16777216 ^ i * D.getD i 0 := Nat.mul_le_mul_left _ hlt
    rw [Nat.mul_add, Nat.mul_one] at h5
    omega
  · intro hlt
    have h5 : 16777216 ^ i * (D.getD i 0 + 1) ≤ 16777216 ^ i * S.getD i 0 := Nat.mul_le_mul_left _ hlt
    rw [Nat.mul_add, Nat.mul_one] at h5
    omega
theorem LessAt.next {S D : List Nat} {n i : Nat} (h : LessAt S D n (i + 1)) (he : S.getD i 0 = D.getD i 0) : LessAt S D n i :=
  ⟨h.top, fun j h1 h2 => by
    rcases Nat.eq_or_lt_of_le h1 with rfl | h3
    · exact he
    · exact h.same j h3 h2⟩
end Go.Proofs.Ytpchcigpppdfiaa
