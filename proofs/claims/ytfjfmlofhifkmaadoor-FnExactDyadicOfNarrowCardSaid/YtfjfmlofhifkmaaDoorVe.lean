/-
  Greatest common divisors with twos taken out; square roots by Newton's steps and bit by bit. Plain mathematics, no conditions.
-/
import Derived.Test.YtfjfmlofhifkmaaDoorVa
namespace Go.Proofs.YtfjfmlofhifkmaaDoor
set_option linter.unusedVariables false

/-- What is left of a number without its twos. -/
def od (n : Nat) : Nat := n / 2 ^ tw n
theorem od_mul {n : Nat} (h : n ≠ 0) : n = 2 ^ tw n * od n ∧ od n % 2 = 1 := by
  obtain ⟨m, hm⟩ := tw_spec h
  have e : od n = 2 * m + 1 := by
    unfold od
    conv => lhs; lhs; rw [hm]
    exact Nat.mul_div_cancel_left _ (Nat.pow_pos (by omega))
  rw [e]
  exact ⟨hm, by omega⟩
theorem od_pos {n : Nat} (h : n ≠ 0) : 0 < od n := by have := (od_mul h).2; omega
theorem od_le (n : Nat) : od n ≤ n := Nat.div_le_self _ _
theorem cop2 {y : Nat} (hy : y % 2 = 1) (k : Nat) : Nat.Coprime (2 ^ k) y := by
  refine Nat.Coprime.pow_left k ?_
  unfold Nat.Coprime
  rw [Nat.gcd_rec, hy]
  decide
theorem gcd_od_left {x y : Nat} (hx : x ≠ 0) (hy : y % 2 = 1) : Nat.gcd (od x) y = Nat.gcd x y := by
  have h := (od_mul hx).1
  conv => rhs; rw [h]
  exact (Nat.Coprime.gcd_mul_left_cancel (od x) (cop2 hy _)).symm
/-- Of two odd numbers the greater one is replaced by the difference without its twos. -/
theorem gcd_less {x y : Nat} (hy : y % 2 = 1) (h : y < x) : Nat.gcd (od (x - y)) y = Nat.gcd x y ∧ od (x - y) % 2 = 1 ∧ 0 < od (x - y) ∧ od (x - y) < x := by
  have hne : x - y ≠ 0 := by omega
  refine ⟨?_, (od_mul hne).2, od_pos hne, by have := od_le (x - y); omega⟩
  rw [gcd_od_left hne hy]
  have e : x = (x - y) + y := by omega
  conv => rhs; rw [e]
  rw [Nat.gcd_comm (x - y + y), Nat.gcd_add_self_right, Nat.gcd_comm]
theorem gcd_twos {x y : Nat} (hx : x ≠ 0) (hy : y ≠ 0) : Nat.gcd x y = Nat.gcd (od x) (od y) * 2 ^ min (tw x) (tw y) := by
  have key : ∀ a b : Nat, a ≠ 0 → b ≠ 0 → tw a ≤ tw b → Nat.gcd a b = Nat.gcd (od a) (od b) * 2 ^ tw a := fun a b ha hb hle => by
    obtain ⟨ea, oa⟩ := od_mul ha
    obtain ⟨eb, ob⟩ := od_mul hb
    obtain ⟨d, hd⟩ : ∃ d, tw b = tw a + d := ⟨tw b - tw a, by omega⟩
    have h1 : Nat.gcd a b = Nat.gcd (2 ^ tw a * od a) (2 ^ tw a * (2 ^ d * od b)) := by
      conv => lhs; rw [ea, eb, hd, Nat.pow_add, Nat.mul_assoc]
    rw [h1, Nat.gcd_mul_left, Nat.mul_comm, Nat.gcd_comm (od a) (2 ^ d * od b), Nat.Coprime.gcd_mul_left_cancel (od b) (cop2 oa d), Nat.gcd_comm]
  by_cases h : tw x ≤ tw y
  · rw [Nat.min_eq_left h]; exact key x y hx hy h
  · rw [Nat.min_eq_right (by omega), Nat.gcd_comm x y, Nat.gcd_comm (od x)]
    exact key y x hy hx (by omega)

/-! Square roots -/
theorem four_mul_le (x y : Nat) : 4 * (x * y) ≤ (x + y) * (x + y) := by
  rcases Nat.le_total x y with h | h
  · obtain ⟨d, rfl⟩ : ∃ d, y = x + d := ⟨y - x, by omega⟩
    have : (x + (x + d)) * (x + (x + d)) = 4 * (x * (x + d)) + d * d := by grind
    omega
  · obtain ⟨d, rfl⟩ : ∃ d, x = y + d := ⟨x - y, by omega⟩
    have : (y + d + y) * (y + d + y) = 4 * ((y + d) * y) + d * d := by grind
    omega
/-- A Newton's step stays above the root. -/
theorem newton_above {a r : Nat} (hr : 0 < r) : a < ((r + a / r) / 2 + 1) * ((r + a / r) / 2 + 1) := by
  have h1 : a < r * (a / r + 1) := Nat.lt_mul_div_succ a hr
  generalize a / r = q at *
  have h2 := four_mul_le r (q + 1)
  obtain ⟨t, ht⟩ : ∃ t, t = (r + q) / 2 + 1 := ⟨_, rfl⟩
  rw [← ht]
  have h3 : r + (q + 1) ≤ 2 * t := by omega
  have h4 : (r + (q + 1)) * (r + (q + 1)) ≤ 2 * t * (2 * t) := Nat.mul_le_mul h3 h3
  have h5 : 2 * t * (2 * t) = 4 * (t * t) := by grind
  omega
theorem newton_done {a r : Nat} (hr : 0 < r) (h : r ≤ (r + a / r) / 2) : r * r ≤ a := by
  have h1 : r ≤ a / r := by omega
  exact (Nat.le_div_iff_mul_le hr).1 h1
theorem root_unique {a r s : Nat} (h1 : r * r ≤ a) (h2 : a < (r + 1) * (r + 1)) (h3 : s * s ≤ a) (h4 : a < (s + 1) * (s + 1)) : r = s := by
  rcases Nat.lt_trichotomy r s with h | h | h
  · have : (r + 1) * (r + 1) ≤ s * s := Nat.mul_le_mul h h
    omega
  · exact h
  · have : (s + 1) * (s + 1) ≤ r * r := Nat.mul_le_mul h h
    omega
/-- The root bit by bit: with 2^(k+1) more it is too large. -/
structure RootInv (a out k : Nat) : Prop where
  le : out * out ≤ a
  lt : a < (out + 2 ^ k) * (out + 2 ^ k)
theorem root_next (out k : Nat) : out * out + out * 2 ^ (k + 1) + 1 * 2 ^ (2 * k) = (out + 2 ^ k) * (out + 2 ^ k) := by
  rw [Nat.pow_succ, show 2 * k = k + k by omega, Nat.pow_add]
  generalize 2 ^ k = P
  grind
theorem rootInv_yes {a out k : Nat} (h : RootInv a out (k + 1)) (hn : (out + 2 ^ k) * (out + 2 ^ k) ≤ a) : RootInv a (out + 2 ^ k) k := by
  refine ⟨hn, ?_⟩
  have := h.lt
  rw [Nat.pow_succ] at this
  rwa [show out + 2 ^ k + 2 ^ k = out + 2 ^ k * 2 by omega]
theorem rootInv_no {a out k : Nat} (h : RootInv a out (k + 1)) (hn : a < (out + 2 ^ k) * (out + 2 ^ k)) : RootInv a out k := ⟨h.le, hn⟩
end Go.Proofs.YtfjfmlofhifkmaaDoor
