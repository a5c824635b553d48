/-
  Decimal texts: digits, their number, cutting a number's text behind a power of 10. No conditions: plain facts.
-/
import Derived.Test.YtpchcigpppdfiaaDoorRe
namespace Go.Proofs.YtpchcigpppdfiaaDoor
set_option linter.unusedVariables false

/-- The byte of a digit. -/
def dch (d : Nat) : UInt8 := UInt8.ofNat (48 + d)
/-- The last k digits of n. -/
def pad : Nat → Nat → List UInt8
  | 0, _ => []
  | k + 1, n => pad k (n / 10) ++ [dch (n % 10)]
/-- The number of digits. -/
def nd (n : Nat) : Nat := if h : n < 10 then 1 else nd (n / 10) + 1
termination_by n
decreasing_by omega
/-- The decimal text. -/
def decT (n : Nat) : List UInt8 := pad (nd n) n
theorem nd_small {n : Nat} (h : n < 10) : nd n = 1 := by unfold nd; rw [dif_pos h]
theorem nd_big {n : Nat} (h : ¬ n < 10) : nd n = nd (n / 10) + 1 := by rw [nd, dif_neg h]
theorem nd_pos (n : Nat) : 1 ≤ nd n := by
  by_cases h : n < 10
  · rw [nd_small h]; exact Nat.le_refl _
  · rw [nd_big h]; omega
theorem pad_length (k n : Nat) : (pad k n).length = k := by
  induction k generalizing n with
  | zero => rfl
  | succ k ih => simp [pad, ih]
theorem decT_length (n : Nat) : (decT n).length = nd n := pad_length _ _
theorem decT_small {n : Nat} (h : n < 10) : decT n = [dch n] := by
  unfold decT
  rw [nd_small h]
  simp [pad, Nat.mod_eq_of_lt h]
theorem decT_step {n : Nat} (h : ¬ n < 10) : decT n = decT (n / 10) ++ [dch (n % 10)] := by
  unfold decT
  rw [nd_big h]
  rfl
theorem pad_zero (k : Nat) : pad k 0 = List.replicate k 48 := by
  induction k with
  | zero => rfl
  | succ k ih =>
    show pad k (0 / 10) ++ [dch (0 % 10)] = _
    rw [Nat.zero_div, ih, List.replicate_succ']
    rfl
theorem pad_add (j k n : Nat) : pad (j + k) n = pad j (n / 10 ^ k) ++ pad k n := by
  induction k generalizing n with
  | zero => simp [pad]
  | succ k ih =>
    show pad (j + k) (n / 10) ++ [dch (n % 10)] = pad j (n / 10 ^ (k + 1)) ++ (pad k (n / 10) ++ [dch (n % 10)])
    rw [ih, ← List.append_assoc, Nat.div_div_eq_div_mul, Nat.pow_succ, Nat.mul_comm 10]
theorem pad_mod (k n : Nat) : pad k (n % 10 ^ k) = pad k n := by
  induction k generalizing n with
  | zero => rfl
  | succ k ih =>
    show pad k (n % 10 ^ (k + 1) / 10) ++ [dch (n % 10 ^ (k + 1) % 10)] = pad k (n / 10) ++ [dch (n % 10)]
    have h1 : n % 10 ^ (k + 1) / 10 = n / 10 % 10 ^ k := by
      rw [Nat.pow_succ, Nat.mul_comm, Nat.mod_mul_right_div_self]
    have h2 : n % 10 ^ (k + 1) % 10 = n % 10 := Nat.mod_mod_of_dvd n (by rw [Nat.pow_succ]; exact Nat.dvd_mul_left _ _)
    rw [h1, h2, ih]
theorem nd_split (k : Nat) : ∀ n, 10 ^ k ≤ n → nd n = nd (n / 10 ^ k) + k := by
  induction k with
  | zero => intro n _; simp
  | succ k ih =>
    intro n h
    have h10 : 10 ≤ n := Nat.le_trans (by rw [Nat.pow_succ]; exact Nat.le_mul_of_pos_left 10 (Nat.pow_pos (by omega))) h
    rw [nd_big (by omega), ih (n / 10) (by rw [Nat.le_div_iff_mul_le (by omega)]; rwa [Nat.pow_succ] at h), Nat.div_div_eq_div_mul, Nat.pow_succ, Nat.mul_comm 10]
    omega
theorem decT_split {k n : Nat} (h : 10 ^ k ≤ n) : decT n = decT (n / 10 ^ k) ++ pad k (n % 10 ^ k) := by
  unfold decT
  rw [nd_split k n h, pad_add, pad_mod]
theorem div_nd (n : Nat) : n / 10 ^ nd n = 0 := by
  induction n using Nat.strongRecOn with
  | ind n ih =>
    by_cases h : n < 10
    · rw [nd_small h]; omega
    · rw [nd_big h, Nat.pow_succ, Nat.mul_comm, ← Nat.div_div_eq_div_mul]
      exact ih (n / 10) (by omega)
theorem pad_zeros (j n : Nat) : pad (j + nd n) n = List.replicate j 48 ++ decT n := by
  rw [pad_add, div_nd, pad_zero]
  rfl
theorem nd_le {k : Nat} : ∀ {n : Nat}, n < 10 ^ (k + 1) → nd n ≤ k + 1 := by
  induction k with
  | zero => intro n h; rw [nd_small (by omega)]; exact Nat.le_refl _
  | succ k ih =>
    intro n h
    by_cases h10 : n < 10
    · rw [nd_small h10]; omega
    · rw [nd_big h10]
      have := ih (n := n / 10) (by rw [Nat.div_lt_iff_lt_mul (by omega)]; rwa [Nat.pow_succ] at h)
      omega
/-- A number below 10^k, filled up with zeros, has its last k digits. -/
theorem pad_fill {k n : Nat} (h : n < 10 ^ (k + 1)) : pad (k + 1) n = List.replicate (k + 1 - nd n) 48 ++ decT n := by
  have h1 := nd_le h
  rw [← pad_zeros, show k + 1 - nd n + nd n = k + 1 by omega]
theorem decT_ne (n : Nat) : decT n ≠ [] := fun h => by
  have := decT_length n
  rw [h] at this
  have h1 := nd_pos n
  simp at this
  omega
end Go.Proofs.YtpchcigpppdfiaaDoor
