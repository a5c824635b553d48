/-
  Twos in a number, its bits, and its limbs behind a shift. Plain mathematics, no conditions. Greatest common divisors with twos taken out; square roots by Newton's steps and bit by bit. Plain mathematics, no conditions.
-/
import Derived.Test.YtabpgkkickdopaaRe
import Derived.Lib.TrailingZeros
namespace Go.Proofs.Ytabpgkkickdopaa
set_option linter.unusedVariables false
open Go Go.RowKit

/-- How often 2 divides a number (0 for 0). -/
def tw (n : Nat) : Nat := if n = 0 then 0 else Lib.ctzFrom n n
theorem tw_zero : tw 0 = 0 := by simp [tw]
theorem tw_spec {n : Nat} (h : n ≠ 0) : ∃ m, n = 2 ^ tw n * (2 * m + 1) := by
  obtain ⟨m, hm, _⟩ := Lib.ctzFrom_spec n n (by omega) Nat.lt_two_pow_self
  refine ⟨m, ?_⟩
  unfold tw
  rw [if_neg h]
  exact hm
theorem odd_pow_le {a b m m' : Nat} (h : 2 ^ a * (2 * m + 1) = 2 ^ b * (2 * m' + 1)) : ¬ a < b := fun hlt => by
  obtain ⟨d, rfl⟩ : ∃ d, b = a + (d + 1) := ⟨b - a - 1, by omega⟩
  rw [Nat.pow_add, Nat.mul_assoc] at h
  have h2 := Nat.eq_of_mul_eq_mul_left (Nat.pow_pos (by omega)) h
  rw [Nat.pow_succ, Nat.mul_comm _ 2, Nat.mul_assoc] at h2
  omega
theorem tw_eq {n k m : Nat} (h : n = 2 ^ k * (2 * m + 1)) : tw n = k := by
  have hn : n ≠ 0 := by
    intro h0
    have : 0 < 2 ^ k * (2 * m + 1) := Nat.mul_pos (Nat.pow_pos (by omega)) (by omega)
    omega
  obtain ⟨m', hm'⟩ := tw_spec hn
  have h1 := odd_pow_le (h.symm.trans hm')
  have h2 := odd_pow_le (hm'.symm.trans h)
  omega
theorem two24 (i : Nat) : (16777216 : Nat) ^ i = 2 ^ (24 * i) := by rw [Nat.pow_mul]
/-- The first limb that is not 0 tells it. -/
theorem tw_limb {x r i : Nat} (hx0 : x ≠ 0) (hx : x < 16777216) : tw (16777216 ^ i * (x + 16777216 * r)) = 24 * i + Lib.ctz 64 x := by
  have hc : Lib.ctz 64 x = Lib.ctzFrom 64 x := by simp [Lib.ctz, hx0]
  obtain ⟨m, hm, _⟩ := Lib.ctzFrom_spec 64 x (by omega) (by omega)
  rw [hc]
  generalize Lib.ctzFrom 64 x = c at *
  have hc24 : c < 24 := by
    apply Nat.lt_of_not_le
    intro hle
    have h1 : 2 ^ 24 ≤ 2 ^ c := Nat.pow_le_pow_right (by omega) hle
    have h2 : 2 ^ c ≤ 2 ^ c * (2 * m + 1) := Nat.le_mul_of_pos_right _ (by omega)
    omega
  obtain ⟨d, rfl⟩ : ∃ d, d = 23 - c := ⟨_, rfl⟩
  have e : (16777216 : Nat) = 2 ^ c * (2 * 2 ^ (23 - c)) := by
    rw [show 2 * 2 ^ (23 - c) = 2 ^ (24 - c) by rw [show 24 - c = (23 - c) + 1 by omega, Nat.pow_succ, Nat.mul_comm], ← Nat.pow_add, show c + (24 - c) = 24 by omega]
  refine tw_eq (m := m + 2 ^ (23 - c) * r) ?_
  rw [two24, Nat.pow_add, Nat.mul_assoc]
  congr 1
  have e2 : 16777216 * r = 2 ^ c * (2 * (2 ^ (23 - c) * r)) := by
    conv => lhs; rw [e]
    rw [Nat.mul_assoc, Nat.mul_assoc]
  rw [e2]
  conv => lhs; rw [hm]
  rw [← Nat.mul_add]
  congr 1
  omega
theorem tw_odd {n : Nat} (h : n % 2 = 1) : tw n = 0 := tw_eq (m := n / 2) (by simp; omega)
theorem tw_zero_odd {n : Nat} (h : n ≠ 0) (h0 : tw n = 0) : n % 2 = 1 := by
  obtain ⟨m, hm⟩ := tw_spec h
  rw [h0] at hm
  simp at hm
  omega
/-- As long as the bits are 0 the power divides. -/
theorem tw_more {n k : Nat} (h : n ≠ 0) (hk : k ≤ tw n) (hb : n / 2 ^ k % 2 = 0) : k + 1 ≤ tw n := by
  obtain ⟨m, hm⟩ := tw_spec h
  by_cases e : k = tw n
  · exfalso
    rw [← e] at hm
    have : n / 2 ^ k = 2 * m + 1 := by
      conv => lhs; rw [hm]
      exact Nat.mul_div_cancel_left _ (Nat.pow_pos (by omega))
    omega
  · omega
theorem tw_done {n k : Nat} (h : n ≠ 0) (hk : k ≤ tw n) (hb : n / 2 ^ k % 2 ≠ 0) : k = tw n := by
  obtain ⟨m, hm⟩ := tw_spec h
  by_cases e : k = tw n
  · exact e
  · exfalso
    apply hb
    obtain ⟨d, hd⟩ : ∃ d, tw n = k + (d + 1) := ⟨tw n - k - 1, by omega⟩
    have : n / 2 ^ k = 2 ^ (d + 1) * (2 * m + 1) := by
      conv => lhs; rw [hm, hd, Nat.pow_add, Nat.mul_assoc]
      exact Nat.mul_div_cancel_left _ (Nat.pow_pos (by omega))
    rw [this, Nat.pow_succ, Nat.mul_comm _ 2, Nat.mul_assoc]
    omega
theorem tw_lt {n : Nat} (h : n ≠ 0) : 2 ^ tw n ≤ n := by
  obtain ⟨m, hm⟩ := tw_spec h
  conv => rhs; rw [hm]
  exact Nat.le_mul_of_pos_right _ (by omega)
theorem tw_len {n : Nat} (h : n ≠ 0) : tw n < 24 * (dig n).length := by
  have h1 := tw_lt h
  have h2 := dig_lt n
  rw [two24] at h2
  exact (Nat.pow_lt_pow_iff_right (by omega)).1 (Nat.lt_of_le_of_lt h1 h2)
/-- A bit of a number, from its limb. -/
theorem bit_limb {L : List Nat} (hL : Small L) (k : Nat) : val L / 2 ^ k % 2 = L.getD (k / 24) 0 / 2 ^ (k % 24) % 2 := by
  have hk := Nat.div_add_mod k 24
  have hr := Nat.mod_lt k (show 0 < 24 by omega)
  generalize k / 24 = i at *
  generalize k % 24 = r at *
  subst hk
  by_cases hi : i < L.length
  · have h1 := val_split L i (by omega)
    have h2 := val_drop L i hi
    have h3 := val_lt (small_take hL i)
    rw [List.length_take, Nat.min_eq_left (by omega)] at h3
    rw [getD_of_lt hi, Nat.pow_add, ← two24, ← Nat.div_div_eq_div_mul]
    have e : val L / 16777216 ^ i = val (L.drop i) := by
      rw [h1, Nat.add_mul_div_left _ _ (pow_pos' i), Nat.div_eq_of_lt h3, Nat.zero_add]
    rw [e, h2]
    obtain ⟨d, hd⟩ : ∃ d, 24 = r + (d + 1) := ⟨23 - r, by omega⟩
    have e2 : (16777216 : Nat) = 2 ^ r * (2 * 2 ^ d) := by
      rw [← Nat.pow_succ', ← Nat.pow_add, ← hd]
    have e3 : L[i] + 16777216 * val (L.drop (i + 1)) = L[i] + 2 ^ r * (2 * (2 ^ d * val (L.drop (i + 1)))) := by
      conv => lhs; rw [e2]
      rw [Nat.mul_assoc, Nat.mul_assoc]
    rw [e3, Nat.add_mul_div_left _ _ (Nat.pow_pos (by omega))]
    omega
  · rw [getD_of_ge (by omega), Nat.zero_div]
    have h1 := val_lt hL
    have h2 : 16777216 ^ L.length ≤ 2 ^ (24 * i + r) := by
      rw [two24]
      exact Nat.pow_le_pow_right (by omega) (by omega)
    rw [Nat.div_eq_of_lt (by omega)]

/-! Limbs without their last bits -/
def cutL (r : Nat) : List Nat → List Nat
  | [] => []
  | x :: xs => (x + 16777216 * xs.getD 0 0) / 2 ^ r % 16777216 :: cutL r xs
theorem cutL_length (r : Nat) (xs : List Nat) : (cutL r xs).length = xs.length := by
  induction xs with
  | nil => rfl
  | cons x xs ih => simp [cutL, ih]
theorem cutL_at (r : Nat) (xs : List Nat) (i : Nat) (h : i < (cutL r xs).length) : (cutL r xs)[i] = (xs.getD i 0 + 16777216 * xs.getD (i + 1) 0) / 2 ^ r % 16777216 := by
  induction xs generalizing i with
  | nil => simp [cutL] at h
  | cons x xs ih =>
    cases i with
    | zero => simp [cutL]
    | succ i =>
      simp only [cutL, List.getElem_cons_succ]
      rw [ih]
      simp
theorem cutL_small (r : Nat) (xs : List Nat) : Small (cutL r xs) := fun i h => by
  rw [cutL_at]
  exact Nat.mod_lt _ (by omega)
theorem cutL_val (r : Nat) (hr : r < 24) (xs : List Nat) (hx : Small xs) : val (cutL r xs) = val xs / 2 ^ r := by
  induction xs with
  | nil => simp [cutL, val]
  | cons x xs ih =>
    simp only [cutL, val]
    rw [ih (small_tail hx)]
    have hx0 := small_head hx
    have hp : 0 < 2 ^ r := Nat.pow_pos (by omega)
    obtain ⟨d, hd⟩ : ∃ d, 24 = r + (d + 1) := ⟨23 - r, by omega⟩
    have e2 : (16777216 : Nat) = 2 ^ r * 2 ^ (d + 1) := by rw [← Nat.pow_add, ← hd]
    have hv : val xs = xs.getD 0 0 + 16777216 * val (xs.drop 1) := by
      cases xs with
      | nil => simp [val]
      | cons y ys => simp [val]
    generalize val (xs.drop 1) = z at *
    generalize xs.getD 0 0 = y at *
    have h1 : (x + 16777216 * val xs) / 2 ^ r / 16777216 = val xs / 2 ^ r := by
      rw [Nat.div_div_eq_div_mul, Nat.mul_comm (2 ^ r) 16777216, ← Nat.div_div_eq_div_mul, Nat.add_mul_div_left _ _ (by omega), Nat.div_eq_of_lt hx0, Nat.zero_add]
    have h2 : (x + 16777216 * val xs) / 2 ^ r % 16777216 = (x + 16777216 * y) / 2 ^ r % 16777216 := by
      rw [hv, Nat.mul_add, ← Nat.add_assoc]
      have e3 : 16777216 * (16777216 * z) = 2 ^ r * (16777216 * (2 ^ (d + 1) * z)) := by
        conv => lhs; lhs; rw [e2]
        rw [Nat.mul_assoc]
        congr 1
        rw [← Nat.mul_assoc, Nat.mul_comm (2 ^ (d + 1)) 16777216, Nat.mul_assoc]
      rw [e3, Nat.add_mul_div_left _ _ hp]
      omega
    have h3 := Nat.div_add_mod ((x + 16777216 * val xs) / 2 ^ r) 16777216
    rw [h1, h2] at h3
    omega
theorem val_drop_div {L : List Nat} (hL : Small L) {i : Nat} (hi : i ≤ L.length) : val (L.drop i) = val L / 2 ^ (24 * i) := by
  have h1 := val_split L i hi
  have h3 := val_lt (small_take hL i)
  rw [List.length_take, Nat.min_eq_left hi] at h3
  rw [← two24, h1, Nat.add_mul_div_left _ _ (pow_pos' i), Nat.div_eq_of_lt h3, Nat.zero_add]
/-- The limbs from one on, without bits, are those of a quotient by a power of 2. -/
theorem cut_val {L : List Nat} (hL : Small L) {k : Nat} (hi : k / 24 ≤ L.length) : val (cutL (k % 24) (L.drop (k / 24))) = val L / 2 ^ k := by
  rw [cutL_val _ (Nat.mod_lt _ (by omega)) _ (small_drop hL _), val_drop_div hL hi, Nat.div_div_eq_div_mul, ← Nat.pow_add, Nat.div_add_mod]
theorem cut_big {L : List Nat} (hL : Small L) {k : Nat} (hi : L.length ≤ k / 24) : val L / 2 ^ k = 0 := by
  have h1 := val_lt hL
  have h2 : 16777216 ^ L.length ≤ 2 ^ k := by
    rw [two24]
    exact Nat.pow_le_pow_right (by omega) (by omega)
  exact Nat.div_eq_of_lt (by omega)

theorem getD_drop2 (L : List Nat) (i k : Nat) : (L.drop i).getD k 0 = L.getD (i + k) 0 := by
  simp [List.getD, List.getElem?_drop]

/-! Limbs moved up -/
structure UpInv (xs L : List Nat) (r c i : Nat) : Prop where
  len : L.length = i
  small : Small L
  eq : val L + 16777216 ^ i * c = val (xs.take i) * 2 ^ r
  c : c < 2 ^ r
theorem upInv_start (xs : List Nat) (r : Nat) : UpInv xs [] r 0 0 := ⟨rfl, small_nil, by simp [val], Nat.pow_pos (by omega)⟩
theorem upInv_step {xs L : List Nat} {r c i : Nat} (h : UpInv xs L r c i) (hx : Small xs) (hi : i < xs.length) :
    UpInv xs (L ++ [(c + xs[i] * 2 ^ r) % 16777216]) r ((c + xs[i] * 2 ^ r) / 16777216) (i + 1) ∧ c + xs[i] * 2 ^ r < 16777216 * 2 ^ r := by
  have hxi := hx i hi
  have hlt : c + xs[i] * 2 ^ r < 16777216 * 2 ^ r := by
    have h1 : (xs[i] + 1) * 2 ^ r ≤ 16777216 * 2 ^ r := Nat.mul_le_mul_right _ hxi
    have h2 := h.c
    rw [Nat.add_mul, Nat.one_mul] at h1
    omega
  refine ⟨⟨by simp [h.len], small_append h.small (small_cons (Nat.mod_lt _ (by omega)) small_nil), ?_, ?_⟩, hlt⟩
  · rw [val_append, h.len, val_take_succ xs i hi]
    have e := h.eq
    have h1 := Nat.div_add_mod (c + xs[i] * 2 ^ r) 16777216
    generalize (c + xs[i] * 2 ^ r) / 16777216 = q at *
    generalize (c + xs[i] * 2 ^ r) % 16777216 = t at *
    generalize val (xs.take i) = v at *
    simp only [val, Nat.pow_succ]
    grind
  · rw [Nat.div_lt_iff_lt_mul (by omega), Nat.mul_comm (2 ^ r) 16777216]
    exact hlt
theorem upInv_done {xs L : List Nat} {r c : Nat} (h : UpInv xs L r c xs.length) (hr : r < 24) : Small (L ++ [c]) ∧ val (L ++ [c]) = val xs * 2 ^ r := by
  have hc : c < 16777216 := Nat.lt_of_lt_of_le h.c (Nat.le_trans (Nat.pow_le_pow_right (by omega) (show r ≤ 24 by omega)) (by decide))
  refine ⟨small_append h.small (small_cons hc small_nil), ?_⟩
  have e := h.eq
  rw [List.take_length] at e
  rw [val_append, h.len]
  simp only [val]
  omega
theorem val_up (n : Nat) (L : List Nat) : val (List.replicate n 0 ++ L) = val L * 2 ^ (24 * n) := by
  rw [val_append, val_zeros, List.length_replicate, two24, Nat.zero_add, Nat.mul_comm]
theorem up_pow (v k : Nat) : v * 2 ^ (k % 24) * 2 ^ (24 * (k / 24)) = v * 2 ^ k := by
  rw [Nat.mul_assoc, ← Nat.pow_add, Nat.mod_add_div]
/-- What a shift up under way holds. -/
def upL (q m : Nat) (U : List Nat) : List Nat := List.replicate q 0 ++ U ++ List.replicate (m - U.length) 0
theorem upL_length {q m : Nat} {U : List Nat} (h : U.length ≤ m) : (upL q m U).length = q + m := by simp [upL]; omega
theorem upL_start (q m : Nat) : upL q m [] = List.replicate (q + m) 0 := by simp [upL, List.replicate_append_replicate]
theorem upL_set {q m : Nat} {U : List Nat} (v : Nat) (h : U.length < m) : (upL q m U).set (q + U.length) v = upL q m (U ++ [v]) := by
  unfold upL
  obtain ⟨d, hd⟩ : ∃ d, m - U.length = d + 1 := ⟨m - U.length - 1, by omega⟩
  rw [hd, List.replicate_succ, List.set_append_right _ _ (by simp)]
  simp
  have : m - (U.length + 1) = d := by omega
  rw [this]
theorem upL_done {q m : Nat} {U : List Nat} (h : U.length = m) : upL q m U = List.replicate q 0 ++ U := by simp [upL, h]
theorem upL_small {q m : Nat} {U : List Nat} (h : Small U) : Small (upL q m U) := small_append (small_append (small_zeros q) h) (small_zeros _)

/-- What is left of a number without its twos. -/
def od (n : Nat) : Nat := n / 2 ^ tw n
theorem od_mul {n : Nat} (h : n ≠ 0) : n = 2 ^ tw n * od n ∧ od n % 2 = 1 := by
  obtain ⟨m, hm⟩ := tw_spec h
  have e : od n = 2 * m + 1 := by
    unfold od
    conv => lhs; lhs; rw [hm]
    exact Nat.mul_div_cancel_left _ (Nat.pow_pos (by omega))
  rw [e]
  exact ⟨hm, by omega⟩
theorem od_pos {n : Nat} (h : n ≠ 0) : 0 < od n := by have := (od_mul h).2; omega
theorem od_le (n : Nat) : od n ≤ n := Nat.div_le_self _ _
theorem cop2 {y : Nat} (hy : y % 2 = 1) (k : Nat) : Nat.Coprime (2 ^ k) y := by
  refine Nat.Coprime.pow_left k ?_
  unfold Nat.Coprime
  rw [Nat.gcd_rec, hy]
  decide
theorem gcd_od_left {x y : Nat} (hx : x ≠ 0) (hy : y % 2 = 1) : Nat.gcd (od x) y = Nat.gcd x y := by
  have h := (od_mul hx).1
  conv => rhs; rw [h]
  exact (Nat.Coprime.gcd_mul_left_cancel (od x) (cop2 hy _)).symm
/-- Of two odd numbers the greater one is replaced by the difference without its twos. -/
theorem gcd_less {x y : Nat} (hy : y % 2 = 1) (h : y < x) : Nat.gcd (od (x - y)) y = Nat.gcd x y ∧ od (x - y) % 2 = 1 ∧ 0 < od (x - y) ∧ od (x - y) < x := by
  have hne : x - y ≠ 0 := by omega
  refine ⟨?_, (od_mul hne).2, od_pos hne, by have := od_le (x - y); omega⟩
  rw [gcd_od_left hne hy]
  have e : x = (x - y) + y := by omega
  conv => rhs; rw [e]
  rw [Nat.gcd_comm (x - y + y), Nat.gcd_add_self_right, Nat.gcd_comm]
theorem gcd_twos {x y : Nat} (hx : x ≠ 0) (hy : y ≠ 0) : Nat.gcd x y = Nat.gcd (od x) (od y) * 2 ^ min (tw x) (tw y) := by
  have key : ∀ a b : Nat, a ≠ 0 → b ≠ 0 → tw a ≤ tw b → Nat.gcd a b = Nat.gcd (od a) (od b) * 2 ^ tw a := fun a b ha hb hle => by
    obtain ⟨ea, oa⟩ := od_mul ha
    obtain ⟨eb, ob⟩ := od_mul hb
    obtain ⟨d, hd⟩ : ∃ d, tw b = tw a + d := ⟨tw b - tw a, by omega⟩
    have h1 : Nat.gcd a b = Nat.gcd (2 ^ tw a * od a) (2 ^ tw a * (2 ^ d * od b)) := by
      conv => lhs; rw [ea, eb, hd, Nat.pow_add, Nat.mul_assoc]
    rw [h1, Nat.gcd_mul_left, Nat.mul_comm, Nat.gcd_comm (od a) (2 ^ d * od b), Nat.Coprime.gcd_mul_left_cancel (od b) (cop2 oa d), Nat.gcd_comm]
  by_cases h : tw x ≤ tw y
  · rw [Nat.min_eq_left h]; exact key x y hx hy h
  · rw [Nat.min_eq_right (by omega), Nat.gcd_comm x y, Nat.gcd_comm (od x)]
    exact key y x hy hx (by omega)

/-! Square roots -/
theorem four_mul_le (x y : Nat) : 4 * (x * y) ≤ (x + y) * (x + y) := by
  rcases Nat.le_total x y with h | h
  · obtain ⟨d, rfl⟩ : ∃ d, y = x + d := ⟨y - x, by omega⟩
    have : (x + (x + d)) * (x + (x + d)) = 4 * (x * (x + d)) + d * d := by grind
    omega
  · obtain ⟨d, rfl⟩ : ∃ d, x = y + d := ⟨x - y, by omega⟩
    have : (y + d + y) * (y + d + y) = 4 * ((y + d) * y) + d * d := by grind
    omega
/-- A Newton's step stays above the root. -/
theorem newton_above {a r : Nat} (hr : 0 < r) : a < ((r + a / r) / 2 + 1) * ((r + a / r) / 2 + 1) := by
  have h1 : a < r * (a / r + 1) := Nat.lt_mul_div_succ a hr
  generalize a / r = q at *
  have h2 := four_mul_le r (q + 1)
  obtain ⟨t, ht⟩ : ∃ t, t = (r + q) / 2 + 1 := ⟨_, rfl⟩
  rw [← ht]
  have h3 : r + (q + 1) ≤ 2 * t := by omega
  have h4 : (r + (q + 1)) * (r + (q + 1)) ≤ 2 * t * (2 * t) := Nat.mul_le_mul h3 h3
  have h5 : 2 * t * (2 * t) = 4 * (t * t) := by grind
  omega
theorem newton_done {a r : Nat} (hr : 0 < r) (h : r ≤ (r + a / r) / 2) : r * r ≤ a := by
  have h1 : r ≤ a / r := by omega
  exact (Nat.le_div_iff_mul_le hr).1 h1
theorem root_unique {a r s : Nat} (h1 : r * r ≤ a) (h2 : a < (r + 1) * (r + 1)) (h3 : s * s ≤ a) (h4 : a < (s + 1) * (s + 1)) : r = s := by
  rcases Nat.lt_trichotomy r s with h | h | h
  · have : (r + 1) * (r + 1) ≤ s * s := Nat.mul_le_mul h h
    omega
  · exact h
  · have : (s + 1) * (s + 1) ≤ r * r := Nat.mul_le_mul h h
    omega
/-- The root bit by bit: with 2^(k+1) more it is too large. -/
structure RootInv (a out k : Nat) : Prop where
  le : out * out ≤ a
  lt : a < (out + 2 ^ k) * (out + 2 ^ k)
theorem root_next (out k : Nat) : out * out + out * 2 ^ (k + 1) + 1 * 2 ^ (2 * k) = (out + 2 ^ k) * (out + 2 ^ k) := by
  rw [Nat.pow_succ, show 2 * k = k + k by omega, Nat.pow_add]
  generalize 2 ^ k = P
  grind
theorem rootInv_yes {a out k : Nat} (h : RootInv a out (k + 1)) (hn : (out + 2 ^ k) * (out + 2 ^ k) ≤ a) : RootInv a (out + 2 ^ k) k := by
  refine ⟨hn, ?_⟩
  have := h.lt
  rw [Nat.pow_succ] at this
  rwa [show out + 2 ^ k + 2 ^ k = out + 2 ^ k * 2 by omega]
theorem rootInv_no {a out k : Nat} (h : RootInv a out (k + 1)) (hn : a < (out + 2 ^ k) * (out + 2 ^ k)) : RootInv a out k := ⟨h.le, hn⟩
end Go.Proofs.Ytabpgkkickdopaa
