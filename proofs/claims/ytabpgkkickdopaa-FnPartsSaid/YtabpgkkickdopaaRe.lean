/-
  Limbs: the value of a list of limbs, the limbs of a value, and what loops over limbs keep. Plain mathematics, no conditions. What the loops over limbs keep: sums, differences, products, carries. Plain mathematics, no conditions.
-/
import Derived.Lib.Hide
namespace Go.Proofs.Ytabpgkkickdopaa
set_option linter.unusedVariables false
open Go Go.RowKit

def val : List Nat → Nat
  | [] => 0
  | x :: xs => x + 16777216 * val xs
def dig (n : Nat) : List Nat := if h : n = 0 then [] else n % 16777216 :: dig (n / 16777216)
termination_by n
decreasing_by omega
def Small (xs : List Nat) : Prop := ∀ (i : Nat) (h : i < xs.length), xs[i] < 16777216
def Norm (xs : List Nat) : Prop := Small xs ∧ ∀ (h : 0 < xs.length), xs[xs.length - 1] ≠ 0

theorem small_nil : Small [] := fun i h => absurd h (Nat.not_lt_zero i)
theorem small_tail {x : Nat} {xs : List Nat} (h : Small (x :: xs)) : Small xs := fun i hi => by have := h (i + 1) (by simp; omega); rwa [List.getElem_cons_succ] at this
theorem small_head {x : Nat} {xs : List Nat} (h : Small (x :: xs)) : x < 16777216 := h 0 (by simp)
theorem small_cons {x : Nat} {xs : List Nat} (hx : x < 16777216) (h : Small xs) : Small (x :: xs) := fun i hi => by
  cases i with
  | zero => exact hx
  | succ i => exact h i (by simpa using hi)
theorem small_take {xs : List Nat} (h : Small xs) (n : Nat) : Small (xs.take n) := fun i hi => by
  rw [List.getElem_take]; exact h i (by rw [List.length_take] at hi; omega)
theorem small_drop {xs : List Nat} (h : Small xs) (n : Nat) : Small (xs.drop n) := fun i hi => by
  rw [List.getElem_drop]; exact h _ (by rw [List.length_drop] at hi; omega)
theorem small_append {xs ys : List Nat} (h : Small xs) (k : Small ys) : Small (xs ++ ys) := fun i hi => by
  rw [List.getElem_append]
  split
  · exact h _ _
  · exact k _ _
theorem small_set {xs : List Nat} (h : Small xs) (k : Nat) {x : Nat} (hx : x < 16777216) : Small (xs.set k x) := fun i hi => by
  rw [List.getElem_set]
  split
  · exact hx
  · exact h _ _
theorem small_zeros (n : Nat) : Small (List.replicate n 0) := fun i hi => by simp

theorem val_append (xs ys : List Nat) : val (xs ++ ys) = val xs + 16777216 ^ xs.length * val ys := by
  induction xs with
  | nil => simp [val]
  | cons x xs ih => simp only [List.cons_append, val, ih, List.length_cons, Nat.pow_succ]; grind
theorem val_lt {xs : List Nat} (h : Small xs) : val xs < 16777216 ^ xs.length := by
  induction xs with
  | nil => simp [val]
  | cons x xs ih =>
    have := ih (small_tail h)
    have := small_head h
    simp only [val, List.length_cons, Nat.pow_succ]; omega
theorem val_zeros (n : Nat) : val (List.replicate n 0) = 0 := by
  induction n with
  | zero => rfl
  | succ n ih => simp [List.replicate_succ, val, ih]
theorem val_take_succ (xs : List Nat) (i : Nat) (h : i < xs.length) : val (xs.take (i + 1)) = val (xs.take i) + 16777216 ^ i * xs[i] := by
  rw [List.take_succ_eq_append_getElem h, val_append]
  simp [val, List.length_take, Nat.min_eq_left (Nat.le_of_lt h)]
theorem val_drop (xs : List Nat) (i : Nat) (h : i < xs.length) : val (xs.drop i) = xs[i] + 16777216 * val (xs.drop (i + 1)) := by
  rw [List.drop_eq_getElem_cons h]; rfl
theorem val_split (xs : List Nat) (i : Nat) (h : i ≤ xs.length) : val xs = val (xs.take i) + 16777216 ^ i * val (xs.drop i) := by
  have := val_append (xs.take i) (xs.drop i)
  rwa [List.take_append_drop, List.length_take, Nat.min_eq_left h] at this
theorem val_set {xs : List Nat} (k : Nat) (h : k < xs.length) (x : Nat) : val (xs.set k x) + 16777216 ^ k * xs[k] = val xs + 16777216 ^ k * x := by
  induction xs generalizing k with
  | nil => simp at h
  | cons y ys ih =>
    cases k with
    | zero => simp [val]; omega
    | succ k =>
      have := ih k (by simpa using h)
      simp only [List.set_cons_succ, val, List.getElem_cons_succ, Nat.pow_succ]
      grind

theorem val_dig (n : Nat) : val (dig n) = n := by
  induction n using Nat.strongRecOn with
  | _ n ih =>
    rw [dig]
    split
    · simp [val]; omega
    · simp only [val]; rw [ih _ (by omega)]; omega
theorem dig_zero : dig 0 = [] := by rw [dig]; simp
theorem dig_pos {n : Nat} (h : n ≠ 0) : dig n = n % 16777216 :: dig (n / 16777216) := by rw [dig, dif_neg h]
theorem norm_dig (n : Nat) : Norm (dig n) := by
  induction n using Nat.strongRecOn with
  | _ n ih =>
    by_cases h : n = 0
    · subst h; rw [dig_zero]; exact ⟨small_nil, fun h => absurd h (Nat.lt_irrefl 0)⟩
    · have h2 := ih (n / 16777216) (by omega)
      rw [dig_pos h]
      refine ⟨small_cons (by omega) h2.1, fun _ => ?_⟩
      by_cases h3 : n / 16777216 = 0
      · have e : dig (n / 16777216) = [] := by rw [h3, dig_zero]
        simp only [e, List.length_cons, List.length_nil]
        simp
        omega
      · have hl : 0 < (dig (n / 16777216)).length := by rw [dig_pos h3]; simp
        have := h2.2 hl
        have e : (n % 16777216 :: dig (n / 16777216)).length - 1 = (dig (n / 16777216)).length - 1 + 1 := by simp; omega
        simp only [e, List.getElem_cons_succ]
        exact this
theorem small_dig (n : Nat) : Small (dig n) := (norm_dig n).1
theorem norm_tail {x : Nat} {xs : List Nat} (h : Norm (x :: xs)) : Norm xs := by
  refine ⟨small_tail h.1, fun hl => ?_⟩
  have := h.2 (by simp)
  have e : (x :: xs).length - 1 = xs.length - 1 + 1 := by simp; omega
  simp only [e, List.getElem_cons_succ] at this
  exact this
theorem val_pos {xs : List Nat} (h : Norm xs) (hl : 0 < xs.length) : 0 < val xs := by
  induction xs with
  | nil => simp at hl
  | cons x xs ih =>
    by_cases h0 : 0 < xs.length
    · have := ih (norm_tail h) h0; simp only [val]; omega
    · have : xs = [] := List.eq_nil_of_length_eq_zero (by omega)
      subst this
      have := h.2 (by simp)
      simp at this
      simp [val]; omega
theorem dig_val {xs : List Nat} (h : Norm xs) : dig (val xs) = xs := by
  induction xs with
  | nil => simp [val, dig_zero]
  | cons x xs ih =>
    have hp := val_pos h (by simp)
    have hx := small_head h.1
    rw [dig_pos (by omega)]
    simp only [val]
    rw [show (x + 16777216 * val xs) % 16777216 = x by omega, show (x + 16777216 * val xs) / 16777216 = val xs by omega, ih (norm_tail h)]
theorem norm_inj {xs ys : List Nat} (h : Norm xs) (k : Norm ys) (e : val xs = val ys) : xs = ys := by
  rw [← dig_val h, ← dig_val k, e]
theorem val_eq_zero {xs : List Nat} (h : Norm xs) : val xs = 0 ↔ xs = [] := by
  constructor
  · intro e
    rcases Nat.eq_zero_or_pos xs.length with h0 | h0
    · exact List.eq_nil_of_length_eq_zero h0
    · have := val_pos h h0; omega
  · intro e; subst e; rfl
theorem dig_nil_iff (n : Nat) : dig n = [] ↔ n = 0 := by
  rw [← val_eq_zero (norm_dig n), val_dig]
theorem dig_length_pos {n : Nat} (h : n ≠ 0) : 0 < (dig n).length := by rw [dig_pos h]; simp
theorem pow_pos' (k : Nat) : 0 < 16777216 ^ k := Nat.pow_pos (by omega)
/-- How long the limbs of a number are. -/
theorem dig_length_le {n k : Nat} (h : n < 16777216 ^ k) : (dig n).length ≤ k := by
  induction k generalizing n with
  | zero => have : n = 0 := by simp at h; omega
            subst this; simp [dig_zero]
  | succ k ih =>
    by_cases h0 : n = 0
    · subst h0; simp [dig_zero]
    · rw [dig_pos h0, List.length_cons]
      have : n / 16777216 < 16777216 ^ k := by rw [Nat.pow_succ] at h; exact Nat.div_lt_of_lt_mul (by omega)
      have := ih this
      omega
theorem dig_lt (n : Nat) : n < 16777216 ^ (dig n).length := by
  have := val_lt (small_dig n)
  rwa [val_dig] at this
theorem val_ge {xs : List Nat} (h : Norm xs) (hl : 0 < xs.length) : 16777216 ^ (xs.length - 1) ≤ val xs := by
  have e := val_take_succ xs (xs.length - 1) (by omega)
  rw [show xs.length - 1 + 1 = xs.length by omega, List.take_length] at e
  have := h.2 hl
  have h1 : 1 ≤ xs[xs.length - 1] := by omega
  have : 16777216 ^ (xs.length - 1) * 1 ≤ 16777216 ^ (xs.length - 1) * xs[xs.length - 1] := Nat.mul_le_mul_left _ h1
  omega
theorem dig_ge {n : Nat} (h : n ≠ 0) : 16777216 ^ ((dig n).length - 1) ≤ n := by
  have := val_ge (norm_dig n) (dig_length_pos h)
  rwa [val_dig] at this
/-- A list of small limbs, cut where only zeros follow and none stands before, is the limbs of its value. -/
theorem take_dig {xs : List Nat} (h : Small xs) {n : Nat} (hn : n ≤ xs.length) (hz : ∀ (i : Nat) (hi : i < xs.length), n ≤ i → xs[i] = 0) (hl : ∀ (h0 : 0 < n), xs[n - 1]'(by omega) ≠ 0) : xs.take n = dig (val xs) := by
  have e : val xs = val (xs.take n) := by
    have h1 := val_split xs n hn
    have h2 : xs.drop n = List.replicate (xs.length - n) 0 := by
      apply List.ext_getElem
      · simp
      · intro i h1 h2
        rw [List.getElem_drop, List.getElem_replicate]
        exact hz _ _ (by omega)
    rw [h2, val_zeros] at h1
    omega
  rw [e]
  refine (dig_val ⟨small_take h n, fun h0 => ?_⟩).symm
  have hl2 : (xs.take n).length = n := by rw [List.length_take]; omega
  rw [List.getElem_take]
  simp only [hl2] at h0 ⊢
  exact hl h0
theorem last_nonzero (xs : List Nat) (k : Nat) (hk : k ≤ xs.length) (hz : ∀ (i : Nat) (hi : i < xs.length), k ≤ i → xs[i] = 0) :
    ∃ n, ∃ (hn : n ≤ xs.length), (∀ (i : Nat) (hi : i < xs.length), n ≤ i → xs[i] = 0) ∧ ∀ (h0 : 0 < n), xs[n - 1]'(by omega) ≠ 0 := by
  induction k with
  | zero => exact ⟨0, hk, hz, fun h => absurd h (Nat.lt_irrefl 0)⟩
  | succ k ih =>
    by_cases h : xs[k]'(by omega) = 0
    · exact ih (by omega) (fun i hi hki => by
        by_cases e : i = k
        · subst e; exact h
        · exact hz i hi (by omega))
    · exact ⟨k + 1, hk, hz, fun _ => h⟩
theorem take_dig_len {xs : List Nat} (h : Small xs) : xs.take (dig (val xs)).length = dig (val xs) := by
  obtain ⟨n, hn, h1, h2⟩ := last_nonzero xs xs.length (Nat.le_refl _) (fun i hi h => absurd hi (by omega))
  have e := take_dig h hn h1 h2
  rw [← e, List.length_take, Nat.min_eq_left hn]
theorem dig_length_val_le {xs : List Nat} (h : Small xs) : (dig (val xs)).length ≤ xs.length := dig_length_le (val_lt h)

/-! Order -/
theorem lt_of_length {xs ys : List Nat} (hx : Small xs) (hy : Norm ys) (h : xs.length < ys.length) : val xs < val ys := by
  have h1 := val_lt hx
  have h2 := val_ge hy (by omega)
  have h3 : 16777216 ^ xs.length ≤ 16777216 ^ (ys.length - 1) := Nat.pow_le_pow_right (by omega) (by omega)
  omega
/-- Where the limbs above are the same, the first limb that differs decides. -/
theorem lt_of_limb {xs ys : List Nat} (hx : Small xs) (he : xs.length = ys.length) (i : Nat) (hi : i < xs.length) (hd : xs.drop (i + 1) = ys.drop (i + 1)) (h : xs[i] < ys[i]'(by omega)) : val xs < val ys := by
  have e1 := val_split xs i (by omega)
  have e2 := val_split ys i (by omega)
  have f1 := val_drop xs i hi
  have f2 := val_drop ys i (by omega)
  have g := val_lt (small_take hx i)
  rw [List.length_take, Nat.min_eq_left (by omega)] at g
  rw [hd] at f1
  have h4 : 16777216 ^ i * (val (xs.drop i) + 1) ≤ 16777216 ^ i * val (ys.drop i) := Nat.mul_le_mul_left _ (by omega)
  rw [Nat.mul_add] at h4
  omega
theorem drop_same {xs ys : List Nat} (he : xs.length = ys.length) (i : Nat) (hi : i < xs.length) (hd : xs.drop (i + 1) = ys.drop (i + 1)) (h : xs[i] = ys[i]'(by omega)) : xs.drop i = ys.drop i := by
  rw [List.drop_eq_getElem_cons hi, List.drop_eq_getElem_cons (show i < ys.length by omega), hd, h]

theorem cast_pow (i : Nat) : ((16777216 ^ i : Nat) : Int) = (16777216 : Int) ^ i := by rw [Int.natCast_pow]; rfl
theorem val_take_getD (ys : List Nat) (i : Nat) : val (ys.take (i + 1)) = val (ys.take i) + 16777216 ^ i * ys.getD i 0 := by
  by_cases h : i < ys.length
  · rw [val_take_succ ys i h, List.getD_eq_getElem?_getD, List.getElem?_eq_getElem h]; rfl
  · rw [List.getD_eq_getElem?_getD, List.getElem?_eq_none (by omega), List.take_of_length_le (by omega), List.take_of_length_le (by omega)]; simp
theorem getD_lt {ys : List Nat} (h : Small ys) (i : Nat) : ys.getD i 0 < 16777216 := by
  rw [List.getD_eq_getElem?_getD]
  by_cases hi : i < ys.length
  · rw [List.getElem?_eq_getElem hi]; exact h i hi
  · rw [List.getElem?_eq_none (by omega)]; simp
theorem getD_of_lt {ys : List Nat} {i : Nat} (h : i < ys.length) : ys.getD i 0 = ys[i] := by
  rw [List.getD_eq_getElem?_getD, List.getElem?_eq_getElem h]; rfl
theorem getD_of_ge {ys : List Nat} {i : Nat} (h : ys.length ≤ i) : ys.getD i 0 = 0 := by
  rw [List.getD_eq_getElem?_getD, List.getElem?_eq_none h]; rfl

/-- A sum or a difference under way: limbs below i are found, the others are 0, the carry is c. -/
structure AddInv (xs ys L : List Nat) (f c : Int) (i : Nat) : Prop where
  len : L.length = xs.length + 1
  small : Small L
  zero : ∀ (j : Nat) (h : j < L.length), i ≤ j → L[j] = 0
  lo : -1 ≤ c
  hi : c ≤ 1
  sum : (val L : Int) + (16777216 : Int) ^ i * c = (val (xs.take i) : Int) + f * (val (ys.take i) : Int)

theorem addInv_start (xs ys : List Nat) (f : Int) : AddInv xs ys (List.replicate (xs.length + 1) 0) f 0 0 :=
  ⟨by simp, small_zeros _, fun j h _ => by simp, by omega, by omega, by simp [val_zeros, val]⟩

theorem addInv_step {xs ys L : List Nat} {f c : Int} {i : Nat} (h : AddInv xs ys L f c i) (hx : Small xs) (hy : Small ys) (hi : i < xs.length) (hf : f = 1 ∨ f = -1) :
    AddInv xs ys (L.set i ((c + xs[i] + ys.getD i 0 * f) % 16777216).toNat) f ((c + xs[i] + ys.getD i 0 * f) / 16777216) (i + 1) := by
  have h1 := hx i hi
  have h2 := getD_lt hy i
  have hl := h.len
  have e0 := h.zero i (by omega) (Nat.le_refl _)
  have hlo := h.lo
  have hhi := h.hi
  have hs := h.sum
  generalize ht : c + (xs[i] : Int) + (ys.getD i 0 : Int) * f = t
  have b1 : -16777216 ≤ t := by rcases hf with rfl | rfl <;> omega
  have b2 : t < 2 * 16777216 := by rcases hf with rfl | rfl <;> omega
  have hv := val_set (xs := L) i (by omega) (t % 16777216).toNat
  rw [e0] at hv
  have hp := val_take_succ xs i hi
  have hq := val_take_getD ys i
  refine ⟨by simpa using h.len, small_set h.small i (by omega), fun j hj hij => ?_, by omega, by omega, ?_⟩
  · rw [List.getElem_set_ne (by omega)]; exact h.zero j (by simpa using hj) (by omega)
  · have hv' : (val (L.set i (t % 16777216).toNat) : Int) = val L + (16777216 : Int) ^ i * (t % 16777216) := by
      have : ((val (L.set i (t % 16777216).toNat) + 16777216 ^ i * 0 : Nat) : Int) = ((val L + 16777216 ^ i * (t % 16777216).toNat : Nat) : Int) := by rw [hv]
      simp only [Int.natCast_add, Int.natCast_mul, cast_pow] at this
      rw [Int.toNat_of_nonneg (by omega)] at this
      omega
    have hp' : (val (xs.take (i + 1)) : Int) = val (xs.take i) + (16777216 : Int) ^ i * xs[i] := by rw [hp]; simp only [Int.natCast_add, Int.natCast_mul, cast_pow]
    have hq' : (val (ys.take (i + 1)) : Int) = val (ys.take i) + (16777216 : Int) ^ i * ys.getD i 0 := by rw [hq]; simp only [Int.natCast_add, Int.natCast_mul, cast_pow]
    rw [hv', hp', hq']
    have ht2 : t % 16777216 + 16777216 * (t / 16777216) = t := by omega
    generalize t % 16777216 = r at *
    generalize t / 16777216 = q at *
    have : (16777216 : Int) ^ (i + 1) = 16777216 ^ i * 16777216 := by rw [Int.pow_succ]
    rw [this]
    grind

theorem addInv_done {xs ys L : List Nat} {f c : Int} (h : AddInv xs ys L f c xs.length) (hy : ys.length ≤ xs.length) (h0 : 0 ≤ (val xs : Int) + f * val ys) :
    0 ≤ c ∧ c ≤ 1 ∧ Small (L.set xs.length c.toNat) ∧ (val (L.set xs.length c.toNat) : Int) = val xs + f * val ys := by
  have hl := h.len
  have e0 := h.zero xs.length (by omega) (Nat.le_refl _)
  have hs := h.sum
  rw [List.take_length, List.take_of_length_le hy] at hs
  have hlt : val L < 16777216 ^ xs.length := by
    have h1 := val_take_succ L xs.length (by omega)
    rw [show xs.length + 1 = L.length by omega, List.take_length, e0] at h1
    have h2 := val_lt (small_take h.small xs.length)
    rw [List.length_take, Nat.min_eq_left (by omega)] at h2
    omega
  have hlt' : (val L : Int) < (16777216 : Int) ^ xs.length := by rw [← cast_pow]; exact Int.ofNat_lt.2 hlt
  have hc : 0 ≤ c := by
    rcases Int.lt_or_le c 0 with hn | hn
    · have hlo := h.lo
      obtain rfl : c = -1 := by omega
      rw [show (16777216 : Int) ^ xs.length * -1 = -(16777216 : Int) ^ xs.length by grind] at hs
      omega
    · exact hn
  have hhi := h.hi
  have hv := val_set (xs := L) xs.length (by omega) c.toNat
  rw [e0] at hv
  refine ⟨hc, hhi, small_set h.small _ (by omega), ?_⟩
  have : ((val (L.set xs.length c.toNat) + 16777216 ^ xs.length * 0 : Nat) : Int) = ((val L + 16777216 ^ xs.length * c.toNat : Nat) : Int) := by rw [hv]
  simp only [Int.natCast_add, Int.natCast_mul, cast_pow] at this
  rw [Int.toNat_of_nonneg hc] at this
  omega

/-- Columns are carried: limbs below i are small, the others as they were. -/
structure CarInv (P L : List Nat) (M c i : Nat) : Prop where
  len : L.length = P.length
  small : ∀ (j : Nat) (h : j < L.length), j < i → L[j] < 16777216
  same : ∀ (j : Nat) (h : j < L.length) (k : j < P.length), i ≤ j → L[j] = P[j]
  hi : c ≤ M
  sum : val L + 16777216 ^ i * c = val P
theorem carInv_start (P : List Nat) (M : Nat) : CarInv P P M 0 0 := ⟨rfl, fun j h k => absurd k (Nat.not_lt_zero _), fun j h k _ => rfl, Nat.zero_le _, by simp⟩
theorem carInv_step {P L : List Nat} {M c i : Nat} (h : CarInv P L M c i) (hM : ∀ (j : Nat) (k : j < P.length), P[j] ≤ M) (hi : i < L.length) :
    CarInv P (L.set i ((c + L[i]) % 16777216)) M ((c + L[i]) / 16777216) (i + 1) := by
  have hl := h.len
  have e := h.same i hi (by omega) (Nat.le_refl _)
  have hm := hM i (by omega)
  have hc := h.hi
  have hs := h.sum
  have hv := val_set (xs := L) i hi ((c + L[i]) % 16777216)
  refine ⟨by simpa using hl, fun j hj hji => ?_, fun j hj hk hij => ?_, by omega, ?_⟩
  · rw [List.getElem_set]
    split
    · omega
    · exact h.small j (by simpa using hj) (by omega)
  · rw [List.getElem_set_ne (by omega)]; exact h.same j (by simpa using hj) hk (by omega)
  · have h2 : (c + L[i]) % 16777216 + 16777216 * ((c + L[i]) / 16777216) = c + L[i] := by omega
    generalize (c + L[i]) % 16777216 = r at *
    generalize (c + L[i]) / 16777216 = q at *
    rw [Nat.pow_succ]
    grind
theorem carInv_done {P L : List Nat} {M c : Nat} (h : CarInv P L M c L.length) (hb : val P < 16777216 ^ P.length) : Small L ∧ val L = val P := by
  have hl := h.len
  have hs := h.sum
  refine ⟨fun j hj => h.small j hj hj, ?_⟩
  rcases Nat.eq_zero_or_pos c with rfl | hc
  · omega
  · rw [hl] at hs
    have : 16777216 ^ P.length * 1 ≤ 16777216 ^ P.length * c := Nat.mul_le_mul_left _ hc
    omega

/-- Products of limbs are added to columns: rounds i are done, and of the next one k. -/
structure ColInv (xs ys L : List Nat) (i k : Nat) : Prop where
  len : L.length = xs.length + ys.length
  lo : ∀ (j : Nat) (h : j < L.length), j < i + k → L[j] ≤ (i + 1) * 281474976710656
  hi : ∀ (j : Nat) (h : j < L.length), i + k ≤ j → L[j] ≤ i * 281474976710656
  sum : val L = val (xs.take i) * val ys + 16777216 ^ i * (xs.getD i 0 * val (ys.take k))
theorem colInv_start (xs ys : List Nat) : ColInv xs ys (List.replicate (xs.length + ys.length) 0) 0 0 :=
  ⟨by simp, fun j h _ => by simp, fun j h _ => by simp, by simp [val_zeros, val]⟩
theorem colInv_next {xs ys L : List Nat} {i : Nat} (h : ColInv xs ys L i ys.length) (hi : i < xs.length) : ColInv xs ys L (i + 1) 0 := by
  refine ⟨h.len, fun j hj hji => ?_, fun j hj hji => ?_, ?_⟩
  · rcases Nat.lt_or_ge j (i + ys.length) with hlt | hge
    · exact Nat.le_trans (h.lo j hj hlt) (Nat.mul_le_mul_right _ (by omega))
    · exact Nat.le_trans (h.hi j hj hge) (Nat.mul_le_mul_right _ (by omega))
  · rcases Nat.lt_or_ge j (i + ys.length) with hlt | hge
    · exact Nat.le_trans (h.lo j hj hlt) (Nat.mul_le_mul_right _ (by omega))
    · exact Nat.le_trans (h.hi j hj hge) (Nat.mul_le_mul_right _ (by omega))
  · have hs := h.sum
    rw [hs, val_take_succ xs i hi, List.take_length, getD_of_lt hi]
    simp [val]
    grind
theorem colInv_step {xs ys L : List Nat} {i k : Nat} (h : ColInv xs ys L i k) (hx : Small xs) (hy : Small ys) (hi : i < xs.length) (hk : k < ys.length) :
    ColInv xs ys (L.set (i + k) (L[i + k]'(by have := h.len; omega) + xs[i] * ys[k])) i (k + 1) := by
  have hl := h.len
  have hik : i + k < L.length := by omega
  have h1 := hx i hi
  have h2 := hy k hk
  have hp : xs[i] * ys[k] ≤ 281474976710656 := by
    have := Nat.mul_le_mul (Nat.le_of_lt h1) (Nat.le_of_lt h2)
    omega
  have h3 := h.hi (i + k) hik (Nat.le_refl _)
  have hs := h.sum
  have hv := val_set (xs := L) (i + k) hik (L[i + k] + xs[i] * ys[k])
  refine ⟨by simpa using hl, fun j hj hji => ?_, fun j hj hji => ?_, ?_⟩
  · rw [List.getElem_set]
    split
    · omega
    · exact h.lo j (by simpa using hj) (by omega)
  · rw [List.getElem_set_ne (by omega)]
    exact h.hi j (by simpa using hj) (by omega)
  · rw [val_take_succ ys k hk]
    rw [getD_of_lt hi] at hs ⊢
    rw [Nat.pow_add] at hv
    generalize xs[i] = x at *
    generalize ys[k] = y at *
    generalize L[i + k] = z at *
    grind
theorem colInv_done {xs ys L : List Nat} (h : ColInv xs ys L xs.length 0) : val L = val xs * val ys := by
  have hs := h.sum
  rw [List.take_length, getD_of_ge (Nat.le_refl _)] at hs
  simpa using hs
theorem mul_lt_pow {xs ys : List Nat} (hx : Small xs) (hy : Small ys) : val xs * val ys < 16777216 ^ (xs.length + ys.length) := by
  rw [Nat.pow_add]
  exact Nat.mul_lt_mul'' (val_lt hx) (val_lt hy)
end Go.Proofs.Ytabpgkkickdopaa
