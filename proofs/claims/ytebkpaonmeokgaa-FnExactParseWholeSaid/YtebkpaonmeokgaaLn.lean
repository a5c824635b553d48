/-
  What the loops over limbs keep: sums, differences, products, carries. Plain mathematics, no conditions.
-/
import Derived.Test.YtebkpaonmeokgaaLm
namespace Go.Proofs.Ytebkpaonmeokgaa
set_option linter.unusedVariables false

theorem cast_pow (i : Nat) : ((16777216 ^ i : Nat) : Int) = (16777216 : Int) ^ i := by rw [Int.natCast_pow]; rfl
theorem val_take_getD (ys : List Nat) (i : Nat) : val (ys.take (i + 1)) = val (ys.take i) + 16777216 ^ i * ys.getD i 0 := by
  by_cases h : i < ys.length
  · rw [val_take_succ ys i h, List.getD_eq_getElem?_getD, List.getElem?_eq_getElem h]; rfl
  · rw [List.getD_eq_getElem?_getD, List.getElem?_eq_none (by omega), List.take_of_length_le (by omega), List.take_of_length_le (by omega)]; simp
theorem getD_lt {ys : List Nat} (h : Small ys) (i : Nat) : ys.getD i 0 < 16777216 := by
  rw [List.getD_eq_getElem?_getD]
  by_cases hi : i < ys.length
  · rw [List.getElem?_eq_getElem hi]; exact h i hi
  · rw [List.getElem?_eq_none (by omega)]; simp
theorem getD_of_lt {ys : List Nat} {i : Nat} (h : i < ys.length) : ys.getD i 0 = ys[i] := by
  rw [List.getD_eq_getElem?_getD, List.getElem?_eq_getElem h]; rfl
theorem getD_of_ge {ys : List Nat} {i : Nat} (h : ys.length ≤ i) : ys.getD i 0 = 0 := by
  rw [List.getD_eq_getElem?_getD, List.getElem?_eq_none h]; rfl

/-- A sum or a difference under way: limbs below i are found, the others are 0, the carry is c. -/
structure AddInv (xs ys L : List Nat) (f c : Int) (i : Nat) : Prop where
  len : L.length = xs.length + 1
  small : Small L
  zero : ∀ (j : Nat) (h : j < L.length), i ≤ j → L[j] = 0
  lo : -1 ≤ c
  hi : c ≤ 1
  sum : (val L : Int) + (16777216 : Int) ^ i * c = (val (xs.take i) : Int) + f * (val (ys.take i) : Int)

theorem addInv_start (xs ys : List Nat) (f : Int) : AddInv xs ys (List.replicate (xs.length + 1) 0) f 0 0 :=
  ⟨by simp, small_zeros _, fun j h _ => by simp, by omega, by omega, by simp [val_zeros, val]⟩

theorem addInv_step {xs ys L : List Nat} {f c : Int} {i : Nat} (h : AddInv xs ys L f c i) (hx : Small xs) (hy : Small ys) (hi : i < xs.length) (hf : f = 1 ∨ f = -1) :
    AddInv xs ys (L.set i ((c + xs[i] + ys.getD i 0 * f) % 16777216).toNat) f ((c + xs[i] + ys.getD i 0 * f) / 16777216) (i + 1) := by
  have h1 := hx i hi
  have h2 := getD_lt hy i
  have hl := h.len
  have e0 := h.zero i (by omega) (Nat.le_refl _)
  have hlo := h.lo
  have hhi := h.hi
  have hs := h.sum
  generalize ht : c + (xs[i] : Int) + (ys.getD i 0 : Int) * f = t
  have b1 : -16777216 ≤ t := by rcases hf with rfl | rfl <;> omega
  have b2 : t < 2 * 16777216 := by rcases hf with rfl | rfl <;> omega
  have hv := val_set (xs := L) i (by omega) (t % 16777216).toNat
  rw [e0] at hv
  have hp := val_take_succ xs i hi
  have hq := val_take_getD ys i
  refine ⟨by simpa using h.len, small_set h.small i (by omega), fun j hj hij => ?_, by omega, by omega, ?_⟩
  · rw [List.getElem_set_ne (by omega)]; exact h.zero j (by simpa using hj) (by omega)
  · have hv' : (val (L.set i (t % 16777216).toNat) : Int) = val L + (16777216 : Int) ^ i * (t % 16777216) := by
      have : ((val (L.set i (t % 16777216).toNat) + 16777216 ^ i * 0 : Nat) : Int) = ((val L + 16777216 ^ i * (t % 16777216).toNat : Nat) : Int) := by rw [hv]
      simp only [Int.natCast_add, Int.natCast_mul, cast_pow] at this
      rw [Int.toNat_of_nonneg (by omega)] at this
      omega
    have hp' : (val (xs.take (i + 1)) : Int) = val (xs.take i) + (16777216 : Int) ^ i * xs[i] := by rw [hp]; simp only [Int.natCast_add, Int.natCast_mul, cast_pow]
    have hq' : (val (ys.take (i + 1)) : Int) = val (ys.take i) + (16777216 : Int) ^ i * ys.getD i 0 := by rw [hq]; simp only [Int.natCast_add, Int.natCast_mul, cast_pow]
    rw [hv', hp', hq']
    have ht2 : t % 16777216 + 16777216 * (t / 16777216) = t := by omega
    generalize t % 16777216 = r at *
    generalize t / 16777216 = q at *
    have : (16777216 : Int) ^ (i + 1) = 16777216 ^ i * 16777216 := by rw [Int.pow_succ]
    rw [this]
    grind

theorem addInv_done {xs ys L : List Nat} {f c : Int} (h : AddInv xs ys L f c xs.length) (hy : ys.length ≤ xs.length) (h0 : 0 ≤ (val xs : Int) + f * val ys) :
    0 ≤ c ∧ c ≤ 1 ∧ Small (L.set xs.length c.toNat) ∧ (val (L.set xs.length c.toNat) : Int) = val xs + f * val ys := by
  have hl := h.len
  have e0 := h.zero xs.length (by omega) (Nat.le_refl _)
  have hs := h.sum
  rw [List.take_length, List.take_of_length_le hy] at hs
  have hlt : val L < 16777216 ^ xs.length := by
    have h1 := val_take_succ L xs.length (by omega)
    rw [show xs.length + 1 = L.length by omega, List.take_length, e0] at h1
    have h2 := val_lt (small_take h.small xs.length)
    rw [List.length_take, Nat.min_eq_left (by omega)] at h2
    omega
  have hlt' : (val L : Int) < (16777216 : Int) ^ xs.length := by rw [← cast_pow]; exact Int.ofNat_lt.2 hlt
  have hc : 0 ≤ c := by
    rcases Int.lt_or_le c 0 with hn | hn
    · have hlo := h.lo
      obtain rfl : c = -1 := by omega
      rw [show (16777216 : Int) ^ xs.length * -1 = -(16777216 : Int) ^ xs.length by grind] at hs
      omega
    · exact hn
  have hhi := h.hi
  have hv := val_set (xs := L) xs.length (by omega) c.toNat
  rw [e0] at hv
  refine ⟨hc, hhi, small_set h.small _ (by omega), ?_⟩
  have : ((val (L.set xs.length c.toNat) + 16777216 ^ xs.length * 0 : Nat) : Int) = ((val L + 16777216 ^ xs.length * c.toNat : Nat) : Int) := by rw [hv]
  simp only [Int.natCast_add, Int.natCast_mul, cast_pow] at this
  rw [Int.toNat_of_nonneg hc] at this
  omega

/-- Columns are carried: limbs below i are small, the others as they were. -/
structure CarInv (P L : List Nat) (M c i : Nat) : Prop where
  len : L.length = P.length
  small : ∀ (j : Nat) (h : j < L.length), j < i → L[j] < 16777216
  same : ∀ (j : Nat) (h : j < L.length) (k : j < P.length), i ≤ j → L[j] = P[j]
  hi : c ≤ M
  sum : val L + 16777216 ^ i * c = val P
theorem carInv_start (P : List Nat) (M : Nat) : CarInv P P M 0 0 := ⟨rfl, fun j h k => absurd k (Nat.not_lt_zero _), fun j h k _ => rfl, Nat.zero_le _, by simp⟩
theorem carInv_step {P L : List Nat} {M c i : Nat} (h : CarInv P L M c i) (hM : ∀ (j : Nat) (k : j < P.length), P[j] ≤ M) (hi : i < L.length) :
    CarInv P (L.set i ((c + L[i]) % 16777216)) M ((c + L[i]) / 16777216) (i + 1) := by
  have hl := h.len
  have e := h.same i hi (by omega) (Nat.le_refl _)
  have hm := hM i (by omega)
  have hc := h.hi
  have hs := h.sum
  have hv := val_set (xs := L) i hi ((c + L[i]) % 16777216)
  refine ⟨by simpa using hl, fun j hj hji => ?_, fun j hj hk hij => ?_, by omega, ?_⟩
  · rw [List.getElem_set]
    split
    · omega
    · exact h.small j (by simpa using hj) (by omega)
  · rw [List.getElem_set_ne (by omega)]; exact h.same j (by simpa using hj) hk (by omega)
  · have h2 : (c + L[i]) % 16777216 + 16777216 * ((c + L[i]) / 16777216) = c + L[i] := by omega
    generalize (c + L[i]) % 16777216 = r at *
    generalize (c + L[i]) / 16777216 = q at *
    rw [Nat.pow_succ]
    grind
theorem carInv_done {P L : List Nat} {M c : Nat} (h : CarInv P L M c L.length) (hb : val P < 16777216 ^ P.length) : Small L ∧ val L = val P := by
  have hl := h.len
  have hs := h.sum
  refine ⟨fun j hj => h.small j hj hj, ?_⟩
  rcases Nat.eq_zero_or_pos c with rfl | hc
  · omega
  · rw [hl] at hs
    have : 16777216 ^ P.length * 1 ≤ 16777216 ^ P.length * c := Nat.mul_le_mul_left _ hc
    omega

/-- Products of limbs are added to columns: rounds i are done, and of the next one k. -/
structure ColInv (xs ys L : List Nat) (i k : Nat) : Prop where
  len : L.length = xs.length + ys.length
  lo : ∀ (j : Nat) (h : j < L.length), j < i + k → L[j] ≤ (i + 1) * 281474976710656
  hi : ∀ (j : Nat) (h : j < L.length), i + k ≤ j → L[j] ≤ i * 281474976710656
  sum : val L = val (xs.take i) * val ys + 16777216 ^ i * (xs.getD i 0 * val (ys.take k))
theorem colInv_start (xs ys : List Nat) : ColInv xs ys (List.replicate (xs.length + ys.length) 0) 0 0 :=
  ⟨by simp, fun j h _ => by simp, fun j h _ => by simp, by simp [val_zeros, val]⟩
theorem colInv_next {xs ys L : List Nat} {i : Nat} (h : ColInv xs ys L i ys.length) (hi : i < xs.length) : ColInv xs ys L (i + 1) 0 := by
  refine ⟨h.len, fun j hj hji => ?_, fun j hj hji => ?_, ?_⟩
  · rcases Nat.lt_or_ge j (i + ys.length) with hlt | hge
    · exact Nat.le_trans (h.lo j hj hlt) (Nat.mul_le_mul_right _ (by omega))
    · exact Nat.le_trans (h.hi j hj hge) (Nat.mul_le_mul_right _ (by omega))
  · rcases Nat.lt_or_ge j (i + ys.length) with hlt | hge
    · exact Nat.le_trans (h.lo j hj hlt) (Nat.mul_le_mul_right _ (by omega))
    · exact Nat.le_trans (h.hi j hj hge) (Nat.mul_le_mul_right _ (by omega))
  · have hs := h.sum
    rw [hs, val_take_succ xs i hi, List.take_length, getD_of_lt hi]
    simp [val]
    grind
theorem colInv_step {xs ys L : List Nat} {i k : Nat} (h : ColInv xs ys L i k) (hx : Small xs) (hy : Small ys) (hi : i < xs.length) (hk : k < ys.length) :
    ColInv xs ys (L.set (i + k) (L[i + k]'(by have := h.len; omega) + xs[i] * ys[k])) i (k + 1) := by
  have hl := h.len
  have hik : i + k < L.length := by omega
  have h1 := hx i hi
  have h2 := hy k hk
  have hp : xs[i] * ys[k] ≤ 281474976710656 := by
    have := Nat.mul_le_mul (Nat.le_of_lt h1) (Nat.le_of_lt h2)
    omega
  have h3 := h.hi (i + k) hik (Nat.le_refl _)
  have hs := h.sum
  have hv := val_set (xs := L) (i + k) hik (L[i + k] + xs[i] * ys[k])
  refine ⟨by simpa using hl, fun j hj hji => ?_, fun j hj hji => ?_, ?_⟩
  · rw [List.getElem_set]
    split
    · omega
    · exact h.lo j (by simpa using hj) (by omega)
  · rw [List.getElem_set_ne (by omega)]
    exact h.hi j (by simpa using hj) (by omega)
  · rw [val_take_succ ys k hk]
    rw [getD_of_lt hi] at hs ⊢
    rw [Nat.pow_add] at hv
    generalize xs[i] = x at *
    generalize ys[k] = y at *
    generalize L[i + k] = z at *
    grind
theorem colInv_done {xs ys L : List Nat} (h : ColInv xs ys L xs.length 0) : val L = val xs * val ys := by
  have hs := h.sum
  rw [List.take_length, getD_of_ge (Nat.le_refl _)] at hs
  simpa using hs
theorem mul_lt_pow {xs ys : List Nat} (hx : Small xs) (hy : Small ys) : val xs * val ys < 16777216 ^ (xs.length + ys.length) := by
  rw [Nat.pow_add]
  exact Nat.mul_lt_mul'' (val_lt hx) (val_lt hy)
end Go.Proofs.Ytebkpaonmeokgaa
