/-
  Contracts: products of magnitudes. Conditions: the limbs can be read. Contracts: products of whole numbers of the program. Conditions: the limbs can be read. Contracts: products of whole numbers of the model. Conditions: the limbs can be read.
-/
import Derived.Test.YtnnbfoemmgddeaaTg
namespace Go.Proofs.Ytnnbfoemmgddeaa
set_option linter.unusedVariables false
open Go Go.RowKit

theorem mk_mag_add (n m : Nat) (h : 8 * (n + m) ≤ 281474976710656) : ∀ w, (Instr.makeSlice 117 (.int .i64 ((n : Int) + (m : Int))) (.int .i64 ((n : Int) + (m : Int)))).run Try.prog w = .ok (.slice (some ⟨w.heap.size, 0, none⟩) (n + m) (n + m)) (w.alloc (.cells (madeCells #[.int .i64 0] (n + m)) 2)) := fun w => by
  have := mk_mag (n + m) h w
  rwa [Int.natCast_add] at this

theorem col_bound {xs ys L : List Nat} {i k j : Nat} (h : ColInv xs ys L i k) (hi : i < 4096) (hj : j < L.length) : (L[j] : Int) ≤ 1152921504606846976 := by
  rcases Nat.lt_or_ge j (i + k) with h1 | h1
  · have := h.lo j hj h1
    have h2 : (i + 1) * 281474976710656 ≤ 4096 * 281474976710656 := Nat.mul_le_mul_right _ (by omega)
    omega
  · have := h.hi j hj h1
    have h2 : i * 281474976710656 ≤ 4096 * 281474976710656 := Nat.mul_le_mul_right _ (by omega)
    omega

theorem sg_mul {s t : Int} {m n : Nat} (hs : Sg s m) (ht : Sg t n) : sgnOf (s * t) (m * n) = ((s * m) * (t * n)).sign ∧ m * n = ((s * m) * (t * n)).natAbs := by
  refine sgnOf_eq ?_ ?_
  · unfold Sg at hs ht
    rcases hs with ⟨rfl, rfl⟩ | ⟨hs, rfl | rfl⟩ <;> rcases ht with ⟨rfl, rfl⟩ | ⟨ht, rfl | rfl⟩ <;> simp
  · rw [Int.natCast_mul]
    grind
theorem len_mul {s t : Int} {m n : Nat} (hs : Sg s m) (ht : Sg t n) (hm : (lim m).length ≤ 200) (hn : (lim n).length ≤ 200) : (lim ((s * (m : Int)) * (t * n)).natAbs).length ≤ 1048576 := by
  rw [← (sg_mul hs ht).2]
  have := lim_mul_len m n
  omega

/-- Schoolbook multiplication: rounds i are done, and of the next one k, with the carry c. -/
structure MulInv (xs ys L : List Nat) (i k c : Nat) : Prop where
  len : L.length = xs.length + ys.length + 1
  small : Small L
  zero : ∀ (j : Nat) (h : j < L.length), i + ys.length ≤ j → L[j] = 0
  hi : c < 16777216
  sum : val L + 16777216 ^ (i + k) * c = val (xs.take i) * val ys + 16777216 ^ i * (xs.getD i 0 * val (ys.take k))
theorem mulInv_start (xs ys : List Nat) : MulInv xs ys (List.replicate (xs.length + ys.length + 1) 0) 0 0 0 :=
  ⟨by simp, small_zeros _, fun j h _ => by simp, by omega, by simp [val_zeros, val]⟩
theorem mul_small {x y : Nat} (hx : x < 16777216) (hy : y < 16777216) : x * y ≤ 281474943156225 := by
  have := Nat.mul_le_mul (show x ≤ 16777215 by omega) (show y ≤ 16777215 by omega)
  omega
theorem mulInv_step {xs ys L : List Nat} {i k c : Nat} (h : MulInv xs ys L i k c) (hx : Small xs) (hy : Small ys) (hi : i < xs.length) (hk : k < ys.length) :
    MulInv xs ys (L.set (i + k) ((c + L[i + k]'(by have := h.len; omega) + xs[i] * ys[k]) % 16777216)) i (k + 1) ((c + L[i + k]'(by have := h.len; omega) + xs[i] * ys[k]) / 16777216) := by
  have hl := h.len
  have hik : i + k < L.length := by omega
  have hp := mul_small (hx i hi) (hy k hk)
  have hL := h.small (i + k) hik
  have hc := h.hi
  have hs := h.sum
  have hv := val_set (xs := L) (i + k) hik ((c + L[i + k] + xs[i] * ys[k]) % 16777216)
  refine ⟨by simpa using hl, small_set h.small _ (by omega), fun j hj hij => ?_, by omega, ?_⟩
  · rw [List.getElem_set_ne (by omega)]; exact h.zero j (by simpa using hj) hij
  · rw [val_take_succ ys k hk]
    rw [getD_of_lt hi] at hs ⊢
    have h3 : (c + L[i + k] + xs[i] * ys[k]) % 16777216 + 16777216 * ((c + L[i + k] + xs[i] * ys[k]) / 16777216) = c + L[i + k] + xs[i] * ys[k] := by omega
    generalize (c + L[i + k] + xs[i] * ys[k]) % 16777216 = r at *
    generalize (c + L[i + k] + xs[i] * ys[k]) / 16777216 = q at *
    rw [show i + (k + 1) = i + k + 1 by omega, Nat.pow_succ]
    rw [Nat.pow_add] at hv hs ⊢
    generalize xs[i] = x at *
    generalize ys[k] = y at *
    generalize L[i + k] = z at *
    grind
theorem mulInv_next {xs ys L : List Nat} {i c : Nat} (h : MulInv xs ys L i ys.length c) (hi : i < xs.length) : MulInv xs ys (L.set (i + ys.length) c) (i + 1) 0 0 := by
  have hl := h.len
  have hz := h.zero (i + ys.length) (by omega) (Nat.le_refl _)
  have hv := val_set (xs := L) (i + ys.length) (by omega) c
  have hs := h.sum
  refine ⟨by simpa using hl, small_set h.small _ h.hi, fun j hj hij => ?_, by omega, ?_⟩
  · rw [List.getElem_set_ne (by omega)]; exact h.zero j (by simpa using hj) (by omega)
  · rw [val_take_succ xs i hi]
    rw [getD_of_lt hi, List.take_length] at hs
    rw [hz] at hv
    have e0 : val (ys.take 0) = 0 := by rw [List.take_zero]; rfl
    rw [e0]
    generalize val (L.set (i + ys.length) c) = A at *
    generalize 16777216 ^ (i + ys.length) = p at *
    generalize 16777216 ^ (i + 1 + 0) = p1
    generalize 16777216 ^ (i + 1) = p2
    generalize 16777216 ^ i = p3 at *
    rw [Nat.mul_zero, Nat.mul_zero, Nat.mul_zero, Nat.add_zero, Nat.add_zero, Nat.add_mul, Nat.mul_assoc]
    rw [Nat.mul_zero, Nat.add_zero] at hv
    omega
theorem mulInv_done {xs ys L : List Nat} (h : MulInv xs ys L xs.length 0 0) : val L = val xs * val ys := by
  have hs := h.sum
  rw [List.take_length, getD_of_ge (Nat.le_refl _)] at hs
  simpa using hs
theorem mk_ints3 (n m : Nat) (h : 8 * (n + m + 1) ≤ 281474976710656) : ∀ w, (Instr.makeSlice 54 (.int .i64 ((n : Int) + (m : Int) + 1)) (.int .i64 ((n : Int) + (m : Int) + 1))).run Try.prog w = .ok (.slice (some ⟨w.heap.size, 0, none⟩) (n + m + 1) (n + m + 1)) (w.alloc (.cells (madeCells #[.int .i64 0] (n + m + 1)) 2)) := fun w => by
  have := mk_ints (n + m + 1) h w
  rwa [Int.natCast_succ, Int.natCast_add] at this

end Go.Proofs.Ytnnbfoemmgddeaa
