/-
  Contracts of the model's limbs: copies, trimming, sums, differences, order. Conditions: the limbs can be read. Contracts of the model's limbs: sums, differences, order. Conditions: the limbs can be read. Contracts of the model's limbs: differences, order. Conditions: the limbs can be read. Contracts of the model's whole numbers: sums, opposites, differences. Conditions: the limbs can be read.
-/
import Derived.Test.YtabpgkkickdopaaMt
namespace Go.Proofs.Ytabpgkkickdopaa
set_option linter.unusedVariables false
open Go Go.RowKit
/-- A slice that is cut at its beginning. -/
theorem Ints.take {w : World} {B : Nat} {a : Option Addr} {xs : List Int} (h : Ints w B a xs) (n : Nat) : Ints w B a (xs.take n) := fun i hi => by
  have hi' : i < xs.length := by rw [List.length_take] at hi; omega
  obtain ⟨c, o, ha, hc, hcell⟩ := h i hi'
  exact ⟨c, o, ha, hc, by rw [List.getElem_take]; exact hcell⟩

/-- The call returned the whole number with sign and size in new memory. -/
def RetN (s : Int) (n : Nat) (w : World) (e : Ending) (w' : World) : Prop := ∃ a c, e = .returned (.agg #[.int .i64 s, .slice a (lim n).length c]) ∧ (lim n).length ≤ c ∧ Own w' w.heap.size a (lim n) ∧ Below w.heap.size w w'

/-- Small limbs of value v in new memory. -/
structure VL (w : World) (lo : Nat) (L : List Nat) (v : Nat) (a : Option Addr) (c : Nat) : Prop where
  small : Small L
  value : val L = v
  fit : L.length ≤ c
  cap : c ≤ 9223372036854775807
  len : L.length ≤ 4194304
  own : Own w lo a (ofN L)
theorem VL.mono {w : World} {lo lo' : Nat} {L : List Nat} {v : Nat} {a : Option Addr} {c : Nat} (h : VL w lo L v a c) (hl : lo' ≤ lo) : VL w lo' L v a c := ⟨h.small, h.value, h.fit, h.cap, h.len, h.own.mono hl⟩
theorem VL.below {w w' : World} {lo : Nat} {L : List Nat} {v : Nat} {a : Option Addr} {c : Nat} (h : VL w lo L v a c) (hb : Below w.heap.size w w') : VL w' lo L v a c := ⟨h.small, h.value, h.fit, h.cap, h.len, h.own.below hb⟩
/-- The call returned small limbs of value v in new memory. -/
def RetV (v : Nat) (w : World) (e : Ending) (w' : World) : Prop := ∃ (L : List Nat) (a : Option Addr) (c : Nat), e = .returned (.slice a L.length c) ∧ VL w' w.heap.size L v a c ∧ Below w.heap.size w w'

/-- One number is appended to numbers of the call's own. -/
theorem wp_app1 {ops : Array Oper} {rest : List Oper} {o : Oper} {a : Act} {Q : Exit → Act → World → Prop} {w : World} (hgd : o.guard = none) (s x : Operand) (t : TypeId)
    (ho : o.op = .call { callee := .builtin .append, args := #[s, x], argTypes := #[t, t] }) (ht : Try.prog.underlying t = some (.slice 2))
    (V : World) (z : Int) (hW : w = V.alloc (.cells #[.int .i64 z] 2)) (lo : Nat) (v : Value) (xs : List Int) (hown : OwnV V lo v xs) (hs : a.eval s = v)
    (hx : a.eval x = .slice (some ⟨V.heap.size, 0, none⟩) 1 1) (hlen : xs.length ≤ 8388607) (hbase : lo ≤ V.heap.size)
    (h : ∀ v' w', OwnV w' lo v' (xs ++ [z]) → (∀ B, B ≤ V.heap.size → B ≤ lo → Below B V w') → V.heap.size ≤ w'.heap.size → wpList Try.prog ops Q rest (a.put o.dst v') w') : wpList Try.prog ops Q (o :: rest) a w := by
  subst hW
  refine wp_app hgd s x t ho ht lo v xs (hown.alloc _) hs ⟨V.heap.size, 0, none⟩ 1 1 [z] hx rfl ?_ (by simp; omega) (by simp; omega) ?_
  · intro i hi
    simp at hi
    subst hi
    simp [Addr.add]
  · intro v' w' h1 h2
    refine h v' w' h1 (fun B hB hl => ((Below.refl B V).alloc hB _).grown h2 (by simp; omega) (fun g hg => Nat.le_trans hl (hown.lt g hg))) ?_
    have := h2.size
    simp at this
    omega

structure PlusInv (xs ys L : List Nat) (c k : Nat) : Prop where
  len : L.length = k
  small : Small L
  hi : c ≤ 1
  sum : val L + 16777216 ^ k * c = val (xs.take k) + val (ys.take k)
theorem small_snoc {L : List Nat} (h : Small L) {x : Nat} (hx : x < 16777216) : Small (L ++ [x]) := small_append h (small_cons hx small_nil)
theorem val_snoc (L : List Nat) (x : Nat) : val (L ++ [x]) = val L + 16777216 ^ L.length * x := by rw [val_append]; simp [val]
theorem plusInv_step {xs ys L : List Nat} {c k : Nat} (h : PlusInv xs ys L c k) (hx : Small xs) (hy : Small ys) :
    PlusInv xs ys (L ++ [(c + xs.getD k 0 + ys.getD k 0) % 16777216]) ((c + xs.getD k 0 + ys.getD k 0) / 16777216) (k + 1) := by
  have h1 := getD_lt hx k
  have h2 := getD_lt hy k
  have hc := h.hi
  have hs := h.sum
  refine ⟨by simp [h.len], small_snoc h.small (by omega), by omega, ?_⟩
  rw [val_snoc, h.len, val_take_getD, val_take_getD]
  have h3 : (c + xs.getD k 0 + ys.getD k 0) % 16777216 + 16777216 * ((c + xs.getD k 0 + ys.getD k 0) / 16777216) = c + xs.getD k 0 + ys.getD k 0 := by omega
  generalize (c + xs.getD k 0 + ys.getD k 0) % 16777216 = r at *
  generalize (c + xs.getD k 0 + ys.getD k 0) / 16777216 = q at *
  rw [Nat.pow_succ]
  generalize xs.getD k 0 = x at *
  generalize ys.getD k 0 = y at *
  grind
theorem plusInv_end {xs ys L : List Nat} {c k : Nat} (h : PlusInv xs ys L c k) (hx : Small xs) (hy : Small ys) (h1 : xs.length < k) (h2 : ys.length < k) : c = 0 := by
  have hs := h.sum
  rw [List.take_of_length_le (by omega), List.take_of_length_le (by omega)] at hs
  rcases Nat.eq_zero_or_pos c with h0 | h0
  · exact h0
  · have a1 := val_lt hx
    have a2 := val_lt hy
    have b1 : 16777216 ^ xs.length ≤ 16777216 ^ (k - 1) := Nat.pow_le_pow_right (by omega) (by omega)
    have b2 : 16777216 ^ ys.length ≤ 16777216 ^ (k - 1) := Nat.pow_le_pow_right (by omega) (by omega)
    have b3 : 16777216 ^ k = 16777216 ^ (k - 1) * 16777216 := by rw [← Nat.pow_succ]; congr 1; omega
    have b4 : 16777216 ^ k * 1 ≤ 16777216 ^ k * c := Nat.mul_le_mul_left _ h0
    omega

structure MinusInv (xs ys L : List Nat) (c k : Nat) : Prop where
  len : L.length = k
  small : Small L
  hi : c ≤ 1
  sum : val L + val (ys.take k) = val (xs.take k) + 16777216 ^ k * c
theorem minusInv_step {xs ys L : List Nat} {c k r q : Nat} (h : MinusInv xs ys L c k) (hr : r < 16777216) (hq : q ≤ 1) (e : r + c + ys.getD k 0 = xs.getD k 0 + 16777216 * q) : MinusInv xs ys (L ++ [r]) q (k + 1) := by
  have hs := h.sum
  refine ⟨by simp [h.len], small_snoc h.small hr, hq, ?_⟩
  rw [val_snoc, h.len, val_take_getD, val_take_getD, Nat.pow_succ]
  generalize xs.getD k 0 = x at *
  generalize ys.getD k 0 = y at *
  have e2 : 16777216 ^ k * (r + c + y) = 16777216 ^ k * (x + 16777216 * q) := by rw [e]
  rw [Nat.mul_add, Nat.mul_add, Nat.mul_add] at e2
  have e3 : 16777216 ^ k * (16777216 * q) = 16777216 ^ k * 16777216 * q := by rw [Nat.mul_assoc]
  omega
theorem minusInv_done {xs ys L : List Nat} {c : Nat} (h : MinusInv xs ys L c xs.length) (hle : ys.length ≤ xs.length) (hv : val ys ≤ val xs) : val L = val xs - val ys := by
  have hs := h.sum
  rw [List.take_length, List.take_of_length_le hle] at hs
  have h1 := val_lt h.small
  rw [h.len] at h1
  rcases Nat.eq_zero_or_pos c with h0 | h0
  · subst h0; omega
  · have := h.hi
    obtain rfl : c = 1 := by omega
    omega

end Go.Proofs.Ytabpgkkickdopaa
