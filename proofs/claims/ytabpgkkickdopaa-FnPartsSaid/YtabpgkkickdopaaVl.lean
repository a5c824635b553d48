/-
  Contracts: shifts of magnitudes. Conditions: the limbs can be read. Contract: shifts of magnitudes down. Conditions: the limbs can be read. Contract of the model: whole numbers without their last bits. Conditions: the limbs can be read. Contract of the model: products of whole numbers with powers of 2. Conditions: the limbs can be read.
-/
import Derived.Test.YtabpgkkickdopaaVe
import Derived.Test.YtabpgkkickdopaaOd
import Derived.Test.YtabpgkkickdopaaUe
import Derived.Test.YtabpgkkickdopaaTf
import Derived.Deep.AppendLies
import Derived.Deep.RegionHeldLaw
namespace Go.Proofs.Ytabpgkkickdopaa
set_option linter.unusedVariables false
open Go Go.RowKit

theorem i64_or_sh (c x r : Nat) (hc : c < 2 ^ r) (hb : c + x * 2 ^ r < 9223372036854775808) : bits .or .i64 (c : Int) ((x * 2 ^ r : Nat) : Int) = ((c + x * 2 ^ r : Nat) : Int) := by
  rw [i64_or_nat c (x * 2 ^ r) (by omega) (by omega)]
  have := Nat.shiftLeft_add_eq_or_of_lt hc x
  rw [Nat.shiftLeft_eq, Nat.or_comm] at this
  rw [← this, Nat.add_comm]

theorem up_bounds {c y t P : Nat} (h1 : c < P) (h2 : t < 16777216 * P) (h3 : P ≤ 8388608) (h4 : t = c + y) : c ≤ 9223372036854775807 ∧ y ≤ 9223372036854775807 ∧ t ≤ 9223372036854775807 := by omega
theorem wrap64_nat {z : Int} {y : Nat} (e : z = (y : Int)) (h : y ≤ 9223372036854775807) : wrap64 z = (y : Int) := by subst e; unfold wrap64; omega
theorem wrapI64_nat {z : Int} {y : Nat} (e : z = (y : Int)) (h : y ≤ 9223372036854775807) : IntKind.i64.wrap z = (y : Int) := by subst e; rw [IntKind.wrap_i64]; omega

theorem blen_le {n K : Nat} : blen n ≤ (K : Int) ↔ n < 2 ^ K := by
  by_cases h : n = 0
  · subst h
    have : 0 < 2 ^ K := Nat.pow_pos (by omega)
    simp [blen, this]
  have hp := dig_length_pos h
  obtain ⟨h1, h2⟩ := last_bounds h
  rw [blen_pos h]
  have hlast : (dig n).getD ((dig n).length - 1) 0 < 16777216 := getD_lt (small_dig n) _
  have hne : (dig n).getD ((dig n).length - 1) 0 ≠ 0 := by
    rw [getD_of_lt (by omega : (dig n).length - 1 < (dig n).length)]
    exact (norm_dig n).2 hp
  obtain ⟨b1, b2, b3⟩ := bit_bounds hlast hne
  generalize (dig n).getD ((dig n).length - 1) 0 = d at *
  obtain ⟨q, hq⟩ : ∃ q, q = Lib.bitLen d := ⟨_, rfl⟩
  rw [← hq] at b1 b2 b3 ⊢
  obtain ⟨l, hl⟩ : ∃ l, l = (dig n).length - 1 := ⟨_, rfl⟩
  rw [← hl] at h1 h2
  have e1 : (16777216 : Nat) ^ l = 2 ^ (24 * l) := by rw [Nat.pow_mul]
  rw [e1] at h1 h2
  have el : 24 * (((dig n).length : Int) - 1) + (q : Int) = ((24 * l + q : Nat) : Int) := by omega
  rw [el, Int.ofNat_le]
  constructor
  · intro hle
    have h3 : 2 ^ (24 * l) * (d + 1) ≤ 2 ^ (24 * l) * 2 ^ q := Nat.mul_le_mul_left _ b3
    rw [← Nat.pow_add] at h3
    have h4 : 2 ^ (24 * l + q) ≤ 2 ^ K := Nat.pow_le_pow_right (by omega) hle
    exact Nat.lt_of_lt_of_le h2 (Nat.le_trans h3 h4)
  · intro hlt
    apply Nat.le_of_not_lt
    intro hgt
    have h3 : 2 ^ (24 * l) * 2 ^ (q - 1) ≤ 2 ^ (24 * l) * d := Nat.mul_le_mul_left _ b2
    rw [← Nat.pow_add] at h3
    have h4 : 2 ^ K ≤ 2 ^ (24 * l + (q - 1)) := Nat.pow_le_pow_right (by omega) (by omega)
    exact absurd (Nat.lt_of_lt_of_le hlt (Nat.le_trans h4 (Nat.le_trans h3 h1))) (Nat.lt_irrefl _)
theorem cut_or (x y r : Nat) (hx : x < 16777216) (hy : y < 16777216) : bits .or .i64 (x : Int) ((y : Int) * 16777216) = ((x + 16777216 * y : Nat) : Int) := by
  have h := i64_or_sh x y 24 (by omega) (by omega)
  have e : ((y * 2 ^ 24 : Nat) : Int) = (y : Int) * 16777216 := by omega
  rw [e] at h
  rw [h]
  congr 1
  omega
theorem cut_div (t r : Nat) : (t : Int) / 2 ^ r = ((t / 2 ^ r : Nat) : Int) := by
  rw [show (2 : Int) ^ r = ((2 ^ r : Nat) : Int) by simp]
  generalize 2 ^ r = p
  exact (Int.natCast_ediv t p).symm

theorem cut_parts {x y r s : Nat} (h : r + s = 24) : x / 2 ^ r + y * 2 ^ s = (x + 16777216 * y) / 2 ^ r := by
  have e : (16777216 : Nat) = 2 ^ r * 2 ^ s := by rw [← Nat.pow_add, h]
  have e2 : x + 16777216 * y = x + 2 ^ r * (2 ^ s * y) := by
    conv => lhs; rw [e]
    rw [Nat.mul_assoc]
  rw [e2, Nat.add_mul_div_left _ _ (Nat.pow_pos (by omega)), Nat.mul_comm (2 ^ s)]
theorem cut_bounds {x y r s : Nat} (hx : x < 16777216) (hy : y < 16777216) (h : r + s = 24) : x / 2 ^ r ≤ 16777215 ∧ y * 2 ^ s ≤ 281474976710656 := by
  have h1 := Nat.div_le_self x (2 ^ r)
  have h2 : 2 ^ s ≤ 16777216 := Nat.le_trans (Nat.pow_le_pow_right (by omega) (show s ≤ 24 by omega)) (by decide)
  have h3 : y * 2 ^ s ≤ 16777215 * 16777216 := Nat.mul_le_mul (by omega) h2
  omega
theorem cut_total {n q r K0 : Nat} (hq : q = K0 / 24) (hr : r = K0 % 24) : val (cutL r ((dig n).drop q)) = n / 2 ^ K0 := by
  subst hq hr
  by_cases h : K0 / 24 ≤ (dig n).length
  · have := cut_val (small_dig n) h
    rwa [val_dig] at this
  · have := cut_big (small_dig n) (k := K0) (by omega)
    rw [val_dig] at this
    rw [this, List.drop_of_length_le (by omega)]
    rfl

theorem tdiv_add (u v : Nat) : Int.tdiv ((u : Int) + (v : Int)) 16777216 = (((u + v) / 16777216 : Nat) : Int) := by
  rw [Int.tdiv_eq_ediv_of_nonneg (by omega)]
  rfl
theorem left_bounds {c y P : Nat} (h1 : c < P) (h2 : c + y < 16777216 * P) (h3 : P ≤ 8388608) : c ≤ 2305843009213693952 ∧ y ≤ 2305843009213693952 := by omega
theorem tmod_add (u v : Nat) : Int.tmod ((u : Int) + (v : Int)) 16777216 = (((u + v) % 16777216 : Nat) : Int) := by
  rw [Int.tmod_eq_emod_of_nonneg (by omega)]
  rfl

theorem OwnV.zeros (w : World) (lo n : Nat) (hb : lo ≤ w.heap.size) (hn : n ≤ 1073741824) : OwnV (w.alloc (.cells (madeCells #[.int .i64 0] n) 2)) lo (.slice (some ⟨w.heap.size, 0, none⟩) n n) (List.replicate n 0) := by
  unfold OwnV
  rw [List.length_replicate]
  refine ⟨by simp, .inr ⟨w.heap.size, n, _, rfl, hb, heap_alloc_new w _, Nat.le_refl _, by unfold maxLen; omega, by simp [size_madeCells], ?_⟩⟩
  apply List.ext_getElem
  · simp [size_madeCells]
  · intro i h1 h2
    simp [madeCells, Nat.mod_one]

/-- One number is appended, at a step of a region that draws. -/
theorem step_app1 {ops : Array Oper} {o : Oper} {a : Act} {K : Act → World → Prop} {Q : Exit → Act → World → Prop} {E : Prop} {w : World} (hgd : o.guard = none) (s x : Operand) (t : TypeId)
    (ho : o.op = .call { callee := .builtin .append, args := #[s, x], argTypes := #[t, t] }) (ht : Try.prog.underlying t = some (.slice 2))
    (V : World) (z : Int) (hW : w = V.alloc (.cells #[.int .i64 z] 2)) (lo : Nat) (v : Value) (xs : List Int) (hown : OwnV V lo v xs) (hs : a.eval s = v)
    (hx : a.eval x = .slice (some ⟨V.heap.size, 0, none⟩) 1 1) (hlen : xs.length ≤ 8388607) (hbase : lo ≤ V.heap.size)
    (h : ∀ v' w', OwnV w' lo v' (xs ++ [z]) → (∀ B, B ≤ V.heap.size → B ≤ lo → Below B V w') → V.heap.size ≤ w'.heap.size → K (a.put o.dst v') w') :
    if Region.wanted o (yielded ops a.tmps) = true then Oper.wp Try.prog o a w K Q else E := by
  subst hW
  obtain ⟨i0, hi, hz0, hz1, hz2⟩ := info_parts info_i64
  refine step_append_lies _ hgd s x t ho lo 2 i0 (.int .i64 0) 1 8 ht hi hz0 hz1 hz2 rfl (by decide) v xs.length (xs.map (Value.int .i64)) hs (hown.alloc _) ⟨V.heap.size, 0, none⟩ 1 1 [.int .i64 z] hx rfl ?_ (by intro u hu; simp at hu; subst hu; rfl) (by omega) (by unfold maxLen; omega) (by omega) (by simp; omega) _ rfl ?_
  · intro j u hj
    match j with
    | 0 =>
      simp at hj
      subst hj
      simp [Addr.add]
    | j + 1 => simp at hj
  · intro g cap w' h1 h2 _ _
    refine h _ w' ?_ (fun B hB hl => ((Below.refl B V).alloc hB _).grown h2 (by simp; omega) (fun g hg => Nat.le_trans hl (hown.lt g hg))) ?_
    · unfold OwnV
      rw [List.length_append, List.map_append]
      exact h1
    · have := h2.size
      simp at this
      omega

end Go.Proofs.Ytabpgkkickdopaa
