/-
  Contracts: magnitudes divided by a part. Conditions: the limbs can be read.
-/
import Derived.Test.YtnnbfoemmgddeaaDoorUj
namespace Go.Proofs.YtnnbfoemmgddeaaDoor
set_option linter.unusedVariables false
open Go Go.RowKit

theorem i64_or_nat (a b : Nat) (ha : a < 9223372036854775808) (hb : b < 9223372036854775808) : bits .or .i64 (a : Int) (b : Int) = ((a ||| b : Nat) : Int) := by
  have hx : a ||| b < 2 ^ 63 := Nat.or_lt_two_pow (by omega) (by omega)
  show IntKind.i64.wrap ((BitVec.ofInt 64 (a : Int) ||| BitVec.ofInt 64 (b : Int)).toNat : Int) = _
  rw [BitVec.toNat_or, ofInt_u64 a (by omega), ofInt_u64 b (by omega), IntKind.wrap_i64]
  omega
theorem i64_or_add (x r : Nat) (hx : x < 16777216) (hr : r < 274877906944) : bits .or .i64 ((r : Int) * 16777216) (x : Int) = ((r * 16777216 + x : Nat) : Int) := by
  have h := i64_or_nat (r * 16777216) x (by omega) (by omega)
  have e : ((r * 16777216 : Nat) : Int) = (r : Int) * 16777216 := by omega
  rw [e] at h
  rw [h]
  have := Nat.shiftLeft_add_eq_or_of_lt (show x < 2 ^ 24 from hx) r
  rw [Nat.shiftLeft_eq] at this
  rw [this]

structure PartInv (L : List Nat) (p : Nat) (Q : List Nat) (k r : Nat) : Prop where
  len : Q.length = L.length
  small : Small Q
  rest : r < p
  eq : val (L.drop k) = p * val (Q.drop k) + r
theorem partInv_start (L : List Nat) {p : Nat} (hp : 0 < p) : PartInv L p (List.replicate L.length 0) L.length 0 :=
  ⟨by simp, fun i hi => by simp, hp, by simp [val]⟩
theorem partInv_step {L Q : List Nat} {p k r : Nat} (h : PartInv L p Q (k + 1) r) (hk : k < L.length) (hL : Small L) :
    PartInv L p (Q.set k ((r * 16777216 + L[k]) / p)) k ((r * 16777216 + L[k]) % p) ∧ (r * 16777216 + L[k]) / p < 16777216 := by
  have hx := hL k hk
  have hr := h.rest
  have hp : 0 < p := by omega
  have hq : (r * 16777216 + L[k]) / p < 16777216 := by
    rw [Nat.div_lt_iff_lt_mul hp]
    have h1 : (r + 1) * 16777216 ≤ p * 16777216 := Nat.mul_le_mul_right _ hr
    rw [Nat.mul_comm 16777216 p]
    omega
  have hkQ : k < Q.length := by rw [h.len]; exact hk
  refine ⟨⟨by simp [h.len], fun i hi => ?_, Nat.mod_lt _ hp, ?_⟩, hq⟩
  · rw [List.getElem_set]
    split
    · exact hq
    · exact h.small i (by simpa using hi)
  · rw [val_drop L k hk, val_drop (Q.set k _) k (by simpa using hkQ), List.getElem_set_self, List.drop_set_of_lt (by omega), h.eq]
    have h1 := Nat.div_add_mod (r * 16777216 + L[k]) p
    generalize (r * 16777216 + L[k]) / p = q at *
    generalize (r * 16777216 + L[k]) % p = t at *
    generalize val (Q.drop (k + 1)) = v at *
    grind
theorem partInv_end {L Q : List Nat} {p r : Nat} (h : PartInv L p Q 0 r) : val Q = val L / p ∧ r = val L % p := by
  have h1 := h.eq
  rw [List.drop_zero, List.drop_zero] at h1
  have hr := h.rest
  rw [h1]
  constructor
  · rw [Nat.mul_add_div (by omega), Nat.div_eq_of_lt hr]; omega
  · rw [Nat.mul_add_mod, Nat.mod_eq_of_lt hr]

end Go.Proofs.YtnnbfoemmgddeaaDoor
