/-
  Contracts: bits.TrailingZeros64, twos of magnitudes and of the model's whole numbers, bits. Conditions: the limbs can be read; the library's table is as its initialiser lays it. Contract: shifts of whole numbers. Conditions: the limbs can be read; the library's table is as its initialiser lays it. Contract: a bit of a whole number, by the model. Conditions: the limbs can be read. Contract: the twos of a whole number, by the model. Conditions: the limbs can be read, the number is not 0.
-/
import Derived.Test.YtabpgkkickdopaaVe
import Derived.Test.YtabpgkkickdopaaOd
import Derived.Test.YtabpgkkickdopaaUe
import Derived.Test.YtabpgkkickdopaaVl
namespace Go.Proofs.Ytabpgkkickdopaa
set_option linter.unusedVariables false
open Go Go.RowKit
theorem cell_lt {w : World} {p : Addr} {v : Value} (h : w.cell? p = some v) : p.block < w.heap.size := by
  unfold World.cell? at h
  split at h
  · rename_i e; exact (Array.getElem?_eq_some_iff.1 e).1
  · cases h
theorem tz_key (x a : Nat) (hx : x < 18446744073709551616) (hx0 : x ≠ 0) (hlow : x &&& (18446744073709551616 - x) = a) :
    IntKind.u64.wrap (bits BinOp.and IntKind.u64 (x : Int) (IntKind.u64.wrap (-(x : Int))) * 285870213051353865) / 288230376151711744 = ((a * 285870213051353865 % 18446744073709551616 / 288230376151711744 : Nat) : Int) := by
  have e1 : IntKind.u64.wrap (-(x : Int)) = ((18446744073709551616 - x : Nat) : Int) := by rw [IntKind.wrap_u64]; omega
  rw [e1, u64_and_nat x _ hx (by omega), hlow, IntKind.wrap_u64]
  omega
theorem ctz_lt {x : Nat} (hx0 : x ≠ 0) (hx : x < 18446744073709551616) : Lib.ctz 64 x < 64 := (Lib.lowest_bit 64 x hx0 hx).2
theorem zeros_val {L : List Nat} (h : ∀ (j : Nat) (h : j < L.length), L[j] = 0) : val L = 0 := by
  have e : L = List.replicate L.length 0 := by
    apply List.ext_getElem
    · simp
    · intro i h1 h2; rw [List.getElem_replicate]; exact h i h1
  rw [e, val_zeros]
theorem tw_first {n k : Nat} (hk : k < (dig n).length) (hz : ∀ (j : Nat) (h : j < (dig n).length), j < k → (dig n)[j] = 0) (hx : (dig n)[k] ≠ 0) : tw n = 24 * k + Lib.ctz 64 (dig n)[k] := by
  have h1 := val_split (dig n) k (by omega)
  have h2 := val_drop (dig n) k hk
  have h3 : val ((dig n).take k) = 0 := zeros_val fun j h => by
    rw [List.getElem_take]
    rw [List.length_take] at h
    exact hz j (by omega) (by omega)
  rw [h3, h2, val_dig, Nat.zero_add] at h1
  have := tw_limb (x := (dig n)[k]) (r := val ((dig n).drop (k + 1))) (i := k) hx (small_dig n k hk)
  rwa [← h1] at this

def shZ (z k : Int) : Int := if 0 ≤ k then z * 2 ^ k.toNat else z / 2 ^ (-k).toNat
theorem shZ_up (z : Int) (K : Nat) : shZ z (K : Int) = z * 2 ^ K := by
  unfold shZ
  rw [if_pos (by omega)]
  simp
theorem shZ_down (z : Int) (K : Nat) (h : 0 < K) : shZ z (-(K : Int)) = z / 2 ^ K := by
  unfold shZ
  rw [if_neg (by omega)]
  simp
theorem tw_lt_iff {m K : Nat} (h : m ≠ 0) : tw m < K ↔ m % 2 ^ K ≠ 0 := by
  obtain ⟨j, hj⟩ := tw_spec h
  constructor
  · intro hlt h0
    obtain ⟨d, hd⟩ : ∃ d, K = tw m + (d + 1) := ⟨K - tw m - 1, by omega⟩
    have h1 := Nat.div_add_mod m (2 ^ K)
    rw [h0, Nat.add_zero] at h1
    generalize m / 2 ^ K = c at *
    generalize tw m = t at *
    have h2 : 2 ^ t * (2 * j + 1) = 2 ^ t * (2 * (2 ^ d * c)) := by
      rw [← hj, ← h1, hd, Nat.pow_add, Nat.pow_succ', Nat.mul_assoc, Nat.mul_assoc]
    have h3 := Nat.eq_of_mul_eq_mul_left (Nat.pow_pos (by omega)) h2
    omega
  · intro hne
    apply Nat.lt_of_not_le
    intro hle
    apply hne
    obtain ⟨d, hd⟩ : ∃ d, tw m = K + d := ⟨tw m - K, by omega⟩
    rw [hj, hd, Nat.pow_add, Nat.mul_assoc]
    exact Nat.mul_mod_right _ _
theorem neg_ediv (m P : Nat) (hP : 0 < P) : (-(m : Int)) / (P : Int) = -((if m % P = 0 then m / P else m / P + 1 : Nat) : Int) := by
  have h1 := Nat.div_add_mod m P
  have h2 := Nat.mod_lt m hP
  generalize m / P = q at *
  generalize m % P = r at *
  have hPI : (P : Int) ≠ 0 := by omega
  split
  · rename_i h0
    have e : -(m : Int) = (P : Int) * -(q : Int) := by
      rw [← h1, h0, Int.mul_neg]; simp
    rw [e, Int.mul_ediv_cancel_left _ hPI]
  · rename_i h0
    have e : -(m : Int) = ((P - r : Nat) : Int) + (P : Int) * -((q + 1 : Nat) : Int) := by
      have e1 : (m : Int) = (P : Int) * (q : Int) + (r : Int) := by rw [← h1]; simp
      rw [e1]
      have e2 : ((P - r : Nat) : Int) = (P : Int) - (r : Int) := by omega
      rw [e2, Int.natCast_succ]
      grind
    rw [e, Int.add_mul_ediv_left _ _ hPI, Int.ediv_eq_zero_of_lt (by omega) (by omega), Int.zero_add]
theorem lim_one : lim 1 = [1] := by
  rw [lim, dig_pos (by decide)]
  have : dig (1 / 16777216) = [] := by rw [show 1 / 16777216 = 0 by decide, dig_zero]
  rw [this]
  rfl
theorem ints_one (w : World) (z : Int) (t : TypeId) : Ints (w.alloc (.cells #[.int .i64 z] t)) (w.alloc (.cells #[.int .i64 z] t)).heap.size (some ⟨w.heap.size, 0, none⟩) [z] := fun i hi => by
  have h0 : i = 0 := by simpa using hi
  subst h0
  refine ⟨w.heap.size, 0, rfl, by simp, ?_⟩
  simp
/-- The absolute value of a shift down. -/
def dnN (s : Int) (m K : Nat) : Nat := if s < 0 ∧ tw m < K then m / 2 ^ K + 1 else m / 2 ^ K
theorem dnN_eq {s : Int} {m K : Nat} (hs : Sg s m) : s * (dnN s m K : Int) = s * (m : Int) / 2 ^ K := by
  have hP : 0 < 2 ^ K := Nat.pow_pos (by omega)
  have hPI : (2 : Int) ^ K = ((2 ^ K : Nat) : Int) := by simp
  rw [hPI]
  unfold Sg at hs
  rcases hs with ⟨rfl, rfl⟩ | ⟨hm, rfl | rfl⟩
  · simp
  · unfold dnN
    rw [if_neg (by omega), Int.one_mul, Int.one_mul]
    exact Int.natCast_ediv m (2 ^ K)
  · rw [Int.neg_mul, Int.one_mul, Int.neg_mul, Int.one_mul, neg_ediv m _ hP]
    congr 2
    unfold dnN
    by_cases h : tw m < K
    · rw [if_pos ⟨by omega, h⟩, if_neg ((tw_lt_iff hm).1 h)]
    · rw [if_neg (fun hh => h hh.2), if_pos (by
        apply Decidable.byContradiction
        intro hc
        exact h ((tw_lt_iff hm).2 hc))]

end Go.Proofs.Ytabpgkkickdopaa
