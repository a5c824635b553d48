/-
  Contract: a bit of a whole number, by the model. Conditions: the limbs can be read.
-/
import Derived.Test.YtebkpaonmeokgaaVa
import Derived.Test.YtebkpaonmeokgaaOc
import Derived.Test.YtebkpaonmeokgaaUl
namespace Go.Proofs.Ytebkpaonmeokgaa
set_option linter.unusedVariables false
open Go Go.RowKit

set_option maxRecDepth 100000 in
set_option maxHeartbeats 2000000 in
theorem sBit (s : Int) (a : Option Addr) (n c1 k : Nat) (w : World) (B : Nat) (hB : B ≤ w.heap.size) (hx : Ints w B a (lim n)) (hl : (lim n).length ≤ 1048576) (hk : k ≤ 1073741824) :
    Calls Try.prog 83 #[.agg #[.int .i64 s, .slice a (lim n).length c1], .int .i64 (k : Int)] w (RetB (.int .i64 ((n / 2 ^ k % 2 : Nat) : Int)) w) := by
  have hbit := bit_limb (small_dig n) k
  rw [val_dig] at hbit
  rw [hbit]
  have hd : Int.tdiv (k : Int) 24 = ((k / 24 : Nat) : Int) := by simp [Int.tdiv_eq_ediv_of_nonneg]
  have hm : Int.tmod (k : Int) 24 = ((k % 24 : Nat) : Int) := by simp [Int.tmod_eq_emod_of_nonneg]
  have HLL := Lib.hid (lim_length n)
  have hr := Nat.mod_lt k (show 0 < 24 by omega)
  obtain ⟨i, hi⟩ : ∃ i, i = k / 24 := ⟨_, rfl⟩
  obtain ⟨r, hr'⟩ : ∃ r, r = k % 24 := ⟨_, rfl⟩
  rw [← hi] at hd ⊢
  rw [← hr'] at hm hr ⊢
  have hib : (i : Int) ≤ 1073741824 := by omega
  have hkb : (k : Int) ≤ 1073741824 := by omega
  have hl2 : ((lim n).length : Int) ≤ 1048576 := by omega
  by_cases hin : i < (lim n).length
  · have hid : i < (dig n).length := by rw [← HLL.out]; exact hin
    obtain ⟨b, o, ha, hcB, hcell⟩ := hx i hin
    simp only [lim, ofN_at] at hcell
    subst ha
    rw [getD_of_lt hid]
    have hxb := small_dig n i hid
    obtain ⟨x, hxk⟩ : ∃ x : Nat, x = (dig n)[i] := ⟨_, rfl⟩
    rw [← hxk] at hcell hxb ⊢
    have hc1 : ∀ p, (w.alloc (.cells p 26)).cell? ⟨b, o + i, none⟩ = some (.int .i64 x) := fun p => by
      rw [World.cell?_alloc_lt w _ ⟨b, o + i, none⟩ (by show b < _; omega)]; exact hcell
    have hsh : (x : Int) / 2 ^ r = ((x / 2 ^ r : Nat) : Int) := by
      rw [show (2 : Int) ^ r = ((2 ^ r : Nat) : Int) by simp]
      generalize 2 ^ r = p
      exact (Int.natCast_ediv x p).symm
    have hy : x / 2 ^ r ≤ x := Nat.div_le_self _ _
    obtain ⟨y, hy'⟩ : ∃ y, y = x / 2 ^ r := ⟨_, rfl⟩
    rw [← hy'] at hsh hy ⊢
    have hyI : (y : Int) ≤ 16777215 := by omega
    have hand := i64_and1 y
    have hiI : (i : Int) < ((lim n).length : Int) := by omega
    have hrI : (r : Int) ≤ 23 := by omega
    clear hcell hxk hxb hy hy' hi hr' hr hbit hx hid hk hin
    go_enter Try.func83, Try.ntmps83
    go_wp2
    go_ret
    exact ⟨by first | rfl | (congr 2; omega), (Below.refl _ _).alloc (Nat.le_refl _) _⟩
  · rw [getD_of_ge (by rw [← HLL.out]; omega)]
    have h0 : (0 / 2 ^ r % 2 : Nat) = 0 := by simp
    rw [h0]
    have hge : ((lim n).length : Int) ≤ (i : Int) := by omega
    clear hx hi hr' hr hbit hk hin h0
    go_enter Try.func83, Try.ntmps83
    go_wp2
    go_ret
    exact ⟨rfl, (Below.refl _ _).alloc (Nat.le_refl _) _⟩
end Go.Proofs.Ytebkpaonmeokgaa
