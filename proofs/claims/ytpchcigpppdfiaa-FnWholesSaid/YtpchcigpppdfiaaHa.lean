/-
  Contracts: whole5, likeInts, big of the laws. Conditions: the limbs can be read.
-/
import Derived.Test.YtpchcigpppdfiaaMh
import Derived.Test.YtpchcigpppdfiaaSn
namespace Go.Proofs.Ytpchcigpppdfiaa
set_option linter.unusedVariables false
open Go Go.RowKit

set_option maxHeartbeats 800000 in
theorem likeSame (a b : Option Addr) (xs : List Int) (c1 c2 : Nat) (w : World) (B C : Nat) (hx : Ints w B a xs) (hy : Ints w C b xs) (hl : xs.length ≤ 9223372036854775807) :
    Calls Try.prog 73 #[.slice a xs.length c1, .slice b xs.length c2] w (RetQ (.bool true) w) := by
  have HX := Lib.hid hx
  have HY := Lib.hid hy
  clear hx hy
  have hz : ((xs.length : Int) != (xs.length : Int)) = false := by simp
  go_enter Try.func73, Try.ntmps73
  go_wp2
  clear hz
  go_loopw [5] (fun i wr => ∃ k n : Nat, k ≤ xs.length ∧ i = .int .i64 k ∧ wr = w.drewN n) (fun i _ => xs.length - (intOf i).toNat)
  case atStart => exact ⟨0, 0, Nat.zero_le _, rfl, rfl⟩
  case round =>
    obtain ⟨k, n, hk, rfl, rfl⟩ := hrel
    by_cases hkn : k < xs.length
    · obtain ⟨c, o, ha, _, hcell⟩ := HX.out k hkn
      obtain ⟨c', o', ha', _, hcell'⟩ := HY.out k hkn
      subst ha ha'
      obtain ⟨x, hxk⟩ : ∃ x, x = xs[k] := ⟨_, rfl⟩
      rw [← hxk] at hcell hcell'
      clear hxk
      have hkI : (k : Int) < (xs.length : Int) := by omega
      have hz : (x != x) = false := by simp
      go_wp2
      go_quiet (fail)
      go_wp2
      go_roundw
      case rel => exact ⟨k + 1, _, by omega, by go_num, rfl⟩
      case measure => simp [intOf]; omega
    · obtain rfl : k = xs.length := by omega
      go_wp2
      go_ret
      exact ⟨_, rfl, rfl⟩
set_option maxHeartbeats 800000 in
theorem whole5_same (s : Int) (a b : Option Addr) (xs : List Int) (c1 c2 : Nat) (w : World) (B C : Nat) (hB : B ≤ w.heap.size) (hC : C ≤ w.heap.size) (hx : Ints w B a xs) (hy : Ints w C b xs) (hl : xs.length ≤ 9223372036854775807) :
    Calls Try.prog 29 #[.agg #[.int .i64 s, .slice a xs.length c1], .agg #[.int .i64 s, .slice b xs.length c2]] w (RetB (.bool true) w) := by
  have H := Lib.hid fun o1 o2 => likeSame a b xs c1 c2 ((w.alloc o1).alloc o2) B C ((hx.alloc hB o1).alloc (by simp; omega) o2) ((hy.alloc hC o1).alloc (by simp; omega) o2) hl
  clear hx hy
  have hz : (s == s) = true := by simp
  go_enter Try.func29, Try.ntmps29
  go_wp2_with (go_at_call 73; refine (H.out _ _).mono ?_; rintro e w' ⟨n, rfl, rfl⟩)
  go_ret
  exact ⟨rfl, below_drewN (((Below.refl _ w).alloc (Nat.le_refl _) _).alloc (by simp) _) _⟩
set_option maxHeartbeats 400000 in
theorem bigNo (a : Option Addr) (len cap : Nat) (h : (len : Int) ≤ 4096) (w : World) : Calls Try.prog 5 #[.slice a len cap] w fun e w' => e = .returned (.bool false) ∧ w = w' := by
  have hd : decide ((4096 : Int) < (len : Int)) = false := decide_eq_false (by omega)
  go_enter Try.func5, Try.ntmps5
  go_wp2
  go_ret
  exact ⟨rfl, rfl⟩
set_option maxHeartbeats 400000 in
theorem bigYes (a : Option Addr) (len cap : Nat) (h : 4096 < (len : Int)) (w : World) : Calls Try.prog 5 #[.slice a len cap] w fun e w' => e = .returned (.bool true) ∧ w = w' := by
  go_enter Try.func5, Try.ntmps5
  go_wp2
  go_ret
  exact ⟨rfl, rfl⟩
end Go.Proofs.Ytpchcigpppdfiaa
