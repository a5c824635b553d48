/-
  Leaf contracts: finite tests. No conditions.
-/
import Derived.Test.YtabpgkkickdopaaChecked
import Derived.Test.YtabpgkkickdopaaFl
import Derived.WalkKit
import Derived.WalkSpells
import Derived.WalkLawsBesides
import Derived.Deep.QuietTactic
import Derived.BigQuiet
import Derived.Lib.Hide
namespace Go.Proofs.Ytabpgkkickdopaa
set_option linter.unusedVariables false
open Go

set_option maxHeartbeats 400000 in
theorem isNaN_any (x : Nat) (w : World) :
    Calls Try.prog 101 #[.float .f64 x] w fun e w' => e = .returned (.bool (FloatKind.f64.format.order x x != some .eq)) ∧ w = w' := by
  go_enter Try.func101, Try.ntmps101
  go_wp2
  all_goals (go_ret; exact ⟨rfl, rfl⟩)

theorem call_bits (x : Nat) (w : World) : (callFunc 106 #[.float .f64 x]).run Try.prog w = .ok (.value (.int .u64 x)) w := by kernel_rfl
theorem call_frombits (x : Int) (w : World) : (callFunc 105 #[.int .u64 x]).run Try.prog w = .ok (.value (.float .f64 x.toNat)) w := by kernel_rfl

set_option maxHeartbeats 400000 in
theorem abs_any (x : Nat) (w : World) :
    Calls Try.prog 104 #[.float .f64 x] w fun e w' => e = .returned (.float .f64 (x % 2 ^ 63)) ∧ w = w' := by
  have hb1 := call_bits
  have hb2 := call_frombits
  go_enter Try.func104, Try.ntmps104
  go_wp2
  go_ret
  exact ⟨by rw [bits_abs]; rfl, rfl⟩

set_option maxHeartbeats 400000 in
theorem isInf_any (x : Nat) (w : World) :
    Calls Try.prog 100 #[.float .f64 x, .int .i64 0] w fun e w' => e = .returned (.bool (isI x)) ∧ w = w' := by
  go_enter Try.func100, Try.ntmps100
  go_wp2_with (go_at_call 104; refine (abs_any _ _).mono ?_; rintro e w' ⟨rfl, rfl⟩)
  go_ret
  exact ⟨rfl, rfl⟩

set_option maxHeartbeats 400000 in
theorem isM_any (x : Nat) (w : World) :
    Calls Try.prog 101 #[.float .f64 x] w fun e w' => e = .returned (.bool (isM x)) ∧ w = w' := isNaN_any x w

set_option maxHeartbeats 400000 in
theorem isFiniteFloat_any (x : Nat) (w : World) :
    Calls Try.prog 83 #[.float .f64 x] w fun e w' => e = .returned (.bool (isF .f64 x)) ∧ w = w' := by
  cases h : isF .f64 x
  · have ht := not_fin_tests h
    rcases hi : isI x with _ | _
    · have hm : isM x = true := by rcases ht with ht | ht <;> simp_all
      clear ht
      go_enter Try.func83, Try.ntmps83
      go_wp2_with (first | (go_at_call 100; refine (isInf_any _ _).mono ?_; rintro e w' ⟨rfl, rfl⟩) | (go_at_call 101; refine (isM_any _ _).mono ?_; rintro e w' ⟨rfl, rfl⟩))
      all_goals (go_ret; exact ⟨rfl, rfl⟩)
    · clear ht
      go_enter Try.func83, Try.ntmps83
      go_wp2_with (first | (go_at_call 100; refine (isInf_any _ _).mono ?_; rintro e w' ⟨rfl, rfl⟩) | (go_at_call 101; refine (isM_any _ _).mono ?_; rintro e w' ⟨rfl, rfl⟩))
      all_goals (go_ret; exact ⟨rfl, rfl⟩)
  · obtain ⟨hi, hm⟩ := fin_tests h
    go_enter Try.func83, Try.ntmps83
    go_wp2_with (first | (go_at_call 100; refine (isInf_any _ _).mono ?_; rintro e w' ⟨rfl, rfl⟩) | (go_at_call 101; refine (isM_any _ _).mono ?_; rintro e w' ⟨rfl, rfl⟩))
    all_goals (go_ret; exact ⟨rfl, rfl⟩)

set_option maxHeartbeats 400000 in
theorem iFinite_any (a b : Nat) (w : World) :
    Calls Try.prog 46 #[.complex .f64 a b] w fun e w' => e = .returned (.bool (isF .f64 a && isF .f64 b)) ∧ w = w' := by
  cases h : isF .f64 a
  · go_enter Try.func46, Try.ntmps46
    go_wp2_with (go_at_call 83; refine (isFiniteFloat_any _ _).mono ?_; rintro e w' ⟨rfl, rfl⟩)
    all_goals (go_ret; exact ⟨rfl, rfl⟩)
  · go_enter Try.func46, Try.ntmps46
    go_wp2_with (go_at_call 83; refine (isFiniteFloat_any _ _).mono ?_; rintro e w' ⟨rfl, rfl⟩)
    all_goals (go_ret; exact ⟨rfl, rfl⟩)

set_option maxHeartbeats 400000 in
theorem sReal_any (x : Nat) (w : World) :
    Calls Try.prog 85 #[.float .f64 x] w (Ret (.bool (isF .f64 x)) w) := by
  obtain ⟨⟨r, n⟩, h1, h2⟩ := arith_ex Try.prog w .sub 42 .f64 x x rfl
  have ht := real_test .f64 x
  rw [← order_congr h2 (NEq.refl _ _)] at ht
  go_enter Try.func85, Try.ntmps85
  go_wp2
  go_ret
  exact ⟨n, rfl, rfl⟩

set_option maxHeartbeats 400000 in
theorem sFinite_any (a b : Nat) (w : World) :
    Calls Try.prog 51 #[.complex .f64 a b] w (Ret (.bool (isF .f64 a && isF .f64 b)) w) := by
  cases h : isF .f64 a
  · go_enter Try.func51, Try.ntmps51
    go_wp2_with (go_at_call 85; refine (sReal_any _ _).mono ?_; rintro e w' ⟨_, rfl, rfl⟩)
    all_goals (go_ret; exact ⟨_, rfl, rfl⟩)
  · go_enter Try.func51, Try.ntmps51
    go_wp2_with (go_at_call 85; refine (sReal_any _ _).mono ?_; rintro e w' ⟨_, rfl, rfl⟩)
    all_goals (go_ret; exact ⟨_, rfl, rfl⟩)

end Go.Proofs.Ytabpgkkickdopaa
