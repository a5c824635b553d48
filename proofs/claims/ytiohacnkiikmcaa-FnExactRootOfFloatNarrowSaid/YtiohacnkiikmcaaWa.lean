/-
  Leaf contracts: finite tests. No conditions.
-/
import Derived.Test.YtiohacnkiikmcaaChecked
import Derived.Test.YtiohacnkiikmcaaFl
import Derived.WalkKit
import Derived.WalkSpells
import Derived.WalkLawsBesides
import Derived.Deep.QuietTactic
import Derived.BigQuiet
import Derived.Lib.Hide
namespace Go.Proofs.Ytiohacnkiikmcaa
set_option linter.unusedVariables false
open Go

set_option maxHeartbeats 400000 in
theorem isNaN_any (x : Nat) (w : World) :
    Calls Try.prog 103 #[.float .f64 x] w fun e w' => e = .returned (.bool (FloatKind.f64.format.order x x != some .eq)) ∧ w = w' := by
  go_enter Try.func103, Try.ntmps103
  go_wp2
  all_goals (go_ret; exact ⟨rfl, rfl⟩)

theorem call_bits (x : Nat) (w : World) : (callFunc 126 #[.float .f64 x]).run Try.prog w = .ok (.value (.int .u64 x)) w := by kernel_rfl
theorem call_frombits (x : Int) (w : World) : (callFunc 125 #[.int .u64 x]).run Try.prog w = .ok (.value (.float .f64 x.toNat)) w := by kernel_rfl

set_option maxHeartbeats 400000 in
theorem abs_any (x : Nat) (w : World) :
    Calls Try.prog 116 #[.float .f64 x] w fun e w' => e = .returned (.float .f64 (x % 2 ^ 63)) ∧ w = w' := by
  have hb1 := call_bits
  have hb2 := call_frombits
  go_enter Try.func116, Try.ntmps116
  go_wp2
  go_ret
  exact ⟨by rw [bits_abs]; rfl, rfl⟩

set_option maxHeartbeats 400000 in
theorem isInf_any (x : Nat) (w : World) :
    Calls Try.prog 102 #[.float .f64 x, .int .i64 0] w fun e w' => e = .returned (.bool (isI x)) ∧ w = w' := by
  go_enter Try.func102, Try.ntmps102
  go_wp2_with (go_at_call 116; refine (abs_any _ _).mono ?_; rintro e w' ⟨rfl, rfl⟩)
  go_ret
  exact ⟨rfl, rfl⟩

set_option maxHeartbeats 400000 in
theorem isM_any (x : Nat) (w : World) :
    Calls Try.prog 103 #[.float .f64 x] w fun e w' => e = .returned (.bool (isM x)) ∧ w = w' := isNaN_any x w

set_option maxHeartbeats 400000 in
theorem isFiniteFloat_any (x : Nat) (w : World) :
    Calls Try.prog 86 #[.float .f64 x] w fun e w' => e = .returned (.bool (isF .f64 x)) ∧ w = w' := by
  cases h : isF .f64 x
  · have ht := not_fin_tests h
    rcases hi : isI x with _ | _
    · have hm : isM x = true := by rcases ht with ht | ht <;> simp_all
      clear ht
      go_enter Try.func86, Try.ntmps86
      go_wp2_with (first | (go_at_call 102; refine (isInf_any _ _).mono ?_; rintro e w' ⟨rfl, rfl⟩) | (go_at_call 103; refine (isM_any _ _).mono ?_; rintro e w' ⟨rfl, rfl⟩))
      all_goals (go_ret; exact ⟨rfl, rfl⟩)
    · clear ht
      go_enter Try.func86, Try.ntmps86
      go_wp2_with (first | (go_at_call 102; refine (isInf_any _ _).mono ?_; rintro e w' ⟨rfl, rfl⟩) | (go_at_call 103; refine (isM_any _ _).mono ?_; rintro e w' ⟨rfl, rfl⟩))
      all_goals (go_ret; exact ⟨rfl, rfl⟩)
  · obtain ⟨hi, hm⟩ := fin_tests h
    go_enter Try.func86, Try.ntmps86
    go_wp2_with (first | (go_at_call 102; refine (isInf_any _ _).mono ?_; rintro e w' ⟨rfl, rfl⟩) | (go_at_call 103; refine (isM_any _ _).mono ?_; rintro e w' ⟨rfl, rfl⟩))
    all_goals (go_ret; exact ⟨rfl, rfl⟩)

set_option maxHeartbeats 400000 in
theorem iFinite_any (a b : Nat) (w : World) :
    Calls Try.prog 49 #[.complex .f64 a b] w fun e w' => e = .returned (.bool (isF .f64 a && isF .f64 b)) ∧ w = w' := by
  cases h : isF .f64 a
  · go_enter Try.func49, Try.ntmps49
    go_wp2_with (go_at_call 86; refine (isFiniteFloat_any _ _).mono ?_; rintro e w' ⟨rfl, rfl⟩)
    all_goals (go_ret; exact ⟨rfl, rfl⟩)
  · go_enter Try.func49, Try.ntmps49
    go_wp2_with (go_at_call 86; refine (isFiniteFloat_any _ _).mono ?_; rintro e w' ⟨rfl, rfl⟩)
    all_goals (go_ret; exact ⟨rfl, rfl⟩)

set_option maxHeartbeats 400000 in
theorem sReal_any (x : Nat) (w : World) :
    Calls Try.prog 84 #[.float .f64 x] w (Ret (.bool (isF .f64 x)) w) := by
  obtain ⟨⟨r, n⟩, h1, h2⟩ := arith_ex Try.prog w .sub 42 .f64 x x rfl
  have ht := real_test .f64 x
  rw [← order_congr h2 (NEq.refl _ _)] at ht
  go_enter Try.func84, Try.ntmps84
  go_wp2
  go_ret
  exact ⟨n, rfl, rfl⟩

set_option maxHeartbeats 400000 in
theorem sFinite_any (a b : Nat) (w : World) :
    Calls Try.prog 54 #[.complex .f64 a b] w (Ret (.bool (isF .f64 a && isF .f64 b)) w) := by
  cases h : isF .f64 a
  · go_enter Try.func54, Try.ntmps54
    go_wp2_with (go_at_call 84; refine (sReal_any _ _).mono ?_; rintro e w' ⟨_, rfl, rfl⟩)
    all_goals (go_ret; exact ⟨_, rfl, rfl⟩)
  · go_enter Try.func54, Try.ntmps54
    go_wp2_with (go_at_call 84; refine (sReal_any _ _).mono ?_; rintro e w' ⟨_, rfl, rfl⟩)
    all_goals (go_ret; exact ⟨_, rfl, rfl⟩)

end Go.Proofs.Ytiohacnkiikmcaa
