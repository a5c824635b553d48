/-
  Leaf contracts: finite tests. No conditions.
-/
import Derived.Test.YtpchcigpppdfiaaChecked
import Derived.Test.YtpchcigpppdfiaaFl
import Derived.WalkKit
import Derived.WalkSpells
import Derived.WalkLawsBesides
import Derived.Deep.QuietTactic
import Derived.BigQuiet
import Derived.Lib.Hide
namespace Go.Proofs.Ytpchcigpppdfiaa
set_option linter.unusedVariables false
open Go

set_option maxHeartbeats 400000 in
theorem isNaN_any (x : Nat) (w : World) :
    Calls Try.prog 92 #[.float .f64 x] w fun e w' => e = .returned (.bool (FloatKind.f64.format.order x x != some .eq)) ∧ w = w' := by
  go_enter Try.func92, Try.ntmps92
  go_wp2
  all_goals (go_ret; exact ⟨rfl, rfl⟩)

theorem call_bits (x : Nat) (w : World) : (callFunc 96 #[.float .f64 x]).run Try.prog w = .ok (.value (.int .u64 x)) w := by kernel_rfl
theorem call_frombits (x : Int) (w : World) : (callFunc 95 #[.int .u64 x]).run Try.prog w = .ok (.value (.float .f64 x.toNat)) w := by kernel_rfl

set_option maxHeartbeats 400000 in
theorem abs_any (x : Nat) (w : World) :
    Calls Try.prog 52 #[.float .f64 x] w fun e w' => e = .returned (.float .f64 (x % 2 ^ 63)) ∧ w = w' := by
  have hb1 := call_bits
  have hb2 := call_frombits
  go_enter Try.func52, Try.ntmps52
  go_wp2
  go_ret
  exact ⟨by rw [bits_abs]; rfl, rfl⟩

set_option maxHeartbeats 400000 in
theorem isInf_any (x : Nat) (w : World) :
    Calls Try.prog 91 #[.float .f64 x, .int .i64 0] w fun e w' => e = .returned (.bool (isI x)) ∧ w = w' := by
  go_enter Try.func91, Try.ntmps91
  go_wp2_with (go_at_call 52; refine (abs_any _ _).mono ?_; rintro e w' ⟨rfl, rfl⟩)
  go_ret
  exact ⟨rfl, rfl⟩

set_option maxHeartbeats 400000 in
theorem isM_any (x : Nat) (w : World) :
    Calls Try.prog 92 #[.float .f64 x] w fun e w' => e = .returned (.bool (isM x)) ∧ w = w' := isNaN_any x w

set_option maxHeartbeats 400000 in
theorem isFiniteFloat_any (x : Nat) (w : World) :
    Calls Try.prog 48 #[.float .f64 x] w fun e w' => e = .returned (.bool (isF .f64 x)) ∧ w = w' := by
  cases h : isF .f64 x
  · have ht := not_fin_tests h
    rcases hi : isI x with _ | _
    · have hm : isM x = true := by rcases ht with ht | ht <;> simp_all
      clear ht
      go_enter Try.func48, Try.ntmps48
      go_wp2_with (first | (go_at_call 91; refine (isInf_any _ _).mono ?_; rintro e w' ⟨rfl, rfl⟩) | (go_at_call 92; refine (isM_any _ _).mono ?_; rintro e w' ⟨rfl, rfl⟩))
      all_goals (go_ret; exact ⟨rfl, rfl⟩)
    · clear ht
      go_enter Try.func48, Try.ntmps48
      go_wp2_with (first | (go_at_call 91; refine (isInf_any _ _).mono ?_; rintro e w' ⟨rfl, rfl⟩) | (go_at_call 92; refine (isM_any _ _).mono ?_; rintro e w' ⟨rfl, rfl⟩))
      all_goals (go_ret; exact ⟨rfl, rfl⟩)
  · obtain ⟨hi, hm⟩ := fin_tests h
    go_enter Try.func48, Try.ntmps48
    go_wp2_with (first | (go_at_call 91; refine (isInf_any _ _).mono ?_; rintro e w' ⟨rfl, rfl⟩) | (go_at_call 92; refine (isM_any _ _).mono ?_; rintro e w' ⟨rfl, rfl⟩))
    all_goals (go_ret; exact ⟨rfl, rfl⟩)

set_option maxHeartbeats 400000 in
theorem iFinite_any (a b : Nat) (w : World) :
    Calls Try.prog 46 #[.complex .f64 a b] w fun e w' => e = .returned (.bool (isF .f64 a && isF .f64 b)) ∧ w = w' := by
  cases h : isF .f64 a
  · go_enter Try.func46, Try.ntmps46
    go_wp2_with (go_at_call 48; refine (isFiniteFloat_any _ _).mono ?_; rintro e w' ⟨rfl, rfl⟩)
    all_goals (go_ret; exact ⟨rfl, rfl⟩)
  · go_enter Try.func46, Try.ntmps46
    go_wp2_with (go_at_call 48; refine (isFiniteFloat_any _ _).mono ?_; rintro e w' ⟨rfl, rfl⟩)
    all_goals (go_ret; exact ⟨rfl, rfl⟩)

set_option maxHeartbeats 400000 in
theorem sReal_any (x : Nat) (w : World) :
    Calls Try.prog 93 #[.float .f64 x] w (Ret (.bool (isF .f64 x)) w) := by
  obtain ⟨⟨r, n⟩, h1, h2⟩ := arith_ex Try.prog w .sub 26 .f64 x x rfl
  have ht := real_test .f64 x
  rw [← order_congr h2 (NEq.refl _ _)] at ht
  go_enter Try.func93, Try.ntmps93
  go_wp2
  go_ret
  exact ⟨n, rfl, rfl⟩

set_option maxHeartbeats 400000 in
theorem sFinite_any (a b : Nat) (w : World) :
    Calls Try.prog 49 #[.complex .f64 a b] w (Ret (.bool (isF .f64 a && isF .f64 b)) w) := by
  cases h : isF .f64 a
  · go_enter Try.func49, Try.ntmps49
    go_wp2_with (go_at_call 93; refine (sReal_any _ _).mono ?_; rintro e w' ⟨_, rfl, rfl⟩)
    all_goals (go_ret; exact ⟨_, rfl, rfl⟩)
  · go_enter Try.func49, Try.ntmps49
    go_wp2_with (go_at_call 93; refine (sReal_any _ _).mono ?_; rintro e w' ⟨_, rfl, rfl⟩)
    all_goals (go_ret; exact ⟨_, rfl, rfl⟩)

end Go.Proofs.Ytpchcigpppdfiaa
