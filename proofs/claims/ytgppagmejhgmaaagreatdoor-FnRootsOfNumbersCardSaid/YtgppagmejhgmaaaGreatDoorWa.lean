/-
  Leaf contracts: finite tests. No conditions.
-/
import Derived.Test.YtgppagmejhgmaaaGreatDoorChecked
import Derived.Test.YtgppagmejhgmaaaGreatDoorFl
import Derived.WalkKit
import Derived.WalkSpells
import Derived.WalkLawsBesides
import Derived.Deep.QuietTactic
import Derived.BigQuiet
import Derived.Lib.Hide
namespace Go.Proofs.YtgppagmejhgmaaaGreatDoor
set_option linter.unusedVariables false
open Go

set_option maxHeartbeats 400000 in
theorem isNaN_any (x : Nat) (w : World) :
    Calls Tryz.prog 54 #[.float .f64 x] w fun e w' => e = .returned (.bool (FloatKind.f64.format.order x x != some .eq)) ∧ w = w' := by
  go_enter Tryz.func54, Tryz.ntmps54
  go_wp2
  all_goals (go_ret; exact ⟨rfl, rfl⟩)

theorem call_bits (x : Nat) (w : World) : (callFunc 75 #[.float .f64 x]).run Tryz.prog w = .ok (.value (.int .u64 x)) w := by kernel_rfl
theorem call_frombits (x : Int) (w : World) : (callFunc 74 #[.int .u64 x]).run Tryz.prog w = .ok (.value (.float .f64 x.toNat)) w := by kernel_rfl

set_option maxHeartbeats 400000 in
theorem abs_any (x : Nat) (w : World) :
    Calls Tryz.prog 44 #[.float .f64 x] w fun e w' => e = .returned (.float .f64 (x % 2 ^ 63)) ∧ w = w' := by
  have hb1 := call_bits
  have hb2 := call_frombits
  go_enter Tryz.func44, Tryz.ntmps44
  go_wp2
  go_ret
  exact ⟨by rw [bits_abs]; rfl, rfl⟩

set_option maxHeartbeats 400000 in
theorem isInf_any (x : Nat) (w : World) :
    Calls Tryz.prog 53 #[.float .f64 x, .int .i64 0] w fun e w' => e = .returned (.bool (isI x)) ∧ w = w' := by
  go_enter Tryz.func53, Tryz.ntmps53
  go_wp2_with (go_at_call 44; refine (abs_any _ _).mono ?_; rintro e w' ⟨rfl, rfl⟩)
  go_ret
  exact ⟨rfl, rfl⟩

set_option maxHeartbeats 400000 in
theorem isM_any (x : Nat) (w : World) :
    Calls Tryz.prog 54 #[.float .f64 x] w fun e w' => e = .returned (.bool (isM x)) ∧ w = w' := isNaN_any x w

set_option maxHeartbeats 400000 in
theorem isFiniteFloat_any (x : Nat) (w : World) :
    Calls Tryz.prog 32 #[.float .f64 x] w fun e w' => e = .returned (.bool (isF .f64 x)) ∧ w = w' := by
  cases h : isF .f64 x
  · have ht := not_fin_tests h
    rcases hi : isI x with _ | _
    · have hm : isM x = true := by rcases ht with ht | ht <;> simp_all
      clear ht
      go_enter Tryz.func32, Tryz.ntmps32
      go_wp2_with (first | (go_at_call 53; refine (isInf_any _ _).mono ?_; rintro e w' ⟨rfl, rfl⟩) | (go_at_call 54; refine (isM_any _ _).mono ?_; rintro e w' ⟨rfl, rfl⟩))
      all_goals (go_ret; exact ⟨rfl, rfl⟩)
    · clear ht
      go_enter Tryz.func32, Tryz.ntmps32
      go_wp2_with (first | (go_at_call 53; refine (isInf_any _ _).mono ?_; rintro e w' ⟨rfl, rfl⟩) | (go_at_call 54; refine (isM_any _ _).mono ?_; rintro e w' ⟨rfl, rfl⟩))
      all_goals (go_ret; exact ⟨rfl, rfl⟩)
  · obtain ⟨hi, hm⟩ := fin_tests h
    go_enter Tryz.func32, Tryz.ntmps32
    go_wp2_with (first | (go_at_call 53; refine (isInf_any _ _).mono ?_; rintro e w' ⟨rfl, rfl⟩) | (go_at_call 54; refine (isM_any _ _).mono ?_; rintro e w' ⟨rfl, rfl⟩))
    all_goals (go_ret; exact ⟨rfl, rfl⟩)

set_option maxHeartbeats 400000 in
theorem iFinite_any (a b : Nat) (w : World) :
    Calls Tryz.prog 43 #[.complex .f64 a b] w fun e w' => e = .returned (.bool (isF .f64 a && isF .f64 b)) ∧ w = w' := by
  cases h : isF .f64 a
  · go_enter Tryz.func43, Tryz.ntmps43
    go_wp2_with (go_at_call 32; refine (isFiniteFloat_any _ _).mono ?_; rintro e w' ⟨rfl, rfl⟩)
    all_goals (go_ret; exact ⟨rfl, rfl⟩)
  · go_enter Tryz.func43, Tryz.ntmps43
    go_wp2_with (go_at_call 32; refine (isFiniteFloat_any _ _).mono ?_; rintro e w' ⟨rfl, rfl⟩)
    all_goals (go_ret; exact ⟨rfl, rfl⟩)

set_option maxHeartbeats 400000 in
theorem sReal_any (x : Nat) (w : World) :
    Calls Tryz.prog 34 #[.float .f64 x] w (Ret (.bool (isF .f64 x)) w) := by
  obtain ⟨⟨r, n⟩, h1, h2⟩ := arith_ex Tryz.prog w .sub 24 .f64 x x rfl
  have ht := real_test .f64 x
  rw [← order_congr h2 (NEq.refl _ _)] at ht
  go_enter Tryz.func34, Tryz.ntmps34
  go_wp2
  go_ret
  exact ⟨n, rfl, rfl⟩

set_option maxHeartbeats 400000 in
theorem sFinite_any (a b : Nat) (w : World) :
    Calls Tryz.prog 41 #[.complex .f64 a b] w (Ret (.bool (isF .f64 a && isF .f64 b)) w) := by
  cases h : isF .f64 a
  · go_enter Tryz.func41, Tryz.ntmps41
    go_wp2_with (go_at_call 34; refine (sReal_any _ _).mono ?_; rintro e w' ⟨_, rfl, rfl⟩)
    all_goals (go_ret; exact ⟨_, rfl, rfl⟩)
  · go_enter Tryz.func41, Tryz.ntmps41
    go_wp2_with (go_at_call 34; refine (sReal_any _ _).mono ?_; rintro e w' ⟨_, rfl, rfl⟩)
    all_goals (go_ret; exact ⟨_, rfl, rfl⟩)

end Go.Proofs.YtgppagmejhgmaaaGreatDoor
