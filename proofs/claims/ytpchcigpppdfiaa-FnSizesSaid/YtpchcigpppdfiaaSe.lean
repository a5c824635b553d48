/-
  What the source draws: floats and wide numbers, whichever. No conditions.
-/
import Derived.Test.YtpchcigpppdfiaaSh
import Derived.Test.YtpchcigpppdfiaaWb
import Derived.Test.YtpchcigpppdfiaaFg
namespace Go.Proofs.Ytpchcigpppdfiaa
set_option linter.unusedVariables false
open Go Go.RowKit

/-- The call returned some float and left the world alone, but for draws. -/
def RetF (w : World) (e : Ending) (w' : World) : Prop := ∃ x n : Nat, Wf x ∧ e = .returned (.float .f64 x) ∧ w' = w.drewN n

set_option maxHeartbeats 400000 in
theorem huge_any (w : World) : Calls Try.prog 120 #[] w (RetF w) := by
  go_enter Try.func120, Try.ntmps120
  go_wp2
  go_ret
  refine ⟨_, _, ?_, rfl, rfl⟩
  (first | assumption | exact wf_fop _ _ _ _ _ _ rfl | exact wf_int _ | exact wf_lit (by decide) | (refine wf_neg ?_; first | assumption | exact wf_fop _ _ _ _ _ _ rfl))

/-- x doubled n times; x halved n times. -/
def up (x : Nat) : Nat → Nat | 0 => x | n + 1 => cf .mul .f64 (up x n) 4611686018427387904
def down (x : Nat) : Nat → Nat | 0 => x | n + 1 => cf .quo .f64 (down x n) 4611686018427387904
def scaled (x : Nat) (k : Int) : Nat := if 0 ≤ k then up x k.toNat else down x (-k).toNat
def RetE (u v : Nat) (w : World) (e : Ending) (w' : World) : Prop := ∃ x n : Nat, (Wf u → Wf x) ∧ e = .returned (.float .f64 x) ∧ NEq .f64 x v ∧ w' = w.drewN n

set_option maxHeartbeats 400000 in
theorem scale_any (x : Nat) (k : Int) (w : World) (h1 : -9223372036854775808 ≤ k) (h2 : k ≤ 9223372036854775807) : Calls Try.prog 64 #[.float .f64 x, .int .i64 k] w (RetE x (scaled x k) w) := by
  go_enter Try.func64, Try.ntmps64
  go_wp2
  go_loopw [0, 1] (fun v i wr => ∃ (j : Nat) (y : Nat) (n : Nat), (0 ≤ k → (j : Int) ≤ k) ∧ (k < 0 → j = 0) ∧ v = .float .f64 y ∧ NEq .f64 y (up x j) ∧ (Wf x → Wf y) ∧ i = .int .i64 (k - j) ∧ wr = w.drewN n) (fun _ i _ => (intOf i).toNat)
  case atStart => exact ⟨0, x, 0, by omega, by omega, rfl, NEq.refl _ _, fun h => h, by simp, rfl⟩
  case round =>
    obtain ⟨j, y, n, hj1, hj2, rfl, hy, hw, rfl, rfl⟩ := hrel
    have HY := Lib.hid hy
    have HW := Lib.hid hw
    clear hy hw
    by_cases hk : 0 < k - j
    · go_wp2
      go_roundw
      case rel => exact ⟨j + 1, _, _, by omega, by omega, rfl, (fop_eq _ _ _ _ _ _ _ rfl).trans (.inl (cf_congr HY.out (NEq.refl _ _))), fun _ => wf_fop _ _ _ _ _ _ rfl, by go_num, rfl⟩
      case measure => simp [intOf]; omega
    · go_wp2
      go_loopw [0, 1] (fun v i wr => ∃ (j' : Nat) (y : Nat) (n : Nat), (k < 0 → (j' : Int) ≤ -k) ∧ (0 ≤ k → j' = 0) ∧ v = .float .f64 y ∧ NEq .f64 y (if 0 ≤ k then up x j else down x j') ∧ (Wf x → Wf y) ∧ i = .int .i64 (k - j + j') ∧ wr = w.drewN n) (fun _ i _ => (-(intOf i)).toNat)
      case atStart =>
        refine ⟨0, y, n, by omega, by omega, rfl, ?_, HW.out, by simp, rfl⟩
        split
        · exact HY.out
        · obtain rfl : j = 0 := by omega
          exact HY.out
      case round =>
        obtain ⟨j', y', n', hl1, hl2, rfl, hy, hw, rfl, rfl⟩ := hrel
        have HY' := Lib.hid hy
        have HW' := Lib.hid hw
        clear hy hw
        by_cases hl : k - j + j' < 0
        · go_wp2
          go_roundw
          case rel =>
            refine ⟨j' + 1, _, _, by omega, by omega, rfl, (fop_eq _ _ _ _ _ _ _ rfl).trans (.inl ?_), fun _ => wf_fop _ _ _ _ _ _ rfl, by go_num, rfl⟩
            have h0 : ¬ 0 ≤ k := by omega
            have := HY'.out
            rw [if_neg h0] at this ⊢
            exact cf_congr this (NEq.refl _ _)
          case measure => simp [intOf]; omega
        · go_wp2
          go_ret
          refine ⟨_, _, HW'.out, rfl, ?_, rfl⟩
          have := HY'.out
          unfold scaled
          split
          · rename_i h0
            rw [if_pos h0] at this
            rw [show k.toNat = j by omega]; exact this
          · rename_i h0
            rw [if_neg h0] at this
            rw [show (-k).toNat = j' by omega]; exact this

def SomeF (B : Nat) (a : Option Addr) (len cap : Nat) (b : Nat) (w : World) (e : Ending) (w' : World) : Prop :=
  ∃ x : Nat, Wf x ∧ e = .returned (.float .f64 x) ∧ Stay B a len cap b w w'
def SomeC (B : Nat) (a : Option Addr) (len cap : Nat) (b : Nat) (w : World) (e : Ending) (w' : World) : Prop :=
  ∃ x y : Nat, Wf x ∧ Wf y ∧ e = .returned (.complex .f64 x y) ∧ Stay B a len cap b w w'
section
variable {B : Nat} {a : Option Addr} {len cap b : Nat} {w W : World}
theorem SomeF.from {e : Ending} {w' : World} (h : Stay B a len cap b w W) (g : SomeF B a len cap b W e w') : SomeF B a len cap b w e w' := by
  obtain ⟨x, hw, he, hst⟩ := g
  exact ⟨x, hw, he, h.trans hst⟩
theorem SomeC.from {e : Ending} {w' : World} (h : Stay B a len cap b w W) (g : SomeC B a len cap b W e w') : SomeC B a len cap b w e w' := by
  obtain ⟨x, y, hx, hy, he, hst⟩ := g
  exact ⟨x, y, hx, hy, he, h.trans hst⟩
end

set_option maxHeartbeats 400000 in
theorem strange_any (B : Nat) (a : Option Addr) (len cap b : Nat) (w W : World) (ST : Stay B a len cap b w W) :
    Calls Try.prog 90 #[.pointer (some ⟨b, 0, none⟩)] W (SomeF B a len cap b w) := by
  go_enter Try.func90, Try.ntmps90
  go_wp2_with (first | (go_at_call 120; refine (huge_any _).mono ?_; rintro e w' ⟨x0, n0, hw0, rfl, rfl⟩) | (go_at_call 62; refine (next_from (by with_reducible (first | exact ST | exact ST.drewN _ | exact ST.alloc' _ | exact (ST.alloc' _).drewN _ | exact (ST.drewN _).alloc' _)) _ (by omega) (by omega)).mono ?_; rintro e w' ⟨v, hv, rfl, ST⟩))
  all_goals
    go_ret
    refine ⟨_, ?_, rfl, (by with_reducible (first | exact ST | exact ST.drewN _ | exact ST.alloc' _ | exact (ST.alloc' _).drewN _ | exact (ST.drewN _).alloc' _))⟩
    (first | assumption | exact wf_fop _ _ _ _ _ _ rfl | exact wf_int _ | exact wf_lit (by decide) | (refine wf_neg ?_; first | assumption | exact wf_fop _ _ _ _ _ _ rfl))
end Go.Proofs.Ytpchcigpppdfiaa
