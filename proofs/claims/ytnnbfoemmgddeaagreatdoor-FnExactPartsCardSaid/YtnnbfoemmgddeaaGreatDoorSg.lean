/-
  What the source draws: floats and wide numbers, whichever. No conditions. What the source draws: floats, wide numbers, pairs of them. No conditions.
-/
import Derived.Test.YtnnbfoemmgddeaaGreatDoorSh
import Derived.Test.YtnnbfoemmgddeaaGreatDoorWb
import Derived.Test.YtnnbfoemmgddeaaGreatDoorFg
namespace Go.Proofs.YtnnbfoemmgddeaaGreatDoor
set_option linter.unusedVariables false
open Go Go.RowKit

/-- The call returned some float and left the world alone, but for draws. -/
def RetF (w : World) (e : Ending) (w' : World) : Prop := ∃ x n : Nat, Wf x ∧ e = .returned (.float .f64 x) ∧ w' = w.drewN n

set_option maxHeartbeats 400000 in
theorem huge_any (w : World) : Calls Tryz.prog 161 #[] w (RetF w) := by
  go_enter Tryz.func161, Tryz.ntmps161
  go_wp2
  go_ret
  refine ⟨_, _, ?_, rfl, rfl⟩
  (first | assumption | exact wf_fop _ _ _ _ _ _ rfl | exact wf_int _ | exact wf_lit (by decide) | (refine wf_neg ?_; first | assumption | exact wf_fop _ _ _ _ _ _ rfl))

/-- x doubled n times; x halved n times. -/
def up (x : Nat) : Nat → Nat | 0 => x | n + 1 => cf .mul .f64 (up x n) 4611686018427387904
def down (x : Nat) : Nat → Nat | 0 => x | n + 1 => cf .quo .f64 (down x n) 4611686018427387904
def scaled (x : Nat) (k : Int) : Nat := if 0 ≤ k then up x k.toNat else down x (-k).toNat
def RetEC (u v : Nat) (w : World) (e : Ending) (w' : World) : Prop := ∃ x n : Nat, (Wf u → Wf x) ∧ e = .returned (.float .f64 x) ∧ NEq .f64 x v ∧ w' = w.drewN n

set_option maxHeartbeats 400000 in
theorem scale_any (x : Nat) (k : Int) (w : World) (h1 : -9223372036854775808 ≤ k) (h2 : k ≤ 9223372036854775807) : Calls Tryz.prog 159 #[.float .f64 x, .int .i64 k] w (RetEC x (scaled x k) w) := by
  go_enter Tryz.func159, Tryz.ntmps159
  go_wp2
  go_loopw [0, 1] (fun v i wr => ∃ (j : Nat) (y : Nat) (n : Nat), (0 ≤ k → (j : Int) ≤ k) ∧ (k < 0 → j = 0) ∧ v = .float .f64 y ∧ NEq .f64 y (up x j) ∧ (Wf x → Wf y) ∧ i = .int .i64 (k - j) ∧ wr = w.drewN n) (fun _ i _ => (intOf i).toNat)
  case atStart => exact ⟨0, x, 0, by omega, by omega, rfl, NEq.refl _ _, fun h => h, by simp, rfl⟩
  case round =>
    obtain ⟨j, y, n, hj1, hj2, rfl, hy, hw, rfl, rfl⟩ := hrel
    have HY := Lib.hid hy
    have HW := Lib.hid hw
    clear hy hw
    by_cases hk : 0 < k - j
    · go_wp2
      go_roundw
      case rel => exact ⟨j + 1, _, _, by omega, by omega, rfl, (fop_eq _ _ _ _ _ _ _ rfl).trans (.inl (cf_congr HY.out (NEq.refl _ _))), fun _ => wf_fop _ _ _ _ _ _ rfl, by go_num, rfl⟩
      case measure => simp [intOf]; omega
    · go_wp2
      go_loopw [0, 1] (fun v i wr => ∃ (j' : Nat) (y : Nat) (n : Nat), (k < 0 → (j' : Int) ≤ -k) ∧ (0 ≤ k → j' = 0) ∧ v = .float .f64 y ∧ NEq .f64 y (if 0 ≤ k then up x j else down x j') ∧ (Wf x → Wf y) ∧ i = .int .i64 (k - j + j') ∧ wr = w.drewN n) (fun _ i _ => (-(intOf i)).toNat)
      case atStart =>
        refine ⟨0, y, n, by omega, by omega, rfl, ?_, HW.out, by simp, rfl⟩
        split
        · exact HY.out
        · obtain rfl : j = 0 := by omega
          exact HY.out
      case round =>
        obtain ⟨j', y', n', hl1, hl2, rfl, hy, hw, rfl, rfl⟩ := hrel
        have HY' := Lib.hid hy
        have HW' := Lib.hid hw
        clear hy hw
        by_cases hl : k - j + j' < 0
        · go_wp2
          go_roundw
          case rel =>
            refine ⟨j' + 1, _, _, by omega, by omega, rfl, (fop_eq _ _ _ _ _ _ _ rfl).trans (.inl ?_), fun _ => wf_fop _ _ _ _ _ _ rfl, by go_num, rfl⟩
            have h0 : ¬ 0 ≤ k := by omega
            have := HY'.out
            rw [if_neg h0] at this ⊢
            exact cf_congr this (NEq.refl _ _)
          case measure => simp [intOf]; omega
        · go_wp2
          go_ret
          refine ⟨_, _, HW'.out, rfl, ?_, rfl⟩
          have := HY'.out
          unfold scaled
          split
          · rename_i h0
            rw [if_pos h0] at this
            rw [show k.toNat = j by omega]; exact this
          · rename_i h0
            rw [if_neg h0] at this
            rw [show (-k).toNat = j' by omega]; exact this

def SomeF (B : Nat) (a : Option Addr) (len cap : Nat) (b : Nat) (w : World) (e : Ending) (w' : World) : Prop :=
  ∃ x : Nat, Wf x ∧ e = .returned (.float .f64 x) ∧ Stay B a len cap b w w'
def SomeC (B : Nat) (a : Option Addr) (len cap : Nat) (b : Nat) (w : World) (e : Ending) (w' : World) : Prop :=
  ∃ x y : Nat, Wf x ∧ Wf y ∧ e = .returned (.complex .f64 x y) ∧ Stay B a len cap b w w'
section
variable {B : Nat} {a : Option Addr} {len cap b : Nat} {w W : World}
theorem SomeF.from {e : Ending} {w' : World} (h : Stay B a len cap b w W) (g : SomeF B a len cap b W e w') : SomeF B a len cap b w e w' := by
  obtain ⟨x, hw, he, hst⟩ := g
  exact ⟨x, hw, he, h.trans hst⟩
theorem SomeC.from {e : Ending} {w' : World} (h : Stay B a len cap b w W) (g : SomeC B a len cap b W e w') : SomeC B a len cap b w e w' := by
  obtain ⟨x, y, hx, hy, he, hst⟩ := g
  exact ⟨x, y, hx, hy, he, h.trans hst⟩
end

set_option maxHeartbeats 400000 in
theorem strange_any (B : Nat) (a : Option Addr) (len cap b : Nat) (w W : World) (ST : Stay B a len cap b w W) :
    Calls Tryz.prog 91 #[.pointer (some ⟨b, 0, none⟩)] W (SomeF B a len cap b w) := by
  go_enter Tryz.func91, Tryz.ntmps91
  go_wp2_with (first | (go_at_call 161; refine (huge_any _).mono ?_; rintro e w' ⟨x0, n0, hw0, rfl, rfl⟩) | (go_at_call 90; refine (next_from (by with_reducible (first | exact ST | exact ST.drewN _ | exact ST.alloc' _ | exact (ST.alloc' _).drewN _ | exact (ST.drewN _).alloc' _)) _ (by omega) (by omega)).mono ?_; rintro e w' ⟨v, hv, rfl, ST⟩))
  all_goals
    go_ret
    refine ⟨_, ?_, rfl, (by with_reducible (first | exact ST | exact ST.drewN _ | exact ST.alloc' _ | exact (ST.alloc' _).drewN _ | exact (ST.drewN _).alloc' _))⟩
    (first | assumption | exact wf_fop _ _ _ _ _ _ rfl | exact wf_int _ | exact wf_lit (by decide) | (refine wf_neg ?_; first | assumption | exact wf_fop _ _ _ _ _ _ rfl))

set_option maxRecDepth 100000 in
set_option maxHeartbeats 400000 in
theorem bits_any (B : Nat) (a : Option Addr) (len cap b : Nat) (w W : World) (ST : Stay B a len cap b w W) :
    Calls Tryz.prog 162 #[.pointer (some ⟨b, 0, none⟩)] W (SomeF B a len cap b w) := by
  go_enter Tryz.func162, Tryz.ntmps162
  go_wp2_with fail
  refine (next_from (w := w) ST _ (by omega) (by omega)).mono ?_
  rintro e w' ⟨v, hv, rfl, ST⟩
  clear hv
  go_wp2_with fail
  refine (next_from (w := w) (by with_reducible (first | exact ST | exact ST.drewN _ | exact ST.alloc' _ | exact (ST.alloc' _).drewN _ | exact (ST.drewN _).alloc' _)) _ (by omega) (by omega)).mono ?_
  rintro e w' ⟨v', hv', rfl, ST⟩
  clear hv'
  go_wp2_with fail
  refine (next_from (w := w) (by with_reducible (first | exact ST | exact ST.drewN _ | exact ST.alloc' _ | exact (ST.alloc' _).drewN _ | exact (ST.drewN _).alloc' _)) _ (by omega) (by omega)).mono ?_
  rintro e w' ⟨v3, hv3, rfl, ST⟩
  go_wp2_with fail
  all_goals
    refine (next_from (w := w) (by with_reducible (first | exact ST | exact ST.drewN _ | exact ST.alloc' _ | exact (ST.alloc' _).drewN _ | exact (ST.drewN _).alloc' _)) _ (by omega) (by omega)).mono ?_
    rintro e w' ⟨v4, hv4, rfl, ST⟩
    go_wp2_with fail
    refine (next_from (w := w) (by with_reducible (first | exact ST | exact ST.drewN _ | exact ST.alloc' _ | exact (ST.alloc' _).drewN _ | exact (ST.drewN _).alloc' _)) _ (by omega) (by omega)).mono ?_
    rintro e w' ⟨v5, hv5, rfl, ST⟩
    go_wp2_with fail
    refine (pick_from (w := w) (by with_reducible (first | exact ST | exact ST.drewN _ | exact ST.alloc' _ | exact (ST.alloc' _).drewN _ | exact (ST.drewN _).alloc' _)) [0, -24, -23, -30, 10, (v4 : Int) - 40, (v5 : Int) - 1080, 990, -1060, 102, -149] _ 11 rfl (by decide) (by decide) (by intro x hx; simp at hx; unfold InI64; omega) _ rfl).mono ?_
    rintro e w' ⟨z, hz1, hz2, rfl, ST⟩
    have HZ := Lib.hid (And.intro hz1 hz2)
    clear hz1 hz2
    go_wp2_with fail
    refine (scale_any _ z _ HZ.out.1 HZ.out.2).mono ?_
    rintro e w' ⟨y, n, hw0, rfl, hy, rfl⟩
    have hw1 : Wf y := hw0 (by (first | assumption | exact wf_fop _ _ _ _ _ _ rfl | exact wf_int _ | exact wf_lit (by decide) | (refine wf_neg ?_; first | assumption | exact wf_fop _ _ _ _ _ _ rfl)))
    clear hw0 hy
    go_wp2_with fail
    go_ret
    refine ⟨_, ?_, rfl, (by with_reducible (first | exact ST | exact ST.drewN _ | exact ST.alloc' _ | exact (ST.alloc' _).drewN _ | exact (ST.drewN _).alloc' _))⟩
    (first | assumption | exact wf_fop _ _ _ _ _ _ rfl | exact wf_int _ | exact wf_lit (by decide) | (refine wf_neg ?_; first | assumption | exact wf_fop _ _ _ _ _ _ rfl))

set_option maxRecDepth 100000 in
set_option maxHeartbeats 400000 in
theorem float_any (B : Nat) (a : Option Addr) (len cap b : Nat) (w W : World) (ST : Stay B a len cap b w W) :
    Calls Tryz.prog 93 #[.pointer (some ⟨b, 0, none⟩)] W (SomeF B a len cap b w) := by
  go_enter Tryz.func93, Tryz.ntmps93
  go_wp2_with fail
  refine (next_from (w := w) ST _ (by omega) (by omega)).mono ?_
  rintro e w' ⟨v, hv, rfl, ST⟩
  go_wp2_with fail
  iterate 3
   · clear hv
     refine (next_from (w := w) ST 21 (by omega) (by omega)).mono ?_
     rintro e w' ⟨v, hv, rfl, ST⟩
     go_wp2_with fail
     go_ret
     refine ⟨_, ?_, rfl, (by with_reducible (first | exact ST | exact ST.drewN _ | exact ST.alloc' _ | exact (ST.alloc' _).drewN _ | exact (ST.drewN _).alloc' _))⟩
     (first | assumption | exact wf_fop _ _ _ _ _ _ rfl | exact wf_int _ | exact wf_lit (by decide) | (refine wf_neg ?_; first | assumption | exact wf_fop _ _ _ _ _ _ rfl))
  iterate 2
   · clear hv
     refine (next_from (w := w) ST 257 (by omega) (by omega)).mono ?_
     rintro e w' ⟨v, hv, rfl, ST⟩
     go_wp2_with fail
     refine (pick_some (w := w) (by with_reducible (first | exact ST | exact ST.drewN _ | exact ST.alloc' _ | exact (ST.alloc' _).drewN _ | exact (ST.drewN _).alloc' _)) [2, 4, 8, 16, 3, 10] _ 6 rfl (by decide) (by decide) (by intro x hx; simp at hx; unfold InI64; omega) _ rfl).mono ?_
     rintro e w' ⟨z, rfl, ST⟩
     go_wp2_with fail
     go_ret
     refine ⟨_, ?_, rfl, (by with_reducible (first | exact ST | exact ST.drewN _ | exact ST.alloc' _ | exact (ST.alloc' _).drewN _ | exact (ST.drewN _).alloc' _))⟩
     (first | assumption | exact wf_fop _ _ _ _ _ _ rfl | exact wf_int _ | exact wf_lit (by decide) | (refine wf_neg ?_; first | assumption | exact wf_fop _ _ _ _ _ _ rfl))
  · clear hv
    refine (next_from (w := w) ST 2000001 (by omega) (by omega)).mono ?_
    rintro e w' ⟨v, hv, rfl, ST⟩
    go_wp2_with fail
    refine (pick_some (w := w) (by with_reducible (first | exact ST | exact ST.drewN _ | exact ST.alloc' _ | exact (ST.alloc' _).drewN _ | exact (ST.drewN _).alloc' _)) [1, 1000, 1048576] _ 3 rfl (by decide) (by decide) (by intro x hx; simp at hx; unfold InI64; omega) _ rfl).mono ?_
    rintro e w' ⟨z, rfl, ST⟩
    go_wp2_with fail
    go_ret
    refine ⟨_, ?_, rfl, (by with_reducible (first | exact ST | exact ST.drewN _ | exact ST.alloc' _ | exact (ST.alloc' _).drewN _ | exact (ST.drewN _).alloc' _))⟩
    (first | assumption | exact wf_fop _ _ _ _ _ _ rfl | exact wf_int _ | exact wf_lit (by decide) | (refine wf_neg ?_; first | assumption | exact wf_fop _ _ _ _ _ _ rfl))
  · clear hv
    refine (next_from (w := w) ST 2 (by omega) (by omega)).mono ?_
    rintro e w' ⟨v, hv, rfl, ST⟩
    go_wp2_with (go_at_call 161; refine (huge_any _).mono ?_; rintro e w' ⟨x0, n0, hw0, rfl, rfl⟩)
    all_goals
      go_ret
      refine ⟨_, ?_, rfl, (by with_reducible (first | exact ST | exact ST.drewN _ | exact ST.alloc' _ | exact (ST.alloc' _).drewN _ | exact (ST.drewN _).alloc' _))⟩
      (first | assumption | exact wf_fop _ _ _ _ _ _ rfl | exact wf_int _ | exact wf_lit (by decide) | (refine wf_neg ?_; first | assumption | exact wf_fop _ _ _ _ _ _ rfl))
  · refine (bits_any B a len cap b w _ ST).mono ?_
    rintro e w' ⟨z, hz, rfl, ST⟩
    go_wp2_with fail
    go_ret
    refine ⟨_, ?_, rfl, (by with_reducible (first | exact ST | exact ST.drewN _ | exact ST.alloc' _ | exact (ST.alloc' _).drewN _ | exact (ST.drewN _).alloc' _))⟩
    (first | assumption | exact wf_fop _ _ _ _ _ _ rfl | exact wf_int _ | exact wf_lit (by decide) | (refine wf_neg ?_; first | assumption | exact wf_fop _ _ _ _ _ _ rfl))

set_option maxRecDepth 100000 in
set_option maxHeartbeats 400000 in
theorem draw_any (B : Nat) (a : Option Addr) (len cap b : Nat) (w W : World) (ST : Stay B a len cap b w W) :
    Calls Tryz.prog 149 #[.pointer (some ⟨b, 0, none⟩)] W (SomeC B a len cap b w) := by
  go_enter Tryz.func149, Tryz.ntmps149
  go_wp2_with (first | (go_at_call 90; refine (next_from (by with_reducible (first | exact ST | exact ST.drewN _ | exact ST.alloc' _ | exact (ST.alloc' _).drewN _ | exact (ST.drewN _).alloc' _)) _ (by omega) (by omega)).mono ?_; rintro e w' ⟨v, hv, rfl, ST⟩) | (go_at_call 93; refine (float_any B a len cap b w _ (by with_reducible (first | exact ST | exact ST.drewN _ | exact ST.alloc' _ | exact (ST.alloc' _).drewN _ | exact (ST.drewN _).alloc' _))).mono ?_; rintro e w' ⟨x, hwx, rfl, ST⟩))
  all_goals
    go_ret
    refine ⟨_, _, ?_, ?_, rfl, (by with_reducible (first | exact ST | exact ST.drewN _ | exact ST.alloc' _ | exact (ST.alloc' _).drewN _ | exact (ST.drewN _).alloc' _))⟩ <;> (first | assumption | exact wf_fop _ _ _ _ _ _ rfl | exact wf_int _ | exact wf_lit (by decide) | (refine wf_neg ?_; first | assumption | exact wf_fop _ _ _ _ _ _ rfl))

set_option maxRecDepth 100000 in
set_option maxHeartbeats 400000 in
theorem spoil_any (B : Nat) (a : Option Addr) (len cap b : Nat) (w W : World) (ST : Stay B a len cap b w W) :
    Calls Tryz.prog 98 #[.pointer (some ⟨b, 0, none⟩)] W (SomeC B a len cap b w) := by
  go_enter Tryz.func98, Tryz.ntmps98
  go_wp2_with (first | (go_at_call 90; refine (next_from (by with_reducible (first | exact ST | exact ST.drewN _ | exact ST.alloc' _ | exact (ST.alloc' _).drewN _ | exact (ST.drewN _).alloc' _)) _ (by omega) (by omega)).mono ?_; rintro e w' ⟨v, hv, rfl, ST⟩) | (go_at_call 91; refine (strange_any B a len cap b w _ (by with_reducible (first | exact ST | exact ST.drewN _ | exact ST.alloc' _ | exact (ST.alloc' _).drewN _ | exact (ST.drewN _).alloc' _))).mono ?_; rintro e w' ⟨x, hwx, rfl, ST⟩) | (go_at_call 149; refine (draw_any B a len cap b w _ (by with_reducible (first | exact ST | exact ST.drewN _ | exact ST.alloc' _ | exact (ST.alloc' _).drewN _ | exact (ST.drewN _).alloc' _))).mono ?_; rintro e w' ⟨x, y, hwx, hwy, rfl, ST⟩))
  all_goals
    go_ret
    refine ⟨_, _, ?_, ?_, rfl, (by with_reducible (first | exact ST | exact ST.drewN _ | exact ST.alloc' _ | exact (ST.alloc' _).drewN _ | exact (ST.drewN _).alloc' _))⟩ <;> (first | assumption | exact wf_fop _ _ _ _ _ _ rfl | exact wf_int _ | exact wf_lit (by decide) | (refine wf_neg ?_; first | assumption | exact wf_fop _ _ _ _ _ _ rfl))

/-- Two wide numbers, whichever; memory below B as it was. -/
def TwoC (B : Nat) (w : World) (e : Ending) (w' : World) : Prop :=
  ∃ x y z u : Nat, (Wf x ∧ Wf y) ∧ (Wf z ∧ Wf u) ∧ e = .returned (.tuple #[.complex .f64 x y, .complex .f64 z u]) ∧ Below B w w'

set_option maxRecDepth 100000 in
set_option maxHeartbeats 400000 in
theorem two_any (a : Option Addr) (len cap : Nat) (w : World) (hlen : len ≤ 9223372036854775807) (hcode : Code8 w.heap.size a len w) :
    Calls Tryz.prog 65 #[.slice a len cap] w (TwoC w.heap.size w) := by
  have HC := Lib.hid hcode
  have HL := Lib.hid hlen
  clear hcode hlen
  obtain ⟨B, hB⟩ : ∃ B, B = w.heap.size := ⟨_, rfl⟩
  rw [← hB] at HC ⊢
  have HB := Lib.hid hB
  clear hB
  go_enter Tryz.func65, Tryz.ntmps65
  go_wp2_with fail
  refine (from_any a len cap w HL.out (by rw [← HB.out]; exact HC.out)).mono ?_
  rintro e w1 ⟨b, rfl, hbel, hsrc⟩
  rw [← HB.out] at hbel hsrc
  have BE := Lib.hid hbel
  clear hbel
  have ST := Stay.refl hsrc
  clear hsrc
  go_wp2_with (first | (go_at_call 90; refine (next_from (by with_reducible (first | exact ST | exact ST.drewN _ | exact ST.alloc' _ | exact (ST.alloc' _).drewN _ | exact (ST.drewN _).alloc' _)) _ (by omega) (by omega)).mono ?_; rintro e w' ⟨v, hv, rfl, ST⟩) | (go_at_call 98; refine (spoil_any B a len cap b w1 _ (by with_reducible (first | exact ST | exact ST.drewN _ | exact ST.alloc' _ | exact (ST.alloc' _).drewN _ | exact (ST.drewN _).alloc' _))).mono ?_; rintro e w' ⟨x, y, hwx, hwy, rfl, ST⟩))
  all_goals
    go_ret2
    refine ⟨_, _, _, _, ⟨?_, ?_⟩, ⟨?_, ?_⟩, rfl, BE.out.trans (ST.below (by have := BE.out.size; rw [HB.out]; omega))⟩ <;> (first | assumption | exact wf_fop _ _ _ _ _ _ rfl | exact wf_int _ | exact wf_lit (by decide) | (refine wf_neg ?_; first | assumption | exact wf_fop _ _ _ _ _ _ rfl))
end Go.Proofs.YtnnbfoemmgddeaaGreatDoor
