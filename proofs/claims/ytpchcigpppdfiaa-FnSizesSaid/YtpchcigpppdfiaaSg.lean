/-
  What the source draws: floats, wide numbers, pairs of them. No conditions.
-/
import Derived.Test.YtpchcigpppdfiaaSe
namespace Go.Proofs.Ytpchcigpppdfiaa
set_option linter.unusedVariables false
open Go Go.RowKit

set_option maxRecDepth 100000 in
set_option maxHeartbeats 400000 in
theorem bits_any (B : Nat) (a : Option Addr) (len cap b : Nat) (w W : World) (ST : Stay B a len cap b w W) :
    Calls Try.prog 126 #[.pointer (some ⟨b, 0, none⟩)] W (SomeF B a len cap b w) := by
  go_enter Try.func126, Try.ntmps126
  go_wp2_with fail
  refine (next_from (w := w) ST _ (by omega) (by omega)).mono ?_
  rintro e w' ⟨v, hv, rfl, ST⟩
  clear hv
  go_wp2_with fail
  refine (next_from (w := w) (by with_reducible (first | exact ST | exact ST.drewN _ | exact ST.alloc' _ | exact (ST.alloc' _).drewN _ | exact (ST.drewN _).alloc' _)) _ (by omega) (by omega)).mono ?_
  rintro e w' ⟨v', hv', rfl, ST⟩
  clear hv'
  go_wp2_with fail
  refine (next_from (w := w) (by with_reducible (first | exact ST | exact ST.drewN _ | exact ST.alloc' _ | exact (ST.alloc' _).drewN _ | exact (ST.drewN _).alloc' _)) _ (by omega) (by omega)).mono ?_
  rintro e w' ⟨v3, hv3, rfl, ST⟩
  go_wp2_with fail
  all_goals
    refine (next_from (w := w) (by with_reducible (first | exact ST | exact ST.drewN _ | exact ST.alloc' _ | exact (ST.alloc' _).drewN _ | exact (ST.drewN _).alloc' _)) _ (by omega) (by omega)).mono ?_
    rintro e w' ⟨v4, hv4, rfl, ST⟩
    go_wp2_with fail
    refine (next_from (w := w) (by with_reducible (first | exact ST | exact ST.drewN _ | exact ST.alloc' _ | exact (ST.alloc' _).drewN _ | exact (ST.drewN _).alloc' _)) _ (by omega) (by omega)).mono ?_
    rintro e w' ⟨v5, hv5, rfl, ST⟩
    go_wp2_with fail
    refine (pick_from (w := w) (by with_reducible (first | exact ST | exact ST.drewN _ | exact ST.alloc' _ | exact (ST.alloc' _).drewN _ | exact (ST.drewN _).alloc' _)) [0, -24, -23, -30, 10, (v4 : Int) - 40, (v5 : Int) - 1080, 990, -1060, 102, -149] _ 11 rfl (by decide) (by decide) (by intro x hx; simp at hx; unfold InI64; omega) _ rfl).mono ?_
    rintro e w' ⟨z, hz1, hz2, rfl, ST⟩
    have HZ := Lib.hid (And.intro hz1 hz2)
    clear hz1 hz2
    go_wp2_with fail
    refine (scale_any _ z _ HZ.out.1 HZ.out.2).mono ?_
    rintro e w' ⟨y, n, hw0, rfl, hy, rfl⟩
    have hw1 : Wf y := hw0 (by (first | assumption | exact wf_fop _ _ _ _ _ _ rfl | exact wf_int _ | exact wf_lit (by decide) | (refine wf_neg ?_; first | assumption | exact wf_fop _ _ _ _ _ _ rfl)))
    clear hw0 hy
    go_wp2_with fail
    go_ret
    refine ⟨_, ?_, rfl, (by with_reducible (first | exact ST | exact ST.drewN _ | exact ST.alloc' _ | exact (ST.alloc' _).drewN _ | exact (ST.drewN _).alloc' _))⟩
    (first | assumption | exact wf_fop _ _ _ _ _ _ rfl | exact wf_int _ | exact wf_lit (by decide) | (refine wf_neg ?_; first | assumption | exact wf_fop _ _ _ _ _ _ rfl))

set_option maxRecDepth 100000 in
set_option maxHeartbeats 400000 in
theorem float_any (B : Nat) (a : Option Addr) (len cap b : Nat) (w W : World) (ST : Stay B a len cap b w W) :
    Calls Try.prog 119 #[.pointer (some ⟨b, 0, none⟩)] W (SomeF B a len cap b w) := by
  go_enter Try.func119, Try.ntmps119
  go_wp2_with fail
  refine (next_from (w := w) ST _ (by omega) (by omega)).mono ?_
  rintro e w' ⟨v, hv, rfl, ST⟩
  go_wp2_with fail
  iterate 3
   · clear hv
     refine (next_from (w := w) ST 21 (by omega) (by omega)).mono ?_
     rintro e w' ⟨v, hv, rfl, ST⟩
     go_wp2_with fail
     go_ret
     refine ⟨_, ?_, rfl, (by with_reducible (first | exact ST | exact ST.drewN _ | exact ST.alloc' _ | exact (ST.alloc' _).drewN _ | exact (ST.drewN _).alloc' _))⟩
     (first | assumption | exact wf_fop _ _ _ _ _ _ rfl | exact wf_int _ | exact wf_lit (by decide) | (refine wf_neg ?_; first | assumption | exact wf_fop _ _ _ _ _ _ rfl))
  iterate 2
   · clear hv
     refine (next_from (w := w) ST 257 (by omega) (by omega)).mono ?_
     rintro e w' ⟨v, hv, rfl, ST⟩
     go_wp2_with fail
     refine (pick_some (w := w) (by with_reducible (first | exact ST | exact ST.drewN _ | exact ST.alloc' _ | exact (ST.alloc' _).drewN _ | exact (ST.drewN _).alloc' _)) [2, 4, 8, 16, 3, 10] _ 6 rfl (by decide) (by decide) (by intro x hx; simp at hx; unfold InI64; omega) _ rfl).mono ?_
     rintro e w' ⟨z, rfl, ST⟩
     go_wp2_with fail
     go_ret
     refine ⟨_, ?_, rfl, (by with_reducible (first | exact ST | exact ST.drewN _ | exact ST.alloc' _ | exact (ST.alloc' _).drewN _ | exact (ST.drewN _).alloc' _))⟩
     (first | assumption | exact wf_fop _ _ _ _ _ _ rfl | exact wf_int _ | exact wf_lit (by decide) | (refine wf_neg ?_; first | assumption | exact wf_fop _ _ _ _ _ _ rfl))
  · clear hv
    refine (next_from (w := w) ST 2000001 (by omega) (by omega)).mono ?_
    rintro e w' ⟨v, hv, rfl, ST⟩
    go_wp2_with fail
    refine (pick_some (w := w) (by with_reducible (first | exact ST | exact ST.drewN _ | exact ST.alloc' _ | exact (ST.alloc' _).drewN _ | exact (ST.drewN _).alloc' _)) [1, 1000, 1048576] _ 3 rfl (by decide) (by decide) (by intro x hx; simp at hx; unfold InI64; omega) _ rfl).mono ?_
    rintro e w' ⟨z, rfl, ST⟩
    go_wp2_with fail
    go_ret
    refine ⟨_, ?_, rfl, (by with_reducible (first | exact ST | exact ST.drewN _ | exact ST.alloc' _ | exact (ST.alloc' _).drewN _ | exact (ST.drewN _).alloc' _))⟩
    (first | assumption | exact wf_fop _ _ _ _ _ _ rfl | exact wf_int _ | exact wf_lit (by decide) | (refine wf_neg ?_; first | assumption | exact wf_fop _ _ _ _ _ _ rfl))
  · clear hv
    refine (next_from (w := w) ST 2 (by omega) (by omega)).mono ?_
    rintro e w' ⟨v, hv, rfl, ST⟩
    go_wp2_with (go_at_call 120; refine (huge_any _).mono ?_; rintro e w' ⟨x0, n0, hw0, rfl, rfl⟩)
    all_goals
      go_ret
      refine ⟨_, ?_, rfl, (by with_reducible (first | exact ST | exact ST.drewN _ | exact ST.alloc' _ | exact (ST.alloc' _).drewN _ | exact (ST.drewN _).alloc' _))⟩
      (first | assumption | exact wf_fop _ _ _ _ _ _ rfl | exact wf_int _ | exact wf_lit (by decide) | (refine wf_neg ?_; first | assumption | exact wf_fop _ _ _ _ _ _ rfl))
  · refine (bits_any B a len cap b w _ ST).mono ?_
    rintro e w' ⟨z, hz, rfl, ST⟩
    go_wp2_with fail
    go_ret
    refine ⟨_, ?_, rfl, (by with_reducible (first | exact ST | exact ST.drewN _ | exact ST.alloc' _ | exact (ST.alloc' _).drewN _ | exact (ST.drewN _).alloc' _))⟩
    (first | assumption | exact wf_fop _ _ _ _ _ _ rfl | exact wf_int _ | exact wf_lit (by decide) | (refine wf_neg ?_; first | assumption | exact wf_fop _ _ _ _ _ _ rfl))

set_option maxRecDepth 100000 in
set_option maxHeartbeats 400000 in
theorem draw_any (B : Nat) (a : Option Addr) (len cap b : Nat) (w W : World) (ST : Stay B a len cap b w W) :
    Calls Try.prog 89 #[.pointer (some ⟨b, 0, none⟩)] W (SomeC B a len cap b w) := by
  go_enter Try.func89, Try.ntmps89
  go_wp2_with (first | (go_at_call 62; refine (next_from (by with_reducible (first | exact ST | exact ST.drewN _ | exact ST.alloc' _ | exact (ST.alloc' _).drewN _ | exact (ST.drewN _).alloc' _)) _ (by omega) (by omega)).mono ?_; rintro e w' ⟨v, hv, rfl, ST⟩) | (go_at_call 119; refine (float_any B a len cap b w _ (by with_reducible (first | exact ST | exact ST.drewN _ | exact ST.alloc' _ | exact (ST.alloc' _).drewN _ | exact (ST.drewN _).alloc' _))).mono ?_; rintro e w' ⟨x, hwx, rfl, ST⟩))
  all_goals
    go_ret
    refine ⟨_, _, ?_, ?_, rfl, (by with_reducible (first | exact ST | exact ST.drewN _ | exact ST.alloc' _ | exact (ST.alloc' _).drewN _ | exact (ST.drewN _).alloc' _))⟩ <;> (first | assumption | exact wf_fop _ _ _ _ _ _ rfl | exact wf_int _ | exact wf_lit (by decide) | (refine wf_neg ?_; first | assumption | exact wf_fop _ _ _ _ _ _ rfl))

set_option maxRecDepth 100000 in
set_option maxHeartbeats 400000 in
theorem spoil_any (B : Nat) (a : Option Addr) (len cap b : Nat) (w W : World) (ST : Stay B a len cap b w W) :
    Calls Try.prog 44 #[.pointer (some ⟨b, 0, none⟩)] W (SomeC B a len cap b w) := by
  go_enter Try.func44, Try.ntmps44
  go_wp2_with (first | (go_at_call 62; refine (next_from (by with_reducible (first | exact ST | exact ST.drewN _ | exact ST.alloc' _ | exact (ST.alloc' _).drewN _ | exact (ST.drewN _).alloc' _)) _ (by omega) (by omega)).mono ?_; rintro e w' ⟨v, hv, rfl, ST⟩) | (go_at_call 90; refine (strange_any B a len cap b w _ (by with_reducible (first | exact ST | exact ST.drewN _ | exact ST.alloc' _ | exact (ST.alloc' _).drewN _ | exact (ST.drewN _).alloc' _))).mono ?_; rintro e w' ⟨x, hwx, rfl, ST⟩) | (go_at_call 89; refine (draw_any B a len cap b w _ (by with_reducible (first | exact ST | exact ST.drewN _ | exact ST.alloc' _ | exact (ST.alloc' _).drewN _ | exact (ST.drewN _).alloc' _))).mono ?_; rintro e w' ⟨x, y, hwx, hwy, rfl, ST⟩))
  all_goals
    go_ret
    refine ⟨_, _, ?_, ?_, rfl, (by with_reducible (first | exact ST | exact ST.drewN _ | exact ST.alloc' _ | exact (ST.alloc' _).drewN _ | exact (ST.drewN _).alloc' _))⟩ <;> (first | assumption | exact wf_fop _ _ _ _ _ _ rfl | exact wf_int _ | exact wf_lit (by decide) | (refine wf_neg ?_; first | assumption | exact wf_fop _ _ _ _ _ _ rfl))

/-- Two wide numbers, whichever; memory below B as it was. -/
def TwoC (B : Nat) (w : World) (e : Ending) (w' : World) : Prop :=
  ∃ x y z u : Nat, (Wf x ∧ Wf y) ∧ (Wf z ∧ Wf u) ∧ e = .returned (.tuple #[.complex .f64 x y, .complex .f64 z u]) ∧ Below B w w'

set_option maxRecDepth 100000 in
set_option maxHeartbeats 400000 in
theorem two_any (a : Option Addr) (len cap : Nat) (w : World) (hlen : len ≤ 9223372036854775807) (hcode : Code8 w.heap.size a len w) :
    Calls Try.prog 54 #[.slice a len cap] w (TwoC w.heap.size w) := by
  have HC := Lib.hid hcode
  have HL := Lib.hid hlen
  clear hcode hlen
  obtain ⟨B, hB⟩ : ∃ B, B = w.heap.size := ⟨_, rfl⟩
  rw [← hB] at HC ⊢
  have HB := Lib.hid hB
  clear hB
  go_enter Try.func54, Try.ntmps54
  go_wp2_with fail
  refine (from_any a len cap w HL.out (by rw [← HB.out]; exact HC.out)).mono ?_
  rintro e w1 ⟨b, rfl, hbel, hsrc⟩
  rw [← HB.out] at hbel hsrc
  have BE := Lib.hid hbel
  clear hbel
  have ST := Stay.refl hsrc
  clear hsrc
  go_wp2_with (first | (go_at_call 62; refine (next_from (by with_reducible (first | exact ST | exact ST.drewN _ | exact ST.alloc' _ | exact (ST.alloc' _).drewN _ | exact (ST.drewN _).alloc' _)) _ (by omega) (by omega)).mono ?_; rintro e w' ⟨v, hv, rfl, ST⟩) | (go_at_call 44; refine (spoil_any B a len cap b w1 _ (by with_reducible (first | exact ST | exact ST.drewN _ | exact ST.alloc' _ | exact (ST.alloc' _).drewN _ | exact (ST.drewN _).alloc' _))).mono ?_; rintro e w' ⟨x, y, hwx, hwy, rfl, ST⟩))
  all_goals
    go_ret2
    refine ⟨_, _, _, _, ⟨?_, ?_⟩, ⟨?_, ?_⟩, rfl, BE.out.trans (ST.below (by have := BE.out.size; rw [HB.out]; omega))⟩ <;> (first | assumption | exact wf_fop _ _ _ _ _ _ rfl | exact wf_int _ | exact wf_lit (by decide) | (refine wf_neg ?_; first | assumption | exact wf_fop _ _ _ _ _ _ rfl))
end Go.Proofs.Ytpchcigpppdfiaa
