/-
  What the source draws: numbers with codes, lists of wide numbers. No conditions.
-/
import Derived.Test.YtpchcigpppdfiaaSg
import Derived.Test.YtpchcigpppdfiaaWl
namespace Go.Proofs.Ytpchcigpppdfiaa
set_option linter.unusedVariables false
open Go Go.RowKit

section
variable {B : Nat} {a : Option Addr} {len cap b : Nat} {w W : World}
theorem pick_mem (h : Stay B a len cap b w W) (xs : List Int) (t : TypeId) (m : Nat) (hm : m = xs.length) (hm1 : 1 ≤ m) (hm2 : m ≤ 1000) (p : Int → Prop) (hx : ∀ x ∈ xs, p x) (V : World) (hV : V = W.alloc (.cells (xs.map (Value.int .i64)).toArray t)) :
    Calls Try.prog 57 #[.pointer (some ⟨b, 0, none⟩), .slice (some ⟨W.heap.size, 0, none⟩) m m] V (SomeP p B a len cap b w) := by
  subst hm hV
  have h2 := h.alloc' (.cells (xs.map (Value.int .i64)).toArray t)
  have hb := h.src.hi
  refine (pickP_any p B a len cap b W.heap.size xs.length xs.length _ h2.src hm1 hm2 (by simp) (by omega) fun i hi => ?_).mono fun _ _ ⟨x, hp, he, hst⟩ => ⟨x, hp, he, h2.trans hst⟩
  exact ⟨xs[i], hx _ (List.getElem_mem _), by simp [List.getElem?_eq_getElem hi]⟩
end

set_option maxRecDepth 100000 in
set_option maxHeartbeats 400000 in
theorem count_any (B : Nat) (a : Option Addr) (len cap b : Nat) (w W : World) (most : Int) (ST : Stay B a len cap b w W) (h1 : 0 ≤ most) (h2 : most ≤ 1000) :
    Calls Try.prog 58 #[.pointer (some ⟨b, 0, none⟩), .int .i64 most] W (SomeI B a len cap b w) := by
  go_enter Try.func58, Try.ntmps58
  go_wp2_with fail
  refine (next_from (w := w) ST 14 (by omega) (by omega)).mono ?_
  rintro e w' ⟨v, hv, rfl, ST⟩
  go_wp2_with fail
  · clear hv
    refine (pick_from (w := w) (by with_reducible (first | exact ST | exact ST.drewN _ | exact ST.alloc' _ | exact (ST.alloc' _).drewN _ | exact (ST.drewN _).alloc' _)) [-1, most + 1, 1099511627776, -4611686018427387904] _ 4 rfl (by decide) (by decide) (by intro x hx; simp at hx; unfold InI64; omega) _ rfl).mono ?_
    rintro e w' ⟨z, hz1, hz2, rfl, ST⟩
    have HZ := Lib.hid (And.intro hz1 hz2)
    clear hz1 hz2
    go_wp2_with fail
    go_ret
    exact ⟨_, HZ.out.1, HZ.out.2, rfl, (by with_reducible (first | exact ST | exact ST.drewN _ | exact ST.alloc' _ | exact (ST.alloc' _).drewN _ | exact (ST.drewN _).alloc' _))⟩
  · clear hv
    refine (next_from (w := w) ST (most + 1) (by omega) (by omega)).mono ?_
    rintro e w' ⟨v, hv, rfl, ST⟩
    have HV := Lib.hid hv
    clear hv
    go_wp2_with fail
    go_ret
    exact ⟨_, by omega, by have := HV.out; omega, rfl, (by with_reducible (first | exact ST | exact ST.drewN _ | exact ST.alloc' _ | exact (ST.alloc' _).drewN _ | exact (ST.drewN _).alloc' _))⟩

/-- A wide number and a code. -/
def OneK (B : Nat) (w : World) (e : Ending) (w' : World) : Prop :=
  ∃ (x y : Nat) (k : Int), (Wf x ∧ Wf y) ∧ InI64 k ∧ e = .returned (.tuple #[.complex .f64 x y, .int .i64 k]) ∧ Below B w w'
def OneC (B : Nat) (w : World) (e : Ending) (w' : World) : Prop :=
  ∃ (x y : Nat), (Wf x ∧ Wf y) ∧ e = .returned (.complex .f64 x y) ∧ Below B w w'

set_option maxRecDepth 100000 in
set_option maxHeartbeats 400000 in
theorem drawSize (a : Option Addr) (len cap : Nat) (w : World) (hlen : len ≤ 9223372036854775807) (hcode : Code8 w.heap.size a len w) :
    Calls Try.prog 6 #[.slice a len cap] w (OneC w.heap.size w) := by
  have HC := Lib.hid hcode
  have HL := Lib.hid hlen
  clear hcode hlen
  obtain ⟨B, hB⟩ : ∃ B, B = w.heap.size := ⟨_, rfl⟩
  rw [← hB] at HC ⊢
  have HB := Lib.hid hB
  clear hB
  go_enter Try.func6, Try.ntmps6
  go_wp2_with fail
  refine (from_any a len cap w HL.out (by rw [← HB.out]; exact HC.out)).mono ?_
  rintro e w1 ⟨b, rfl, hbel, hsrc⟩
  rw [← HB.out] at hbel hsrc
  have BE := Lib.hid hbel
  clear hbel
  have ST := Stay.refl hsrc
  clear hsrc
  go_wp2_with (go_at_call 44; refine (spoil_any B a len cap b w1 _ (by with_reducible (first | exact ST | exact ST.drewN _ | exact ST.alloc' _ | exact (ST.alloc' _).drewN _ | exact (ST.drewN _).alloc' _))).mono ?_; rintro e w' ⟨x, y, hwx, hwy, rfl, ST⟩)
  go_ret
  refine ⟨_, _, ⟨?_, ?_⟩, rfl, BE.out.trans (ST.below (by have := BE.out.size; rw [HB.out]; omega))⟩ <;> (first | assumption | exact wf_fop _ _ _ _ _ _ rfl | exact wf_int _ | exact wf_lit (by decide) | (refine wf_neg ?_; first | assumption | exact wf_fop _ _ _ _ _ _ rfl))

set_option maxRecDepth 100000 in
set_option maxHeartbeats 400000 in
theorem drawPow (a : Option Addr) (len cap : Nat) (w : World) (hlen : len ≤ 9223372036854775807) (hcode : Code8 w.heap.size a len w) :
    Calls Try.prog 15 #[.slice a len cap] w (OneK w.heap.size w) := by
  have HC := Lib.hid hcode
  have HL := Lib.hid hlen
  clear hcode hlen
  obtain ⟨B, hB⟩ : ∃ B, B = w.heap.size := ⟨_, rfl⟩
  rw [← hB] at HC ⊢
  have HB := Lib.hid hB
  clear hB
  go_enter Try.func15, Try.ntmps15
  go_wp2_with fail
  refine (from_any a len cap w HL.out (by rw [← HB.out]; exact HC.out)).mono ?_
  rintro e w1 ⟨b, rfl, hbel, hsrc⟩
  rw [← HB.out] at hbel hsrc
  have BE := Lib.hid hbel
  clear hbel
  have ST := Stay.refl hsrc
  clear hsrc
  go_wp2_with (go_at_call 44; refine (spoil_any B a len cap b w1 _ (by with_reducible (first | exact ST | exact ST.drewN _ | exact ST.alloc' _ | exact (ST.alloc' _).drewN _ | exact (ST.drewN _).alloc' _))).mono ?_; rintro e w' ⟨x, y, hwx, hwy, rfl, ST⟩)
  refine (count_any B a len cap b w1 _ 8 (by with_reducible (first | exact ST | exact ST.drewN _ | exact ST.alloc' _ | exact (ST.alloc' _).drewN _ | exact (ST.drewN _).alloc' _)) (by decide) (by decide)).mono ?_
  rintro e w' ⟨z, hz1, hz2, rfl, ST⟩
  have HZ := Lib.hid (And.intro hz1 hz2)
  clear hz1 hz2
  go_wp2_with fail
  refine (count_any B a len cap b w1 _ 64 (by with_reducible (first | exact ST | exact ST.drewN _ | exact ST.alloc' _ | exact (ST.alloc' _).drewN _ | exact (ST.drewN _).alloc' _)) (by decide) (by decide)).mono ?_
  rintro e w' ⟨z', hz1, hz2, rfl, ST⟩
  have HZ' := Lib.hid (And.intro hz1 hz2)
  clear hz1 hz2
  go_wp2_with fail
  refine (pick_from (w := w1) (by with_reducible (first | exact ST | exact ST.drewN _ | exact ST.alloc' _ | exact (ST.alloc' _).drewN _ | exact (ST.drewN _).alloc' _)) [z, z'] _ 2 rfl (by decide) (by decide) (by intro x hx; simp at hx; unfold InI64; have := HZ.out; have := HZ'.out; omega) _ rfl).mono ?_
  rintro e w' ⟨q, hz1, hz2, rfl, ST⟩
  have HQ := Lib.hid (And.intro hz1 hz2)
  clear hz1 hz2
  go_wp2_with fail
  go_ret2
  refine ⟨_, _, _, ⟨?_, ?_⟩, HQ.out, rfl, BE.out.trans (ST.below (by have := BE.out.size; rw [HB.out]; omega))⟩ <;> (first | assumption | exact wf_fop _ _ _ _ _ _ rfl | exact wf_int _ | exact wf_lit (by decide) | (refine wf_neg ?_; first | assumption | exact wf_fop _ _ _ _ _ _ rfl))

set_option maxRecDepth 100000 in
set_option maxHeartbeats 400000 in
theorem drawScale (a : Option Addr) (len cap : Nat) (w : World) (hlen : len ≤ 9223372036854775807) (hcode : Code8 w.heap.size a len w) :
    Calls Try.prog 20 #[.slice a len cap] w (OneK w.heap.size w) := by
  have HC := Lib.hid hcode
  have HL := Lib.hid hlen
  clear hcode hlen
  obtain ⟨B, hB⟩ : ∃ B, B = w.heap.size := ⟨_, rfl⟩
  rw [← hB] at HC ⊢
  have HB := Lib.hid hB
  clear hB
  go_enter Try.func20, Try.ntmps20
  go_wp2_with fail
  refine (from_any a len cap w HL.out (by rw [← HB.out]; exact HC.out)).mono ?_
  rintro e w1 ⟨b, rfl, hbel, hsrc⟩
  rw [← HB.out] at hbel hsrc
  have BE := Lib.hid hbel
  clear hbel
  have ST := Stay.refl hsrc
  clear hsrc
  go_wp2_with (go_at_call 44; refine (spoil_any B a len cap b w1 _ (by with_reducible (first | exact ST | exact ST.drewN _ | exact ST.alloc' _ | exact (ST.alloc' _).drewN _ | exact (ST.drewN _).alloc' _))).mono ?_; rintro e w' ⟨x, y, hwx, hwy, rfl, ST⟩)
  refine (next_from (w := w1) (by with_reducible (first | exact ST | exact ST.drewN _ | exact ST.alloc' _ | exact (ST.alloc' _).drewN _ | exact (ST.drewN _).alloc' _)) 21 (by omega) (by omega)).mono ?_
  rintro e w' ⟨v1, hv1, rfl, ST⟩
  go_wp2_with fail
  refine (next_from (w := w1) (by with_reducible (first | exact ST | exact ST.drewN _ | exact ST.alloc' _ | exact (ST.alloc' _).drewN _ | exact (ST.drewN _).alloc' _)) 4401 (by omega) (by omega)).mono ?_
  rintro e w' ⟨v2, hv2, rfl, ST⟩
  go_wp2_with fail
  refine (next_from (w := w1) (by with_reducible (first | exact ST | exact ST.drewN _ | exact ST.alloc' _ | exact (ST.alloc' _).drewN _ | exact (ST.drewN _).alloc' _)) 200 (by omega) (by omega)).mono ?_
  rintro e w' ⟨v3, hv3, rfl, ST⟩
  go_wp2_with fail
  refine (pick_from (w := w1) (by with_reducible (first | exact ST | exact ST.drewN _ | exact ST.alloc' _ | exact (ST.alloc' _).drewN _ | exact (ST.drewN _).alloc' _)) [(v1 : Int) - 10, (v2 : Int) - 2200, (v3 : Int) - 1100, 2201, -2201] _ 5 rfl (by decide) (by decide) (by intro x hx; simp at hx; unfold InI64; omega) _ rfl).mono ?_
  rintro e w' ⟨q, hz1, hz2, rfl, ST⟩
  have HQ := Lib.hid (And.intro hz1 hz2)
  clear hz1 hz2
  go_wp2_with fail
  go_ret2
  refine ⟨_, _, _, ⟨?_, ?_⟩, HQ.out, rfl, BE.out.trans (ST.below (by have := BE.out.size; rw [HB.out]; omega))⟩ <;> (first | assumption | exact wf_fop _ _ _ _ _ _ rfl | exact wf_int _ | exact wf_lit (by decide) | (refine wf_neg ?_; first | assumption | exact wf_fop _ _ _ _ _ _ rfl))
end Go.Proofs.Ytpchcigpppdfiaa
