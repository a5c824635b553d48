/-
  What the source draws: floats and wide numbers, whichever. No conditions. What the source draws: floats, wide numbers, pairs of them. No conditions. Draws of the laws of floats: a float64, a float32, two wide numbers, whichever. Conditions: the code's bytes can be read. What the source draws: floats that are finite. No conditions.
-/
import Derived.Test.YtabpgkkickdopaaSh
import Derived.Test.YtabpgkkickdopaaWb
import Derived.Test.YtabpgkkickdopaaFg
import Derived.Test.YtabpgkkickdopaaSn
import Derived.Test.YtabpgkkickdopaaGc
namespace Go.Proofs.Ytabpgkkickdopaa
set_option linter.unusedVariables false
open Go Go.RowKit

/-- The call returned some float and left the world alone, but for draws. -/
def RetF (w : World) (e : Ending) (w' : World) : Prop := ∃ x n : Nat, Wf x ∧ e = .returned (.float .f64 x) ∧ w' = w.drewN n

set_option maxHeartbeats 400000 in
theorem huge_any (w : World) : Calls Try.prog 98 #[] w (RetF w) := by
  go_enter Try.func98, Try.ntmps98
  go_wp2
  go_ret
  refine ⟨_, _, ?_, rfl, rfl⟩
  (first | assumption | exact wf_fop _ _ _ _ _ _ rfl | exact wf_int _ | exact wf_lit (by decide) | (refine wf_neg ?_; first | assumption | exact wf_fop _ _ _ _ _ _ rfl))

/-- x doubled n times; x halved n times. -/
def up (x : Nat) : Nat → Nat | 0 => x | n + 1 => cf .mul .f64 (up x n) 4611686018427387904
def down (x : Nat) : Nat → Nat | 0 => x | n + 1 => cf .quo .f64 (down x n) 4611686018427387904
def scaled (x : Nat) (k : Int) : Nat := if 0 ≤ k then up x k.toNat else down x (-k).toNat
def RetEC (u v : Nat) (w : World) (e : Ending) (w' : World) : Prop := ∃ x n : Nat, (Wf u → Wf x) ∧ e = .returned (.float .f64 x) ∧ NEq .f64 x v ∧ w' = w.drewN n

set_option maxHeartbeats 400000 in
theorem scale_any (x : Nat) (k : Int) (w : World) (h1 : -9223372036854775808 ≤ k) (h2 : k ≤ 9223372036854775807) : Calls Try.prog 79 #[.float .f64 x, .int .i64 k] w (RetEC x (scaled x k) w) := by
  go_enter Try.func79, Try.ntmps79
  go_wp2
  go_loopw [0, 1] (fun v i wr => ∃ (j : Nat) (y : Nat) (n : Nat), (0 ≤ k → (j : Int) ≤ k) ∧ (k < 0 → j = 0) ∧ v = .float .f64 y ∧ NEq .f64 y (up x j) ∧ (Wf x → Wf y) ∧ i = .int .i64 (k - j) ∧ wr = w.drewN n) (fun _ i _ => (intOf i).toNat)
  case atStart => exact ⟨0, x, 0, by omega, by omega, rfl, NEq.refl _ _, fun h => h, by simp, rfl⟩
  case round =>
    obtain ⟨j, y, n, hj1, hj2, rfl, hy, hw, rfl, rfl⟩ := hrel
    have HY := Lib.hid hy
    have HW := Lib.hid hw
    clear hy hw
    by_cases hk : 0 < k - j
    · go_wp2
      go_roundw
      case rel => exact ⟨j + 1, _, _, by omega, by omega, rfl, (fop_eq _ _ _ _ _ _ _ rfl).trans (.inl (cf_congr HY.out (NEq.refl _ _))), fun _ => wf_fop _ _ _ _ _ _ rfl, by go_num, rfl⟩
      case measure => simp [intOf]; omega
    · go_wp2
      go_loopw [0, 1] (fun v i wr => ∃ (j' : Nat) (y : Nat) (n : Nat), (k < 0 → (j' : Int) ≤ -k) ∧ (0 ≤ k → j' = 0) ∧ v = .float .f64 y ∧ NEq .f64 y (if 0 ≤ k then up x j else down x j') ∧ (Wf x → Wf y) ∧ i = .int .i64 (k - j + j') ∧ wr = w.drewN n) (fun _ i _ => (-(intOf i)).toNat)
      case atStart =>
        refine ⟨0, y, n, by omega, by omega, rfl, ?_, HW.out, by simp, rfl⟩
        split
        · exact HY.out
        · obtain rfl : j = 0 := by omega
          exact HY.out
      case round =>
        obtain ⟨j', y', n', hl1, hl2, rfl, hy, hw, rfl, rfl⟩ := hrel
        have HY' := Lib.hid hy
        have HW' := Lib.hid hw
        clear hy hw
        by_cases hl : k - j + j' < 0
        · go_wp2
          go_roundw
          case rel =>
            refine ⟨j' + 1, _, _, by omega, by omega, rfl, (fop_eq _ _ _ _ _ _ _ rfl).trans (.inl ?_), fun _ => wf_fop _ _ _ _ _ _ rfl, by go_num, rfl⟩
            have h0 : ¬ 0 ≤ k := by omega
            have := HY'.out
            rw [if_neg h0] at this ⊢
            exact cf_congr this (NEq.refl _ _)
          case measure => simp [intOf]; omega
        · go_wp2
          go_ret
          refine ⟨_, _, HW'.out, rfl, ?_, rfl⟩
          have := HY'.out
          unfold scaled
          split
          · rename_i h0
            rw [if_pos h0] at this
            rw [show k.toNat = j by omega]; exact this
          · rename_i h0
            rw [if_neg h0] at this
            rw [show (-k).toNat = j' by omega]; exact this

def SomeF (B : Nat) (a : Option Addr) (len cap : Nat) (b : Nat) (w : World) (e : Ending) (w' : World) : Prop :=
  ∃ x : Nat, Wf x ∧ e = .returned (.float .f64 x) ∧ Stay B a len cap b w w'
def SomeC (B : Nat) (a : Option Addr) (len cap : Nat) (b : Nat) (w : World) (e : Ending) (w' : World) : Prop :=
  ∃ x y : Nat, Wf x ∧ Wf y ∧ e = .returned (.complex .f64 x y) ∧ Stay B a len cap b w w'
section
variable {B : Nat} {a : Option Addr} {len cap b : Nat} {w W : World}
theorem SomeF.from {e : Ending} {w' : World} (h : Stay B a len cap b w W) (g : SomeF B a len cap b W e w') : SomeF B a len cap b w e w' := by
  obtain ⟨x, hw, he, hst⟩ := g
  exact ⟨x, hw, he, h.trans hst⟩
theorem SomeC.from {e : Ending} {w' : World} (h : Stay B a len cap b w W) (g : SomeC B a len cap b W e w') : SomeC B a len cap b w e w' := by
  obtain ⟨x, y, hx, hy, he, hst⟩ := g
  exact ⟨x, y, hx, hy, he, h.trans hst⟩
end

set_option maxHeartbeats 400000 in
theorem strange_any (B : Nat) (a : Option Addr) (len cap b : Nat) (w W : World) (ST : Stay B a len cap b w W) :
    Calls Try.prog 82 #[.pointer (some ⟨b, 0, none⟩)] W (SomeF B a len cap b w) := by
  go_enter Try.func82, Try.ntmps82
  go_wp2_with (first | (go_at_call 98; refine (huge_any _).mono ?_; rintro e w' ⟨x0, n0, hw0, rfl, rfl⟩) | (go_at_call 41; refine (next_from (by with_reducible (first | exact ST | exact ST.drewN _ | exact ST.alloc' _ | exact (ST.alloc' _).drewN _ | exact (ST.drewN _).alloc' _)) _ (by omega) (by omega)).mono ?_; rintro e w' ⟨v, hv, rfl, ST⟩))
  all_goals
    go_ret
    refine ⟨_, ?_, rfl, (by with_reducible (first | exact ST | exact ST.drewN _ | exact ST.alloc' _ | exact (ST.alloc' _).drewN _ | exact (ST.drewN _).alloc' _))⟩
    (first | assumption | exact wf_fop _ _ _ _ _ _ rfl | exact wf_int _ | exact wf_lit (by decide) | (refine wf_neg ?_; first | assumption | exact wf_fop _ _ _ _ _ _ rfl))

set_option maxRecDepth 100000 in
set_option maxHeartbeats 400000 in
theorem bits_any (B : Nat) (a : Option Addr) (len cap b : Nat) (w W : World) (ST : Stay B a len cap b w W) :
    Calls Try.prog 99 #[.pointer (some ⟨b, 0, none⟩)] W (SomeF B a len cap b w) := by
  go_enter Try.func99, Try.ntmps99
  go_wp2_with fail
  refine (next_from (w := w) ST _ (by omega) (by omega)).mono ?_
  rintro e w' ⟨v, hv, rfl, ST⟩
  clear hv
  go_wp2_with fail
  refine (next_from (w := w) (by with_reducible (first | exact ST | exact ST.drewN _ | exact ST.alloc' _ | exact (ST.alloc' _).drewN _ | exact (ST.drewN _).alloc' _)) _ (by omega) (by omega)).mono ?_
  rintro e w' ⟨v', hv', rfl, ST⟩
  clear hv'
  go_wp2_with fail
  refine (next_from (w := w) (by with_reducible (first | exact ST | exact ST.drewN _ | exact ST.alloc' _ | exact (ST.alloc' _).drewN _ | exact (ST.drewN _).alloc' _)) _ (by omega) (by omega)).mono ?_
  rintro e w' ⟨v3, hv3, rfl, ST⟩
  go_wp2_with fail
  all_goals
    refine (next_from (w := w) (by with_reducible (first | exact ST | exact ST.drewN _ | exact ST.alloc' _ | exact (ST.alloc' _).drewN _ | exact (ST.drewN _).alloc' _)) _ (by omega) (by omega)).mono ?_
    rintro e w' ⟨v4, hv4, rfl, ST⟩
    go_wp2_with fail
    refine (next_from (w := w) (by with_reducible (first | exact ST | exact ST.drewN _ | exact ST.alloc' _ | exact (ST.alloc' _).drewN _ | exact (ST.drewN _).alloc' _)) _ (by omega) (by omega)).mono ?_
    rintro e w' ⟨v5, hv5, rfl, ST⟩
    go_wp2_with fail
    refine (pick_from (w := w) (by with_reducible (first | exact ST | exact ST.drewN _ | exact ST.alloc' _ | exact (ST.alloc' _).drewN _ | exact (ST.drewN _).alloc' _)) [0, -24, -23, -30, 10, (v4 : Int) - 40, (v5 : Int) - 1080, 990, -1060, 102, -149] _ 11 rfl (by decide) (by decide) (by intro x hx; simp at hx; unfold InI64; omega) _ rfl).mono ?_
    rintro e w' ⟨z, hz1, hz2, rfl, ST⟩
    have HZ := Lib.hid (And.intro hz1 hz2)
    clear hz1 hz2
    go_wp2_with fail
    refine (scale_any _ z _ HZ.out.1 HZ.out.2).mono ?_
    rintro e w' ⟨y, n, hw0, rfl, hy, rfl⟩
    have hw1 : Wf y := hw0 (by (first | assumption | exact wf_fop _ _ _ _ _ _ rfl | exact wf_int _ | exact wf_lit (by decide) | (refine wf_neg ?_; first | assumption | exact wf_fop _ _ _ _ _ _ rfl)))
    clear hw0 hy
    go_wp2_with fail
    go_ret
    refine ⟨_, ?_, rfl, (by with_reducible (first | exact ST | exact ST.drewN _ | exact ST.alloc' _ | exact (ST.alloc' _).drewN _ | exact (ST.drewN _).alloc' _))⟩
    (first | assumption | exact wf_fop _ _ _ _ _ _ rfl | exact wf_int _ | exact wf_lit (by decide) | (refine wf_neg ?_; first | assumption | exact wf_fop _ _ _ _ _ _ rfl))

set_option maxRecDepth 100000 in
set_option maxHeartbeats 400000 in
theorem float_any (B : Nat) (a : Option Addr) (len cap b : Nat) (w W : World) (ST : Stay B a len cap b w W) :
    Calls Try.prog 81 #[.pointer (some ⟨b, 0, none⟩)] W (SomeF B a len cap b w) := by
  go_enter Try.func81, Try.ntmps81
  go_wp2_with fail
  refine (next_from (w := w) ST _ (by omega) (by omega)).mono ?_
  rintro e w' ⟨v, hv, rfl, ST⟩
  go_wp2_with fail
  iterate 3
   · clear hv
     refine (next_from (w := w) ST 21 (by omega) (by omega)).mono ?_
     rintro e w' ⟨v, hv, rfl, ST⟩
     go_wp2_with fail
     go_ret
     refine ⟨_, ?_, rfl, (by with_reducible (first | exact ST | exact ST.drewN _ | exact ST.alloc' _ | exact (ST.alloc' _).drewN _ | exact (ST.drewN _).alloc' _))⟩
     (first | assumption | exact wf_fop _ _ _ _ _ _ rfl | exact wf_int _ | exact wf_lit (by decide) | (refine wf_neg ?_; first | assumption | exact wf_fop _ _ _ _ _ _ rfl))
  iterate 2
   · clear hv
     refine (next_from (w := w) ST 257 (by omega) (by omega)).mono ?_
     rintro e w' ⟨v, hv, rfl, ST⟩
     go_wp2_with fail
     refine (pick_some (w := w) (by with_reducible (first | exact ST | exact ST.drewN _ | exact ST.alloc' _ | exact (ST.alloc' _).drewN _ | exact (ST.drewN _).alloc' _)) [2, 4, 8, 16, 3, 10] _ 6 rfl (by decide) (by decide) (by intro x hx; simp at hx; unfold InI64; omega) _ rfl).mono ?_
     rintro e w' ⟨z, rfl, ST⟩
     go_wp2_with fail
     go_ret
     refine ⟨_, ?_, rfl, (by with_reducible (first | exact ST | exact ST.drewN _ | exact ST.alloc' _ | exact (ST.alloc' _).drewN _ | exact (ST.drewN _).alloc' _))⟩
     (first | assumption | exact wf_fop _ _ _ _ _ _ rfl | exact wf_int _ | exact wf_lit (by decide) | (refine wf_neg ?_; first | assumption | exact wf_fop _ _ _ _ _ _ rfl))
  · clear hv
    refine (next_from (w := w) ST 2000001 (by omega) (by omega)).mono ?_
    rintro e w' ⟨v, hv, rfl, ST⟩
    go_wp2_with fail
    refine (pick_some (w := w) (by with_reducible (first | exact ST | exact ST.drewN _ | exact ST.alloc' _ | exact (ST.alloc' _).drewN _ | exact (ST.drewN _).alloc' _)) [1, 1000, 1048576] _ 3 rfl (by decide) (by decide) (by intro x hx; simp at hx; unfold InI64; omega) _ rfl).mono ?_
    rintro e w' ⟨z, rfl, ST⟩
    go_wp2_with fail
    go_ret
    refine ⟨_, ?_, rfl, (by with_reducible (first | exact ST | exact ST.drewN _ | exact ST.alloc' _ | exact (ST.alloc' _).drewN _ | exact (ST.drewN _).alloc' _))⟩
    (first | assumption | exact wf_fop _ _ _ _ _ _ rfl | exact wf_int _ | exact wf_lit (by decide) | (refine wf_neg ?_; first | assumption | exact wf_fop _ _ _ _ _ _ rfl))
  · clear hv
    refine (next_from (w := w) ST 2 (by omega) (by omega)).mono ?_
    rintro e w' ⟨v, hv, rfl, ST⟩
    go_wp2_with (go_at_call 98; refine (huge_any _).mono ?_; rintro e w' ⟨x0, n0, hw0, rfl, rfl⟩)
    all_goals
      go_ret
      refine ⟨_, ?_, rfl, (by with_reducible (first | exact ST | exact ST.drewN _ | exact ST.alloc' _ | exact (ST.alloc' _).drewN _ | exact (ST.drewN _).alloc' _))⟩
      (first | assumption | exact wf_fop _ _ _ _ _ _ rfl | exact wf_int _ | exact wf_lit (by decide) | (refine wf_neg ?_; first | assumption | exact wf_fop _ _ _ _ _ _ rfl))
  · refine (bits_any B a len cap b w _ ST).mono ?_
    rintro e w' ⟨z, hz, rfl, ST⟩
    go_wp2_with fail
    go_ret
    refine ⟨_, ?_, rfl, (by with_reducible (first | exact ST | exact ST.drewN _ | exact ST.alloc' _ | exact (ST.alloc' _).drewN _ | exact (ST.drewN _).alloc' _))⟩
    (first | assumption | exact wf_fop _ _ _ _ _ _ rfl | exact wf_int _ | exact wf_lit (by decide) | (refine wf_neg ?_; first | assumption | exact wf_fop _ _ _ _ _ _ rfl))

set_option maxRecDepth 100000 in
set_option maxHeartbeats 400000 in
theorem draw_any (B : Nat) (a : Option Addr) (len cap b : Nat) (w W : World) (ST : Stay B a len cap b w W) :
    Calls Try.prog 91 #[.pointer (some ⟨b, 0, none⟩)] W (SomeC B a len cap b w) := by
  go_enter Try.func91, Try.ntmps91
  go_wp2_with (first | (go_at_call 41; refine (next_from (by with_reducible (first | exact ST | exact ST.drewN _ | exact ST.alloc' _ | exact (ST.alloc' _).drewN _ | exact (ST.drewN _).alloc' _)) _ (by omega) (by omega)).mono ?_; rintro e w' ⟨v, hv, rfl, ST⟩) | (go_at_call 81; refine (float_any B a len cap b w _ (by with_reducible (first | exact ST | exact ST.drewN _ | exact ST.alloc' _ | exact (ST.alloc' _).drewN _ | exact (ST.drewN _).alloc' _))).mono ?_; rintro e w' ⟨x, hwx, rfl, ST⟩))
  all_goals
    go_ret
    refine ⟨_, _, ?_, ?_, rfl, (by with_reducible (first | exact ST | exact ST.drewN _ | exact ST.alloc' _ | exact (ST.alloc' _).drewN _ | exact (ST.drewN _).alloc' _))⟩ <;> (first | assumption | exact wf_fop _ _ _ _ _ _ rfl | exact wf_int _ | exact wf_lit (by decide) | (refine wf_neg ?_; first | assumption | exact wf_fop _ _ _ _ _ _ rfl))

set_option maxRecDepth 100000 in
set_option maxHeartbeats 400000 in
theorem spoil_any (B : Nat) (a : Option Addr) (len cap b : Nat) (w W : World) (ST : Stay B a len cap b w W) :
    Calls Try.prog 44 #[.pointer (some ⟨b, 0, none⟩)] W (SomeC B a len cap b w) := by
  go_enter Try.func44, Try.ntmps44
  go_wp2_with (first | (go_at_call 41; refine (next_from (by with_reducible (first | exact ST | exact ST.drewN _ | exact ST.alloc' _ | exact (ST.alloc' _).drewN _ | exact (ST.drewN _).alloc' _)) _ (by omega) (by omega)).mono ?_; rintro e w' ⟨v, hv, rfl, ST⟩) | (go_at_call 82; refine (strange_any B a len cap b w _ (by with_reducible (first | exact ST | exact ST.drewN _ | exact ST.alloc' _ | exact (ST.alloc' _).drewN _ | exact (ST.drewN _).alloc' _))).mono ?_; rintro e w' ⟨x, hwx, rfl, ST⟩) | (go_at_call 91; refine (draw_any B a len cap b w _ (by with_reducible (first | exact ST | exact ST.drewN _ | exact ST.alloc' _ | exact (ST.alloc' _).drewN _ | exact (ST.drewN _).alloc' _))).mono ?_; rintro e w' ⟨x, y, hwx, hwy, rfl, ST⟩))
  all_goals
    go_ret
    refine ⟨_, _, ?_, ?_, rfl, (by with_reducible (first | exact ST | exact ST.drewN _ | exact ST.alloc' _ | exact (ST.alloc' _).drewN _ | exact (ST.drewN _).alloc' _))⟩ <;> (first | assumption | exact wf_fop _ _ _ _ _ _ rfl | exact wf_int _ | exact wf_lit (by decide) | (refine wf_neg ?_; first | assumption | exact wf_fop _ _ _ _ _ _ rfl))

/-- Two wide numbers, whichever; memory below B as it was. -/
def TwoC (B : Nat) (w : World) (e : Ending) (w' : World) : Prop :=
  ∃ x y z u : Nat, (Wf x ∧ Wf y) ∧ (Wf z ∧ Wf u) ∧ e = .returned (.tuple #[.complex .f64 x y, .complex .f64 z u]) ∧ Below B w w'

theorem wfN_encode (d : Ieee.Datum) : FloatKind.f32.encode d < 2 ^ 32 := by
  have h := FloatKind.f32.format.write_lt d
  have e : 2 * FloatKind.f32.format.signWeight = 2 ^ 32 := by decide
  first
  | exact h
  | (rw [e] at h; exact h)
  | exact Nat.lt_of_lt_of_le h (by decide)
theorem nanN_lt (x t : Nat) : (Question.nanConv .f32 x).cut t < 2 ^ 32 := by
  have h2 : (t / 2) % (2 ^ 23 - 1) < 2 ^ 23 - 1 := Nat.mod_lt _ (by omega)
  have h1 : t % 2 < 2 := Nat.mod_lt _ (by omega)
  simp only [Question.cut]
  revert h1 h2
  generalize (t / 2) % (2 ^ 23 - 1) = r
  generalize t % 2 = s
  intro h1 h2
  omega
/-- A float64 made narrow: some float32, whichever. -/
theorem ffN_ex (P : Program) (w : World) (x : Nat) : ∃ r : Nat × Nat, (Conv.floatToFloat .f64 x .f32).run P w = .ok (.float .f32 r.1) (w.drewN r.2) ∧ r.1 < 2 ^ 32 := by
  unfold Conv.floatToFloat
  rw [if_neg (by decide)]
  cases e : FloatKind.f64.decode x with
  | nan s f =>
    exact ⟨((Question.nanConv .f32 x).cut (w.tape w.drawn (.nanConv .f32 x)), 1), by simp [Question.forced, World.drew_is_drewN], nanN_lt x _⟩
  | infinity s =>
    exact ⟨(FloatKind.f32.encode (.infinity s), 0), by simp <;> rfl, wfN_encode (.infinity s)⟩
  | number s m i =>
    by_cases h : (FloatKind.f32.decode (FloatKind.f32.encode (.number s m i))).isInfinity = true
    · refine ⟨((Question.floatToFloat x).cut (w.tape w.drawn (.floatToFloat x)), 1), ?_, Nat.mod_lt _ (by decide)⟩
      simp [h, Question.forced, World.drew_is_drewN]
    · refine ⟨(FloatKind.f32.encode (.number s m i), 0), ?_, wfN_encode (.number s m i)⟩
      simp [h] <;> rfl
theorem ccN_ex (P : Program) (w : World) (src dst : TypeId) (hs : (P.underlying src).isSome = true) (hd : P.underlying dst = some (.complex .f32)) (x y : Nat) : ∃ r : Nat × Nat × Nat, (convert src dst (.complex .f64 x y)).run P w = .ok (.complex .f32 r.1 r.2.1) (w.drewN r.2.2) ∧ r.1 < 2 ^ 32 ∧ r.2.1 < 2 ^ 32 := by
  obtain ⟨⟨r1, n1⟩, h1, g1⟩ := ffN_ex P w x
  obtain ⟨⟨r2, n2⟩, h2, g2⟩ := ffN_ex P (w.drewN n1) y
  obtain ⟨u, hs'⟩ := Option.isSome_iff_exists.1 hs
  refine ⟨(r1, r2, n1 + n2), ?_, g1, g2⟩
  simp only [World.drewN_drewN] at h2
  cases u <;> simp [convert, run_underlying hs', run_underlying hd, Conv.complexToComplex, h1, h2]
open Go Go.RowKit Ieee

/-- 2^24 goes into a float by its place. -/
theorem q24_fw (s : Bool) {m : Nat} {i : Int} (h : Fit m i) : floatBits .quo .f64 (fw s m i) 4715268809856909312 = some (fw s m (i - 24)) := by
  obtain ⟨k, hr, hc⟩ := read_fw s h
  have ht : f64.read 4715268809856909312 = .number false (2 ^ 52) (-28) := by decide +kernel
  show Format.div f64 _ _ = _
  unfold Format.div
  rw [hr, ht]
  have hM : m * 2 ^ k < 2 ^ 53 := by
    have := hc.2.1
    rw [f64_bin] at this
    omega
  rw [show fw s m (i - 24) = fw s (m * 2 ^ k) (i - 24 - k) from (fw_shift s m (i - 24) k).symm]
  generalize m * 2 ^ k = M at hM
  have hl : M.log2 ≤ 52 := by
    by_cases hm : M = 0
    · subst hm; decide
    · have l1 := log_le hm
      have : 2 ^ M.log2 < 2 ^ 53 := by omega
      have := (Nat.pow_lt_pow_iff_right (by omega : 1 < 2)).1 this
      omega
  have hn : ¬ (2 ^ 52 = (0 : Nat)) := by omega
  simp only [Datum.quotient, hn, if_false, Option.map_some, Format.write]
  congr 1
  rw [show (2 ^ 52 : Nat).log2 = 52 from by decide +kernel, f64_fb]
  obtain ⟨e, he⟩ : ∃ e : Nat, 52 + 2 + 52 - M.log2 = e + 54 := ⟨52 - M.log2, by omega⟩
  rw [he, nearest_rung, Nat.shiftLeft_eq]
  have hd : M * 2 ^ (e + 54) = M * 2 ^ (e + 2) * 2 ^ 52 := by
    have h1 : e + 54 = (e + 2) + 52 := by omega
    rw [h1, Nat.pow_add 2 (e + 2) 52, Nat.mul_assoc]
  rw [hd, Nat.mul_div_cancel _ (Nat.two_pow_pos 52), Nat.mul_mod_left]
  have hx : (s ^^ false) = s := by cases s <;> rfl
  rw [hx]
  have h0 : ((0 : Nat) != 0).toNat = 0 := rfl
  have h3 : 2 * (M * 2 ^ (e + 2)) = M * 2 ^ (e + 3) := by
    have h1 : e + 3 = (e + 2) + 1 := by omega
    rw [h1, Nat.pow_succ 2 (e + 2)]
    generalize 2 ^ (e + 2) = p
    rw [Nat.mul_comm 2, Nat.mul_assoc]
  rw [h0, Nat.add_zero, h3]
  have h4 : i - (k : Int) - -28 - ((e + 54 : Nat) : Int) - 1 = i - 24 - (k : Int) - ((e + 3 : Nat) : Int) := by omega
  rw [h4, rungOf_shift]
  rfl
/-- Half of a finite float is finite. -/
theorem half_fin {x : Nat} (hx : x < 2 ^ 64) (h : isF .f64 x = true) : ∃ y, floatBits .quo .f64 x 4611686018427387904 = some y ∧ isF .f64 y = true ∧ y < 2 ^ 64 := by
  obtain ⟨s, m, i, rfl, hf, hc⟩ := fin_fw hx h
  refine ⟨_, half_fw s hf, ?_, fw_lt _ _ _⟩
  rw [isF_rung] at h ⊢
  have h1 := of_decide_eq_true h
  have h2 : rawRung f64 m (i - 1) ≤ rawRung f64 m i := rawRung_mono f64 (c := i - 1) (Int.le_refl _) (by omega) (Nat.mul_le_mul_left _ (Nat.pow_le_pow_right (by omega) (by omega)))
  exact decide_eq_true (Nat.lt_of_le_of_lt h2 h1)
theorem neg_fwF (m : Nat) (i : Int) : Op.negFloat .f64 (fw false m i) = fw true m i := by
  have e2 : (2 : Nat) ^ (FloatKind.f64.format.exponentBits + FloatKind.f64.format.fractionBits) = 2 ^ 63 := by decide
  have hl := fw_false_lt m i
  obtain ⟨h1, h2⟩ := xor_high (fw false m i) 63
  have h3 : Op.negFloat .f64 (fw false m i) < 2 ^ 64 := by
    unfold Op.negFloat
    rw [e2]
    exact Nat.xor_lt_two_pow (by omega) (by decide)
  have h4 := word_parts h3
  rw [h4]
  unfold Op.negFloat
  rw [e2, h1, h2, Nat.div_eq_of_lt hl, Nat.mod_eq_of_lt hl]
  have h5 : fw false m i = rungOf m i := by
    unfold fw Format.word
    rw [if_neg (by decide)]
  rw [h5]
  rfl
theorem int_fin (n : Int) (h1 : -9007199254740992 < n) (h2 : n < 9007199254740992) : isF .f64 (floatOfInt .f64 n) = true := by
  rw [ofInt_fw]
  exact isF_fw _ (Fit.of (by omega) (by omega) (by omega))
theorem mul_ints (m n : Int) (h1 : -9007199254740992 < m) (h2 : m < 9007199254740992) (h3 : -9007199254740992 < n) (h4 : n < 9007199254740992) (h5 : m.natAbs * n.natAbs < 2 ^ 53) : ∃ y, floatBits .mul .f64 (floatOfInt .f64 m) (floatOfInt .f64 n) = some y ∧ isF .f64 y = true ∧ y < 2 ^ 64 := by
  rw [ofInt_fw, ofInt_fw]
  refine ⟨_, mul_fw _ _ (Fit.of (by omega) (by omega) (by omega)) (Fit.of (by omega) (by omega) (by omega)), ?_, fw_lt _ _ _⟩
  exact isF_fw _ (Fit.of h5 (by omega) (by omega))
def quoOk (m n : Int) : Bool := match floatBits .quo .f64 (floatOfInt .f64 m) (floatOfInt .f64 n) with | some y => isF .f64 y | none => false
theorem quo_all : ((List.range 257).all fun v => [2, 4, 8, 16, 3, 10].all fun z => quoOk ((v : Int) - 128) z) = true := by decide +kernel
theorem quo_ints (v : Nat) (z : Int) (hv : v < 257) (hz : z ∈ [2, 4, 8, 16, 3, 10]) : ∃ y, floatBits .quo .f64 (floatOfInt .f64 ((v : Int) - 128)) (floatOfInt .f64 z) = some y ∧ isF .f64 y = true ∧ y < 2 ^ 64 := by
  have h1 := List.all_eq_true.1 quo_all v (List.mem_range.2 hv)
  have h2 := List.all_eq_true.1 h1 z hz
  unfold quoOk at h2
  split at h2
  · rename_i y e
    refine ⟨y, e, h2, ?_⟩
    have := floatBits_wf e
    simpa [Lit.wf] using this
  · cases h2
/-- The float of two drawn numbers. -/
theorem bits_val {v u : Nat} (hv : v < 16777216) (hu : u < 16777216) : ∃ y, floatBits .quo .f64 (floatOfInt .f64 (u : Int)) 4715268809856909312 = some y ∧ floatBits .add .f64 (floatOfInt .f64 (v : Int)) y = some (fw false (v * 16777216 + u) (-24)) := by
  have e1 : ∀ n : Nat, floatOfInt .f64 (n : Int) = fw false n 0 := fun n => by
    rw [ofInt_fw, decide_eq_false (by omega)]; rfl
  rw [e1, e1]
  refine ⟨_, q24_fw false (Fit.of (by omega) (by omega) (by omega)), ?_⟩
  have h := add_fw false false (m := v) (n := u) (i := 0) (j := 0 - 24) (d := -24) (Fit.of (by omega) (by omega) (by omega)) (Fit.of (by omega) (by omega) (by omega)) (by omega) (by omega) _ rfl
  rw [h]
  have hs : vz false v 0 (-24) + vz false u (0 - 24) (-24) = ((v * 16777216 + u : Nat) : Int) := by
    unfold vz
    rw [signed_false, signed_false]
    rw [show (0 - (-24 : Int)).toNat = 24 from rfl, show ((0 : Int) - 24 - -24).toNat = 0 from rfl, Nat.pow_zero, show (2 : Nat) ^ 24 = 16777216 from rfl]
    omega
  rw [hs]
  generalize v * 16777216 + u = n
  have h9 : (if ((n : Nat) : Int) = 0 then false && false else decide (((n : Nat) : Int) < 0)) = false := by
    split
    · rfl
    · exact decide_eq_false (by omega)
  rw [h9, Int.natAbs_natCast]
/-- A float of this form stays finite where it is doubled so often. -/
structure Upable (m : Nat) (i k : Int) : Prop where
  bits : m < 2 ^ 48
  low : -1074 ≤ i
  high : i ≤ 900
  top : 0 ≤ k → i + k ≤ 976
theorem up_fin {m : Nat} {i k j : Int} (h : Upable m i k) (hj : 0 ≤ j) (hk : j ≤ k) : Fit m (i + j) := by
  have h1 := h.bits
  have h2 := h.low
  have h3 := h.top (by omega)
  refine ⟨by omega, by omega, ?_⟩
  have h4 : 2 ^ (i + j - 971).toNat ≤ 2 ^ 5 := Nat.pow_le_pow_right (by omega) (by omega)
  have h5 := Nat.mul_le_mul_left m h4
  omega

set_option maxHeartbeats 400000 in
theorem scale_fin (s : Bool) (m : Nat) (i k : Int) (w : World) (h : Upable m i k) (h1 : -9223372036854775808 ≤ k) (h2 : k ≤ 9223372036854775807) : Calls Try.prog 79 #[.float .f64 (fw s m i), .int .i64 k] w fun e w' => ∃ y, isF .f64 y = true ∧ y < 2 ^ 64 ∧ e = .returned (.float .f64 y) ∧ w = w' := by
  have HU := Lib.hid h
  clear h
  go_enter Try.func79, Try.ntmps79
  go_wp2
  go_loopw [0, 1] (fun v i' wr => ∃ (j : Nat), (0 ≤ k → (j : Int) ≤ k) ∧ (k < 0 → j = 0) ∧ v = .float .f64 (fw s m (i + j)) ∧ i' = .int .i64 (k - j) ∧ w = wr) (fun _ i' _ => (intOf i').toNat)
  case atStart => exact ⟨0, by omega, by omega, by simp, by simp, by trivial⟩
  case round =>
    obtain ⟨j, hj1, hj2, rfl, rfl, rfl⟩ := hrel
    by_cases hk : 0 < k - j
    · have hd : ∀ W : World, (binOp .mul 42 (.float .f64 (fw s m (i + j))) (.float .f64 4611686018427387904)).run Try.prog W = .ok (.float .f64 (fw s m (i + j + 1))) W := fun W => run_float_arith W _ _ _ _ _ _ (dbl_fw s (by have := HU.out.bits; omega) (by have := HU.out.low; omega))
      go_wp2
      go_roundw
      case rel => exact ⟨j + 1, by omega, by omega, by rw [show i + ((j + 1 : Nat) : Int) = i + j + 1 by omega], by go_num, by trivial⟩
      case measure => simp [intOf]; omega
    · obtain ⟨y, hy⟩ : ∃ y, fw s m (i + j) = y := ⟨_, rfl⟩
      have hyF : isF .f64 y = true := by
        rw [← hy]
        have := HU.out.bits
        have := HU.out.low
        have := HU.out.high
        rcases Int.lt_or_le k 0 with hk0 | hk0
        · rw [hj2 hk0]
          exact isF_fw s (Fit.of (by omega) (by omega) (by omega))
        · exact isF_fw s (up_fin HU.out (by omega) (hj1 hk0))
      have hyL : y < 2 ^ 64 := by rw [← hy]; exact fw_lt _ _ _
      rw [hy]
      have HYF := Lib.hid hyF
      have HYL := Lib.hid hyL
      clear hy hyF hyL
      go_wp2
      go_loopw [0, 1] (fun v i' wr => ∃ (j' : Nat) (y : Nat), (k < 0 → (j' : Int) ≤ -k) ∧ (0 ≤ k → j' = 0) ∧ v = .float .f64 y ∧ isF .f64 y = true ∧ y < 2 ^ 64 ∧ i' = .int .i64 (k - j + j') ∧ w = wr) (fun _ i' _ => (-(intOf i')).toNat)
      case atStart => exact ⟨0, y, by omega, by omega, rfl, HYF.out, HYL.out, by simp, by trivial⟩
      case round =>
        obtain ⟨j', y', hl1, hl2, rfl, hf, hy, rfl, rfl⟩ := hrel
        by_cases hl : k - j + j' < 0
        · obtain ⟨z, hz, hzF, hzL⟩ := half_fin hy hf
          have hd : ∀ W : World, (binOp .quo 42 (.float .f64 y') (.float .f64 4611686018427387904)).run Try.prog W = .ok (.float .f64 z) W := fun W => run_float_arith W _ _ _ _ _ _ hz
          have HZ := Lib.hid (And.intro hzF hzL)
          clear hz hzF hzL hf hy
          go_wp2
          go_roundw
          case rel => exact ⟨j' + 1, z, by omega, by omega, rfl, HZ.out.1, HZ.out.2, by go_num, by trivial⟩
          case measure => simp [intOf]; omega
        · have HY := Lib.hid (And.intro hf hy)
          clear hf hy
          go_wp2
          go_ret
          exact ⟨_, HY.out.1, HY.out.2, rfl, rfl⟩

def SomeFF (B : Nat) (a : Option Addr) (len cap : Nat) (b : Nat) (w : World) (e : Ending) (w' : World) : Prop :=
  ∃ x : Nat, isF .f64 x = true ∧ x < 2 ^ 64 ∧ e = .returned (.float .f64 x) ∧ Stay B a len cap b w w'
def SomeCF (B : Nat) (a : Option Addr) (len cap : Nat) (b : Nat) (w : World) (e : Ending) (w' : World) : Prop :=
  ∃ x y : Nat, (isF .f64 x = true ∧ x < 2 ^ 64) ∧ (isF .f64 y = true ∧ y < 2 ^ 64) ∧ e = .returned (.complex .f64 x y) ∧ Stay B a len cap b w w'

set_option maxRecDepth 100000 in
set_option maxHeartbeats 800000 in
theorem bits_fin (B : Nat) (a : Option Addr) (len cap b : Nat) (w W : World) (ST : Stay B a len cap b w W) :
    Calls Try.prog 99 #[.pointer (some ⟨b, 0, none⟩)] W (SomeFF B a len cap b w) := by
  go_enter Try.func99, Try.ntmps99
  go_wp2_with fail
  refine (next_from (w := w) ST _ (by omega) (by omega)).mono ?_
  rintro e w' ⟨v, hv, rfl, ST⟩
  go_wp2_with fail
  refine (next_from (w := w) (by with_reducible (first | exact ST | exact ST.drewN _ | exact ST.alloc' _ | exact (ST.alloc' _).drewN _ | exact (ST.drewN _).alloc' _)) _ (by omega) (by omega)).mono ?_
  rintro e w' ⟨v', hv', rfl, ST⟩
  obtain ⟨y, hy1, hy2⟩ := bits_val (show v < 16777216 by omega) (show v' < 16777216 by omega)
  have hq : ∀ W : World, (binOp .quo 42 (.float .f64 (floatOfInt .f64 (v' : Int))) (.float .f64 4715268809856909312)).run Try.prog W = .ok (.float .f64 y) W := fun W => run_float_arith W _ _ _ _ _ _ hy1
  have ha : ∀ W : World, (binOp .add 42 (.float .f64 (floatOfInt .f64 (v : Int))) (.float .f64 y)).run Try.prog W = .ok (.float .f64 (fw false (v * 16777216 + v') (-24))) W := fun W => run_float_arith W _ _ _ _ _ _ hy2
  have hM : v * 16777216 + v' < 2 ^ 48 := by omega
  obtain ⟨M, hM2⟩ : ∃ M, v * 16777216 + v' = M := ⟨_, rfl⟩
  rw [hM2] at ha hM
  have HM := Lib.hid hM
  clear hv hv' hy1 hy2 hM hM2
  go_wp2_with fail
  refine (next_from (w := w) (by with_reducible (first | exact ST | exact ST.drewN _ | exact ST.alloc' _ | exact (ST.alloc' _).drewN _ | exact (ST.drewN _).alloc' _)) _ (by omega) (by omega)).mono ?_
  rintro e w' ⟨v3, hv3, rfl, ST⟩
  go_wp2_with fail
  all_goals
    first | rw [neg_fwF] | skip
    refine (next_from (w := w) (by with_reducible (first | exact ST | exact ST.drewN _ | exact ST.alloc' _ | exact (ST.alloc' _).drewN _ | exact (ST.drewN _).alloc' _)) _ (by omega) (by omega)).mono ?_
    rintro e w' ⟨v4, hv4, rfl, ST⟩
    go_wp2_with fail
    refine (next_from (w := w) (by with_reducible (first | exact ST | exact ST.drewN _ | exact ST.alloc' _ | exact (ST.alloc' _).drewN _ | exact (ST.drewN _).alloc' _)) _ (by omega) (by omega)).mono ?_
    rintro e w' ⟨v5, hv5, rfl, ST⟩
    go_wp2_with fail
    refine (pickP_from (w := w) (fun z => -1100 ≤ z ∧ z ≤ 999) (by with_reducible (first | exact ST | exact ST.drewN _ | exact ST.alloc' _ | exact (ST.alloc' _).drewN _ | exact (ST.drewN _).alloc' _)) [0, -24, -23, -30, 10, (v4 : Int) - 40, (v5 : Int) - 1080, 990, -1060, 102, -149] _ 11 rfl (by decide) (by decide) (by intro x hx; simp at hx; omega) _ rfl).mono ?_
    rintro e w' ⟨z, hz, rfl, ST⟩
    have HZ := Lib.hid hz
    clear hz hv4 hv5
    go_wp2_with fail
    refine (scale_fin _ M (-24) z _ ⟨HM.out, by omega, by omega, by have := HZ.out; omega⟩ (by have := HZ.out; omega) (by have := HZ.out; omega)).mono ?_
    rintro e w' ⟨y9, hy1, hy2, rfl, rfl⟩
    have HY := Lib.hid (And.intro hy1 hy2)
    clear hy1 hy2
    go_wp2_with fail
    go_ret
    exact ⟨_, HY.out.1, HY.out.2, rfl, (by with_reducible (first | exact ST | exact ST.drewN _ | exact ST.alloc' _ | exact (ST.alloc' _).drewN _ | exact (ST.drewN _).alloc' _))⟩

theorem quo_negone : ∃ y, floatBits .mul .f64 9214871658872686752 4621819117588971520 = some 9218868437227405312 ∧ floatBits .quo .f64 13830554455654793216 9218868437227405312 = some y ∧ isF .f64 y = true ∧ y < 2 ^ 64 := ⟨9223372036854775808, by decide +kernel, by decide +kernel, by decide +kernel, by decide⟩
set_option maxHeartbeats 400000 in
theorem huge_inf (w : World) : Calls Try.prog 98 #[] w fun e w' => e = .returned (.float .f64 9218868437227405312) ∧ w = w' := by
  obtain ⟨_, h1, _⟩ := quo_negone
  have hm : ∀ W : World, (binOp .mul 42 (.float .f64 9214871658872686752) (.float .f64 4621819117588971520)).run Try.prog W = .ok (.float .f64 9218868437227405312) W := fun W => run_float_arith W _ _ _ _ _ _ h1
  clear h1
  go_enter Try.func98, Try.ntmps98
  go_wp2
  go_ret
  exact ⟨rfl, rfl⟩

set_option maxRecDepth 100000 in
set_option maxHeartbeats 800000 in
theorem float_fin (B : Nat) (a : Option Addr) (len cap b : Nat) (w W : World) (ST : Stay B a len cap b w W) :
    Calls Try.prog 81 #[.pointer (some ⟨b, 0, none⟩)] W (SomeFF B a len cap b w) := by
  go_enter Try.func81, Try.ntmps81
  go_wp2_with fail
  refine (next_from (w := w) ST _ (by omega) (by omega)).mono ?_
  rintro e w' ⟨v, hv, rfl, ST⟩
  go_wp2_with fail
  iterate 3
   · clear hv
     refine (next_from (w := w) ST 21 (by omega) (by omega)).mono ?_
     rintro e w' ⟨v, hv, rfl, ST⟩
     have HV := Lib.hid (show v < 21 by omega)
     go_wp2_with fail
     go_ret
     exact ⟨_, int_fin _ (by have := HV.out; omega) (by have := HV.out; omega), wf_int _, rfl, (by with_reducible (first | exact ST | exact ST.drewN _ | exact ST.alloc' _ | exact (ST.alloc' _).drewN _ | exact (ST.drewN _).alloc' _))⟩
  iterate 2
   · clear hv
     refine (next_from (w := w) ST 257 (by omega) (by omega)).mono ?_
     rintro e w' ⟨v, hv, rfl, ST⟩
     have HV := Lib.hid (show v < 257 by omega)
     go_wp2_with fail
     refine (pickP_from (w := w) (fun z => z ∈ [2, 4, 8, 16, 3, 10] ∧ -100 ≤ z ∧ z ≤ 100) (by with_reducible (first | exact ST | exact ST.drewN _ | exact ST.alloc' _ | exact (ST.alloc' _).drewN _ | exact (ST.drewN _).alloc' _)) [2, 4, 8, 16, 3, 10] _ 6 rfl (by decide) (by decide) (by intro x hx; refine ⟨hx, ?_⟩; simp at hx; omega) _ rfl).mono ?_
     rintro e w' ⟨z, hz, rfl, ST⟩
     obtain ⟨y, hy, hf, hl⟩ := quo_ints v z HV.out hz.1
     have hq : ∀ W : World, (binOp .quo 42 (.float .f64 (floatOfInt .f64 ((v : Int) - 128))) (.float .f64 (floatOfInt .f64 z))).run Try.prog W = .ok (.float .f64 y) W := fun W => run_float_arith W _ _ _ _ _ _ hy
     have HY := Lib.hid (And.intro hf hl)
     have hz1 := hz.2.1
     have hz2 := hz.2.2
     clear hy hf hl hz
     go_wp2_with fail
     go_ret
     exact ⟨_, HY.out.1, HY.out.2, rfl, (by with_reducible (first | exact ST | exact ST.drewN _ | exact ST.alloc' _ | exact (ST.alloc' _).drewN _ | exact (ST.drewN _).alloc' _))⟩
  · clear hv
    refine (next_from (w := w) ST 2000001 (by omega) (by omega)).mono ?_
    rintro e w' ⟨v, hv, rfl, ST⟩
    have HV := Lib.hid (show v < 2000001 by omega)
    go_wp2_with fail
    refine (pickP_from (w := w) (fun z => 1 ≤ z ∧ z ≤ 1048576) (by with_reducible (first | exact ST | exact ST.drewN _ | exact ST.alloc' _ | exact (ST.alloc' _).drewN _ | exact (ST.drewN _).alloc' _)) [1, 1000, 1048576] _ 3 rfl (by decide) (by decide) (by intro x hx; simp at hx; omega) _ rfl).mono ?_
    rintro e w' ⟨z, hz, rfl, ST⟩
    obtain ⟨y, hy, hf, hl⟩ := mul_ints ((v : Int) - 1000000) z (by have := HV.out; omega) (by have := HV.out; omega) (by omega) (by omega) (by
      have h1 : ((v : Int) - 1000000).natAbs ≤ 1000000 := by have := HV.out; omega
      have h2 : z.natAbs ≤ 1048576 := by omega
      have h3 := Nat.mul_le_mul h1 h2
      exact Nat.lt_of_le_of_lt h3 (by decide))
    have hq : ∀ W : World, (binOp .mul 42 (.float .f64 (floatOfInt .f64 ((v : Int) - 1000000))) (.float .f64 (floatOfInt .f64 z))).run Try.prog W = .ok (.float .f64 y) W := fun W => run_float_arith W _ _ _ _ _ _ hy
    have HY := Lib.hid (And.intro hf hl)
    clear hy hf hl hz
    go_wp2_with fail
    go_ret
    exact ⟨_, HY.out.1, HY.out.2, rfl, (by with_reducible (first | exact ST | exact ST.drewN _ | exact ST.alloc' _ | exact (ST.alloc' _).drewN _ | exact (ST.drewN _).alloc' _))⟩
  · clear hv
    refine (next_from (w := w) ST 2 (by omega) (by omega)).mono ?_
    rintro e w' ⟨v, hv, rfl, ST⟩
    obtain ⟨y, _, hy, hf, hl⟩ := quo_negone
    have hq : ∀ W : World, (binOp .quo 42 (.float .f64 13830554455654793216) (.float .f64 9218868437227405312)).run Try.prog W = .ok (.float .f64 y) W := fun W => run_float_arith W _ _ _ _ _ _ hy
    have HY := Lib.hid (And.intro hf hl)
    clear hy hf hl
    go_wp2_with (go_at_call 98; refine (huge_inf _).mono ?_; rintro e w' ⟨rfl, rfl⟩)
    · go_ret
      exact ⟨_, HY.out.1, HY.out.2, rfl, (by with_reducible (first | exact ST | exact ST.drewN _ | exact ST.alloc' _ | exact (ST.alloc' _).drewN _ | exact (ST.drewN _).alloc' _))⟩
    · go_ret
      exact ⟨_, by decide +kernel, by decide, rfl, (by with_reducible (first | exact ST | exact ST.drewN _ | exact ST.alloc' _ | exact (ST.alloc' _).drewN _ | exact (ST.drewN _).alloc' _))⟩
  · refine (bits_fin B a len cap b w _ ST).mono ?_
    rintro e w' ⟨z, hz1, hz2, rfl, ST⟩
    have HZ := Lib.hid (And.intro hz1 hz2)
    clear hz1 hz2
    go_wp2_with fail
    go_ret
    exact ⟨_, HZ.out.1, HZ.out.2, rfl, (by with_reducible (first | exact ST | exact ST.drewN _ | exact ST.alloc' _ | exact (ST.alloc' _).drewN _ | exact (ST.drewN _).alloc' _))⟩

set_option maxRecDepth 100000 in
set_option maxHeartbeats 800000 in
theorem draw_fin (B : Nat) (a : Option Addr) (len cap b : Nat) (w W : World) (ST : Stay B a len cap b w W) :
    Calls Try.prog 91 #[.pointer (some ⟨b, 0, none⟩)] W (SomeCF B a len cap b w) := by
  have F0 := Lib.hid (show isF .f64 0 = true ∧ (0 : Nat) < 2 ^ 64 from ⟨by decide +kernel, by decide⟩)
  go_enter Try.func91, Try.ntmps91
  go_wp2_with fail
  refine (next_from (w := w) ST _ (by omega) (by omega)).mono ?_
  rintro e w' ⟨v, hv, rfl, ST⟩
  go_wp2_with fail
  · refine (float_fin B a len cap b w _ ST).mono ?_
    rintro e w' ⟨x, hx1, hx2, rfl, ST⟩
    have HX := Lib.hid (And.intro hx1 hx2)
    clear hx1 hx2
    go_wp2_with fail
    go_ret
    exact ⟨_, _, HX.out, F0.out, rfl, (by with_reducible (first | exact ST | exact ST.drewN _ | exact ST.alloc' _ | exact (ST.alloc' _).drewN _ | exact (ST.drewN _).alloc' _))⟩
  · refine (float_fin B a len cap b w _ ST).mono ?_
    rintro e w' ⟨x, hx1, hx2, rfl, ST⟩
    have HX := Lib.hid (And.intro hx1 hx2)
    clear hx1 hx2
    go_wp2_with fail
    go_ret
    exact ⟨_, _, F0.out, HX.out, rfl, (by with_reducible (first | exact ST | exact ST.drewN _ | exact ST.alloc' _ | exact (ST.alloc' _).drewN _ | exact (ST.drewN _).alloc' _))⟩
  · clear hv
    refine (next_from (w := w) ST 9 (by omega) (by omega)).mono ?_
    rintro e w' ⟨v1, hv1, rfl, ST⟩
    have HV1 := Lib.hid (show v1 < 9 by omega)
    go_wp2_with fail
    refine (next_from (w := w) (by with_reducible (first | exact ST | exact ST.drewN _ | exact ST.alloc' _ | exact (ST.alloc' _).drewN _ | exact (ST.drewN _).alloc' _)) 9 (by omega) (by omega)).mono ?_
    rintro e w' ⟨v2, hv2, rfl, ST⟩
    have HV2 := Lib.hid (show v2 < 9 by omega)
    go_wp2_with fail
    go_ret
    exact ⟨_, _, ⟨int_fin _ (by have := HV1.out; omega) (by have := HV1.out; omega), wf_int _⟩, ⟨int_fin _ (by have := HV2.out; omega) (by have := HV2.out; omega), wf_int _⟩, rfl, (by with_reducible (first | exact ST | exact ST.drewN _ | exact ST.alloc' _ | exact (ST.alloc' _).drewN _ | exact (ST.drewN _).alloc' _))⟩
  all_goals
    refine (float_fin B a len cap b w _ ST).mono ?_
    rintro e w' ⟨x, hx1, hx2, rfl, ST⟩
    have HX := Lib.hid (And.intro hx1 hx2)
    clear hx1 hx2 hv
    go_wp2_with fail
    refine (float_fin B a len cap b w _ (by with_reducible (first | exact ST | exact ST.drewN _ | exact ST.alloc' _ | exact (ST.alloc' _).drewN _ | exact (ST.drewN _).alloc' _))).mono ?_
    rintro e w' ⟨y, hy1, hy2, rfl, ST⟩
    have HY := Lib.hid (And.intro hy1 hy2)
    clear hy1 hy2
    go_wp2_with fail
    go_ret
    exact ⟨_, _, HX.out, HY.out, rfl, (by with_reducible (first | exact ST | exact ST.drewN _ | exact ST.alloc' _ | exact (ST.alloc' _).drewN _ | exact (ST.drewN _).alloc' _))⟩
end Go.Proofs.Ytabpgkkickdopaa
