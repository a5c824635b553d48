/-
  Draws of the laws of floats: a float64, a float32, two wide numbers, whichever. Conditions: the code's bytes can be read.
-/
import Derived.Test.YtnnbfoemmgddeaaDoorSg
import Derived.Test.YtnnbfoemmgddeaaDoorSn
namespace Go.Proofs.YtnnbfoemmgddeaaDoor
set_option linter.unusedVariables false
open Go Go.RowKit

theorem wfN_encode (d : Ieee.Datum) : FloatKind.f32.encode d < 2 ^ 32 := by
  have h := FloatKind.f32.format.write_lt d
  have e : 2 * FloatKind.f32.format.signWeight = 2 ^ 32 := by decide
  first
  | exact h
  | (rw [e] at h; exact h)
  | exact Nat.lt_of_lt_of_le h (by decide)
theorem nanN_lt (x t : Nat) : (Question.nanConv .f32 x).cut t < 2 ^ 32 := by
  have h2 : (t / 2) % (2 ^ 23 - 1) < 2 ^ 23 - 1 := Nat.mod_lt _ (by omega)
  have h1 : t % 2 < 2 := Nat.mod_lt _ (by omega)
  simp only [Question.cut]
  revert h1 h2
  generalize (t / 2) % (2 ^ 23 - 1) = r
  generalize t % 2 = s
  intro h1 h2
  omega
/-- A float64 made narrow: some float32, whichever. -/
theorem ffN_ex (P : Program) (w : World) (x : Nat) : ∃ r : Nat × Nat, (Conv.floatToFloat .f64 x .f32).run P w = .ok (.float .f32 r.1) (w.drewN r.2) ∧ r.1 < 2 ^ 32 := by
  unfold Conv.floatToFloat
  rw [if_neg (by decide)]
  cases e : FloatKind.f64.decode x with
  | nan s f =>
    exact ⟨((Question.nanConv .f32 x).cut (w.tape w.drawn (.nanConv .f32 x)), 1), by simp [Question.forced, World.drew_is_drewN], nanN_lt x _⟩
  | infinity s =>
    exact ⟨(FloatKind.f32.encode (.infinity s), 0), by simp <;> rfl, wfN_encode (.infinity s)⟩
  | number s m i =>
    by_cases h : (FloatKind.f32.decode (FloatKind.f32.encode (.number s m i))).isInfinity = true
    · refine ⟨((Question.floatToFloat x).cut (w.tape w.drawn (.floatToFloat x)), 1), ?_, Nat.mod_lt _ (by decide)⟩
      simp [h, Question.forced, World.drew_is_drewN]
    · refine ⟨(FloatKind.f32.encode (.number s m i), 0), ?_, wfN_encode (.number s m i)⟩
      simp [h] <;> rfl
theorem ccN_ex (P : Program) (w : World) (src dst : TypeId) (hs : (P.underlying src).isSome = true) (hd : P.underlying dst = some (.complex .f32)) (x y : Nat) : ∃ r : Nat × Nat × Nat, (convert src dst (.complex .f64 x y)).run P w = .ok (.complex .f32 r.1 r.2.1) (w.drewN r.2.2) ∧ r.1 < 2 ^ 32 ∧ r.2.1 < 2 ^ 32 := by
  obtain ⟨⟨r1, n1⟩, h1, g1⟩ := ffN_ex P w x
  obtain ⟨⟨r2, n2⟩, h2, g2⟩ := ffN_ex P (w.drewN n1) y
  obtain ⟨u, hs'⟩ := Option.isSome_iff_exists.1 hs
  refine ⟨(r1, r2, n1 + n2), ?_, g1, g2⟩
  simp only [World.drewN_drewN] at h2
  cases u <;> simp [convert, run_underlying hs', run_underlying hd, Conv.complexToComplex, h1, h2]
noncomputable def cnv (w : World) (x y : Nat) : Nat × Nat × Nat := Classical.choose (ccN_ex Tryd.prog w 41 55 (by rw [Tryd.underlying41]; rfl) Tryd.underlying55 x y)
theorem cnv_spec (w : World) (x y : Nat) : (convert 41 55 (.complex .f64 x y)).run Tryd.prog w = .ok (.complex .f32 (cnv w x y).1 (cnv w x y).2.1) (w.drewN (cnv w x y).2.2) ∧ (cnv w x y).1 < 2 ^ 32 ∧ (cnv w x y).2.1 < 2 ^ 32 :=
  Classical.choose_spec (ccN_ex Tryd.prog w 41 55 (by rw [Tryd.underlying41]; rfl) Tryd.underlying55 x y)
@[go_sem] theorem run_cnv (w : World) (x y : Nat) : (convert 41 55 (.complex .f64 x y)).run Tryd.prog w = .ok (.complex .f32 (cnv w x y).1 (cnv w x y).2.1) (w.drewN (cnv w x y).2.2) := (cnv_spec w x y).1

def SomeN (B : Nat) (a : Option Addr) (len cap : Nat) (b : Nat) (w : World) (e : Ending) (w' : World) : Prop :=
  ∃ x y : Nat, x < 2 ^ 32 ∧ y < 2 ^ 32 ∧ e = .returned (.complex .f32 x y) ∧ Stay B a len cap b w w'

set_option maxRecDepth 100000 in
set_option maxHeartbeats 400000 in
theorem narrow_any (B : Nat) (a : Option Addr) (len cap b : Nat) (w W : World) (ST : Stay B a len cap b w W) :
    Calls Tryd.prog 25 #[.pointer (some ⟨b, 0, none⟩)] W (SomeN B a len cap b w) := by
  go_enter Tryd.func25, Tryd.ntmps25
  go_wp2_with fail
  refine (next_from (w := w) ST _ (by omega) (by omega)).mono ?_
  rintro e w' ⟨v, hv, rfl, ST⟩
  go_wp2_with fail
  · clear hv
    refine (next_from (w := w) ST _ (by omega) (by omega)).mono ?_
    rintro e w' ⟨v2, hv2, rfl, ST⟩
    go_wp2_with fail
    refine (next_from (w := w) (by with_reducible (first | exact ST | exact ST.drewN _ | exact ST.alloc' _ | exact (ST.alloc' _).drewN _ | exact (ST.drewN _).alloc' _)) _ (by omega) (by omega)).mono ?_
    rintro e w' ⟨v3, hv3, rfl, ST⟩
    have hv4 : (v3 : Int) - 160 ≤ 9223372036854775807 := by omega
    clear hv2
    go_wp2_with fail
    refine (scale_any _ ((v3 : Int) - 160) _ (by omega) hv4).mono ?_
    rintro e w' ⟨y, n, hw0, rfl, hy, rfl⟩
    clear hw0 hy
    go_wp2_with fail
    refine (next_from (w := w) (by with_reducible (first | exact ST | exact ST.drewN _ | exact ST.alloc' _ | exact (ST.alloc' _).drewN _ | exact (ST.drewN _).alloc' _)) _ (by omega) (by omega)).mono ?_
    rintro e w' ⟨v5, hv5, rfl, ST⟩
    go_wp2_with fail
    go_ret
    exact ⟨_, _, (cnv_spec _ _ _).2.1, (cnv_spec _ _ _).2.2, rfl, (by with_reducible (first | exact ST | exact ST.drewN _ | exact ST.alloc' _ | exact (ST.alloc' _).drewN _ | exact (ST.drewN _).alloc' _))⟩
  · refine (spoil_any B a len cap b w _ ST).mono ?_
    rintro e w' ⟨x, y, hx, hy, rfl, ST⟩
    go_wp2_with fail
    go_ret
    exact ⟨_, _, (cnv_spec _ _ _).2.1, (cnv_spec _ _ _).2.2, rfl, (by with_reducible (first | exact ST | exact ST.drewN _ | exact ST.alloc' _ | exact (ST.alloc' _).drewN _ | exact (ST.drewN _).alloc' _))⟩

set_option maxRecDepth 100000 in
set_option maxHeartbeats 400000 in
theorem drawF (a : Option Addr) (len cap : Nat) (w : World) (hlen : len ≤ 9223372036854775807) (hcode : Code8 w.heap.size a len w) :
    Calls Tryd.prog 5 #[.slice a len cap] w fun e w' => ∃ x, x < 2 ^ 64 ∧ e = .returned (.float .f64 x) ∧ Below w.heap.size w w' := by
  have HF := Lib.hid (from_any a len cap w hlen hcode)
  clear hlen hcode
  go_enter Tryd.func5, Tryd.ntmps5
  go_wp2_with fail
  refine HF.out.mono ?_
  rintro e w1 ⟨b, rfl, hbel, hsrc⟩
  have BE := Lib.hid hbel
  have ST := Stay.refl hsrc
  clear hbel hsrc HF
  go_wp2_with fail
  refine (spoil_any w.heap.size a len cap b w1 _ ST).mono ?_
  rintro e w2 ⟨x, y, hx, hy, rfl, ST2⟩
  have BS := Lib.hid (ST2.below BE.out.size)
  clear ST ST2
  go_wp2_with fail
  go_ret
  exact ⟨_, hx, rfl, BE.out.trans BS.out⟩
set_option maxRecDepth 100000 in
set_option maxHeartbeats 400000 in
theorem drawN (a : Option Addr) (len cap : Nat) (w : World) (hlen : len ≤ 9223372036854775807) (hcode : Code8 w.heap.size a len w) :
    Calls Tryd.prog 10 #[.slice a len cap] w fun e w' => ∃ x, x < 2 ^ 32 ∧ e = .returned (.float .f32 x) ∧ Below w.heap.size w w' := by
  have HF := Lib.hid (from_any a len cap w hlen hcode)
  clear hlen hcode
  go_enter Tryd.func10, Tryd.ntmps10
  go_wp2_with fail
  refine HF.out.mono ?_
  rintro e w1 ⟨b, rfl, hbel, hsrc⟩
  have BE := Lib.hid hbel
  have ST := Stay.refl hsrc
  clear hbel hsrc HF
  go_wp2_with fail
  refine (narrow_any w.heap.size a len cap b w1 _ ST).mono ?_
  rintro e w2 ⟨x, y, hx, hy, rfl, ST2⟩
  have BS := Lib.hid (ST2.below BE.out.size)
  clear ST ST2
  go_wp2_with fail
  go_ret
  exact ⟨_, hx, rfl, BE.out.trans BS.out⟩
set_option maxRecDepth 100000 in
set_option maxHeartbeats 400000 in
theorem drawA (a : Option Addr) (len cap : Nat) (w : World) (hlen : len ≤ 9223372036854775807) (hcode : Code8 w.heap.size a len w) :
    Calls Tryd.prog 14 #[.slice a len cap] w (TwoC w.heap.size w) := by
  have HF := Lib.hid (two_any a len cap w hlen hcode)
  clear hlen hcode
  go_enter Tryd.func14, Tryd.ntmps14
  go_wp2_with fail
  refine HF.out.mono ?_
  rintro e w' ⟨x, y, z, u, h1, h2, rfl, hb⟩
  go_wp2_with fail
  go_ret2
  exact ⟨x, y, z, u, h1, h2, rfl, hb⟩
end Go.Proofs.YtnnbfoemmgddeaaDoor
