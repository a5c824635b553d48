/-
  Contracts: the value of a float32 as an exact number, by both sides. Conditions: the library's table is as its initialiser lays it.
-/
import Derived.Test.YtfjfmlofhifkmaaDoorFr
namespace Go.Proofs.YtfjfmlofhifkmaaDoor
set_option linter.unusedVariables false
open Go Go.RowKit

theorem read_fin_f32 {x : Nat} {s : Bool} {m : Nat} {i : Int} (h : FloatKind.f32.format.read x = .number s m i) : m < 2 ^ 24 ∧ -149 ≤ i ∧ i ≤ 104 := by
  have e1 : FloatKind.f32.format.signWeight = 2 ^ 31 := by decide
  have e2 : FloatKind.f32.format.binade = 2 ^ 23 := by decide
  have e3 : FloatKind.f32.format.infRung = 0x7f800000 := by decide
  have e4 : FloatKind.f32.format.leastPlace = -149 := by decide
  simp only [Ieee.Format.read, e1, e2, e3, e4] at h
  split at h
  · simp only [Ieee.Datum.number.injEq] at h
    omega
  · split at h
    · simp only [Ieee.Datum.number.injEq] at h
      omega
    · split at h <;> cases h
/-- What DyadicOfNarrow gives. -/
noncomputable def dyN (x : Nat) : Int × List Int × Int × Int := match FloatKind.f32.format.read x with
  | .number s m i => ((redZ (sg s m) i).1, (redZ (sg s m) i).2.1, (redZ (sg s m) i).2.2, 0)
  | _ => (0, [], 0, 1)
theorem dyN_len (x : Nat) : (dyN x).2.1.length ≤ 3 := by
  unfold dyN
  split
  · rename_i s m i e
    exact redZ_lenF s i (by have := (read_fin_f32 e).1; omega)
  · simp
/-- A float32 made wide: some float64 of the same value. -/
theorem conv_ex (t : TypeId) (ht : (Tryd.prog.underlying t).isSome = true) (x : Nat) (W : World) : ∃ y n : Nat, (convert t 41 (.float .f32 x)).run Tryd.prog W = .ok (.float .f64 y) (W.drewN n) ∧ y < 2 ^ 64 ∧ dyF y = dyN x := by
  cases e : FloatKind.f32.format.read x with
  | number s m i =>
    obtain ⟨h1, h2, h3⟩ := read_fin_f32 e
    have hF : Fit m i := Fit.of (by omega) (by omega) (by omega)
    have he : FloatKind.f64.encode (.number s m i) = fw s m i := by
      show f64.nearest s m i = _
      rw [nearest_rung]; rfl
    have hni : (FloatKind.f64.decode (fw s m i)).isInfinity = false := by
      obtain ⟨k, hr, _⟩ := read_fw s hF
      have h2 : FloatKind.f64.decode (fw s m i) = _ := hr
      rw [h2]; rfl
    refine ⟨fw s m i, 0, ?_, fw_lt s m i, ?_⟩
    · refine run_convert_float_float W _ _ _ _ _ _ ht Tryd.underlying41 ?_
      unfold floatToFloatBits
      rw [if_neg (by decide)]
      have h2 : FloatKind.f32.decode x = _ := e
      rw [h2]
      simp only
      rw [he, hni]
      rfl
    · rw [dyF_fw s hF]
      unfold dyN
      rw [e]
  | infinity s =>
    have he : FloatKind.f64.encode (.infinity s) = f64.word s 0x7ff0000000000000 := by
      show f64.word s f64.infRung = _
      rw [f64_inf]
    refine ⟨f64.word s 0x7ff0000000000000, 0, ?_, by cases s <;> decide +kernel, ?_⟩
    · refine run_convert_float_float W _ _ _ _ _ _ ht Tryd.underlying41 ?_
      unfold floatToFloatBits
      rw [if_neg (by decide)]
      have h2 : FloatKind.f32.decode x = _ := e
      rw [h2]
      simp only
      rw [he]
    · have hf : isF .f64 (f64.word s 0x7ff0000000000000) = false := by
        unfold isF
        have h2 : FloatKind.f64.format.read (f64.word s 0x7ff0000000000000) = _ := read_inf s
        rw [h2]
      rw [dyF_no hf]
      unfold dyN
      rw [e]
  | nan s f =>
    obtain ⟨u, hu⟩ := Option.isSome_iff_exists.1 ht
    have h2 : FloatKind.f32.decode x = .nan s f := e
    refine ⟨(Question.nanConv .f64 x).cut (W.tape W.drawn (.nanConv .f64 x)), 1, ?_, ?_, ?_⟩
    · cases u <;> simp [convert, run_underlying hu, run_underlying Tryd.underlying41, Conv.floatToFloat, h2, Question.forced, World.drew_is_drewN]
    · exact nan_cut_wf x x _
    · have hn : isN .f64 ((Question.nanConv .f64 x).cut (W.tape W.drawn (.nanConv .f64 x))) = true := nan_cut_f64 x x _
      rw [dyF_no (isN_not_isF hn)]
      unfold dyN
      rw [e]

set_option maxHeartbeats 400000 in
theorem iWidenedN (x : Nat) (w : World) : Calls Tryd.prog 181 #[.float .f32 x] w fun e w' => ∃ y n, e = .returned (.float .f64 y) ∧ w' = w.drewN n ∧ y < 2 ^ 64 ∧ dyF y = dyN x := by
  obtain ⟨y, n, h1, h2, h3⟩ := conv_ex 101 (by rw [Tryd.underlying101]; rfl) x w
  have H2 := Lib.hid h2
  have H3 := Lib.hid h3
  clear h2 h3
  go_enter Tryd.func181, Tryd.ntmps181
  go_wp2_with fail
  go_ret
  exact ⟨_, _, rfl, rfl, H2.out, H3.out⟩

set_option maxRecDepth 100000 in
set_option maxHeartbeats 1600000 in
theorem sDyadicOfNarrow (x : Nat) (hx : x < 2 ^ 32) (w : World) : Calls Tryd.prog 33 #[.float .f32 x] w (RetYC (dyN x) w.heap.size w) := by
  obtain ⟨W0, hW0⟩ : ∃ W0 : World, w.alloc (.cells #[.int .i64 0, .slice none 0 0, .int .i64 0] 43) = W0 := ⟨_, rfl⟩
  obtain ⟨p1, p3, p4⟩ := one_box w 43 #[.int .i64 0, .slice none 0 0, .int .i64 0]
  rw [hW0] at p1 p3 p4
  have SR := Lib.hid (show ∀ W, Below W0.heap.size W0 W → _ from fun W hW => (p1.below hW).tri6)
  have P3 := Lib.hid p3
  have P4 := Lib.hid p4
  have hT : Below W0.heap.size W0 W0 := Below.refl _ _
  obtain ⟨y, n, hc, hy, hdy⟩ := conv_ex 49 (by rw [Tryd.underlying49]; rfl) x W0
  have HV := Lib.hid (fun W => sDyadicOf y hy W)
  rw [hdy] at HV
  obtain ⟨⟨r1, r2, r3, r4⟩, hr⟩ : ∃ r, dyN x = r := ⟨_, rfl⟩
  rw [hr] at HV ⊢
  clear p1 p3 p4 hx hr hy hdy
  go_enter Tryd.func33, Tryd.ntmps33
  go_wp2_with fail
  have hbn : Below W0.heap.size W0 (W0.drewN n) := below_drewN hT n
  refine (HV.out _).mono ?_
  rintro e w1 ⟨a6, c6, rfl, hc6, ho6, hb6⟩
  have hb6' : Below W0.heap.size W0 w1 := hbn.trans hb6
  obtain ⟨W5, hW5⟩ : ∃ W5 : World, w1.alloc (.cells #[.int .i64 r1, .slice a6 r2.length c6, .int .i64 r3] 43) = W5 := ⟨_, rfl⟩
  obtain ⟨x1, x3, x4⟩ := one_box w1 43 #[.int .i64 r1, .slice a6 r2.length c6, .int .i64 r3]
  rw [hW5] at x1 x3 x4
  have hb5 : Below W0.heap.size W0 W5 := hb6'.trans (x3.mono hb6'.size)
  have HO5 := Lib.hid (show Own W5 W0.heap.size a6 r2 from ho6.below x3)
  obtain ⟨q1, q2, q3, q4, q5, q6⟩ := SR.out _ hb5
  obtain ⟨j1, j2, j3, _, _, _⟩ := x1.tri6
  have HC6 := Lib.hid hc6
  clear hc6 ho6 hb6 hb6' hbn x1 x3 x4 hW0
  go_wp2_with fail
  refine bodyPost_ret (v := .tuple #[.agg #[.int .i64 r1, .slice a6 r2.length c6, .int .i64 r3], .int .i64 r4]) (by simp [results, Tryd.results33, go_sem, *]) rfl ?_
  exact retYC_end (g := w.heap.size) (r := (r1, r2, r3, r4)) P3.out P4.out hb5 (by omega) (by omega) _ _ _ HO5.out HC6.out

/-- What Frexp leads to. -/
def FrP (W0 : World) (r1 : Int) (r2 : List Int) (r3 : Int) (w : World) (e : Ending) (w' : World) : Prop :=
  ∃ (f fz : Nat) (z q g : Int), e = .returned (.tuple #[.float .f64 f, .int .i64 q]) ∧ w = w' ∧ -3000 ≤ q ∧ q ≤ 3000 ∧ q - 53 = g ∧ IntKind.i64.wrap (q - 53) = g ∧ wrap64 (q - 53) = g ∧
    (∀ W : World, (binOp .mul 41 (.float .f64 f) (.float .f64 4845873199050653696)).run Tryd.prog W = .ok (.float .f64 fz) W) ∧ (∀ W : World, (convert 41 2 (.float .f64 fz)).run Tryd.prog W = .ok (.int .i64 z) W) ∧ (-9007199254740992 ≤ z ∧ z ≤ 9007199254740992) ∧
    Hid (∀ (b : Option Addr) (d lo : Nat) W, Below W0.heap.size W0 W → Own W lo b (lim z.natAbs) → Calls Tryd.prog 125 #[.agg #[.int .i64 z.sign, .slice b (lim z.natAbs).length d], .int .i64 g] W fun e w' => ∃ a c, e = .returned (.agg #[.int .i64 r1, .slice a r2.length c, .int .i64 r3]) ∧ r2.length ≤ c ∧ Own w' W0.heap.size a r2 ∧ Below W0.heap.size W0 w')
theorem val_facts (y : Nat) (hy : y < 2 ^ 64) (hf : isF .f64 y = true) (W0 : World) (HTB : ∀ W, Below W0.heap.size W0 W → Tab W) (r1 : Int) (r2 : List Int) (r3 r4 : Int) (hr : dyF y = (r1, r2, r3, r4)) : r4 = 0 ∧ ∀ W, Calls Tryd.prog 123 #[.float .f64 y] W (FrP W0 r1 r2 r3 W) := by
  obtain ⟨s, m, i, he, hF, hC⟩ := fin_fw hy hf
  subst he
  rw [dyF_fw s hF] at hr
  have h4 : r4 = 0 := (congrArg (fun r : Int × List Int × Int × Int => r.2.2.2) hr).symm
  have hz3 : redZ (sg s m) i = (r1, r2, r3) := by
    exact congrArg (fun r : Int × List Int × Int × Int => (r.1, r.2.1, r.2.2.1)) hr
  refine ⟨h4, fun W => (Frexp_any s m i hF W).mono ?_⟩
  rintro e w' ⟨M, q, h1, h2, h3, rfl, rfl, h5⟩
  refine ⟨_, fw s M 0, sg s M, q, _, rfl, rfl, h2, h3, rfl, by rw [IntKind.wrap_i64]; omega, by unfold wrap64; omega, ?_, ?_, ?_, Lib.hid ?_⟩
  · intro W
    refine run_float_arith W _ _ _ _ _ _ ?_
    rw [fw_most, mul_fw s false (Fit.of h1 (by omega) (by omega)) (Fit.of (by omega) (by omega) (by omega)), Nat.mul_one]
    cases s <;> rfl
  · intro W
    have hv := int_fw s (m := M) (i := 0) (Fit.of h1 (by omega) (by omega)) (Int.le_refl 0)
    rw [show (-(0 : Int)).toNat = 0 by omega, Nat.pow_zero, Nat.div_one] at hv
    exact run_convert_float_int W _ _ _ _ _ _ (by rw [Tryd.underlying41]; rfl) Tryd.underlying2 hv
  · unfold sg
    split <;> omega
  · intro b d lo W hW ho
    have hz := Sg.of (sg s M)
    have := iReduced (sg s M).sign b (sg s M).natAbs d (q - 53) W _ (Nat.le_refl _) ho.ints hz (by rw [sg_abs, lim_length]; exact Nat.le_trans (dig_small (by omega)) (by omega)) (by omega) (by omega) (HTB W hW)
    have h6 : redS (sg s M).sign (sg s M).natAbs (q - 53) = (r1, r2, r3) := by rw [← hz3, ← h5]; rfl
    unfold RetYR at this
    rw [h6] at this
    exact this.mono fun e w' ⟨a, c, he, hc, ho, hb⟩ => ⟨a, c, he, hc, ho.mono hW.size, hW.trans (hb.mono hW.size)⟩

set_option maxRecDepth 100000 in
set_option maxHeartbeats 4000000 in
theorem iValueOfN (x : Nat) (w : World) (hTab : Tab w) : Calls Tryd.prog 82 #[.iface 101 (.float .f32 x)] w (RetYC (dyN x) w.heap.size w) := by
  obtain ⟨W0, hW0⟩ : ∃ W0 : World, w.alloc (.cells #[.int .i64 0, .slice none 0 0, .int .i64 0] 43) = W0 := ⟨_, rfl⟩
  obtain ⟨p1, p3, p4⟩ := one_box w 43 #[.int .i64 0, .slice none 0 0, .int .i64 0]
  rw [hW0] at p1 p3 p4
  have SR := Lib.hid (show ∀ W, Below W0.heap.size W0 W → _ from fun W hW => (p1.below hW).tri6)
  have P3 := Lib.hid p3
  have P4 := Lib.hid p4
  have HTB := Lib.hid (show ∀ W, Below W0.heap.size W0 W → Tab W from fun W hW => (hTab.below p3).below hW)
  have HWI := Lib.hid fun W => iWidenedN x W
  have hT : Below W0.heap.size W0 W0 := Below.refl _ _
  obtain ⟨⟨r1, r2, r3, r4⟩, hr⟩ : ∃ r, dyN x = r := ⟨_, rfl⟩
  rw [hr] at HWI ⊢
  clear hTab p1 p3 p4 hr
  go_enter Tryd.func82, Tryd.ntmps82
  go_wp2_with fail
  clear hW0
  refine (HWI.out _).mono ?_
  rintro e w1 ⟨y, n, rfl, rfl, hy, hdy⟩
  have HFI := Lib.hid fun W => isFiniteFloat_any y W
  cases hf : isF .f64 y
  · rw [hf] at HFI
    rw [dyF_no hf] at hdy
    injection hdy with e1 hdy
    injection hdy with e2 hdy
    injection hdy with e3 e4
    subst e1 e2 e3 e4
    clear hf hy
    go_wp2_with fail
    refine (HFI.out _).mono ?_
    rintro e w2 ⟨rfl, rfl⟩
    obtain ⟨q1, q2, q3, q4, q5, q6⟩ := SR.out _ (below_drewN hT n)
    go_wp2_with fail
    refine bodyPost_ret (v := .tuple #[.agg #[.int .i64 0, .slice none 0 0, .int .i64 0], .int .i64 1]) (by simp [results, Tryd.results82, go_sem, *]) rfl ?_
    exact retYC_zero (g := w.heap.size) 1 P3.out P4.out (below_drewN hT n) (by omega) _ _ _
  · rw [hf] at HFI
    obtain ⟨rfl, hfr⟩ := val_facts y hy hf W0 HTB.out r1 r2 r3 r4 hdy
    have HFR := Lib.hid hfr
    clear hf hy hdy hfr
    go_wp2_with fail
    refine (HFI.out _).mono ?_
    rintro e w2 ⟨rfl, rfl⟩
    go_wp2_with fail
    refine (HFR.out _).mono ?_
    rintro e w3 ⟨f, fz, z, q, g, rfl, rfl, g2, g3, g4, g5, g6, g7, g8, ⟨g9, g10⟩, HRE⟩
    have HW := Lib.hid (fun W => iWholeOf z (by omega) (by omega) W)
    clear g4
    go_wp2_with fail
    refine (HW.out _).mono ?_
    rintro e w4 ⟨a4, c4, rfl, hc4, ho4, hb4⟩
    obtain ⟨W5, hW5⟩ : ∃ W5 : World, w4.alloc (.cells #[.int .i64 z.sign, .slice a4 (lim z.natAbs).length c4] 26) = W5 := ⟨_, rfl⟩
    obtain ⟨x1, x3, x4⟩ := one_box w4 26 #[.int .i64 z.sign, .slice a4 (lim z.natAbs).length c4]
    rw [hW5] at x1 x3 x4
    have hbn : Below W0.heap.size W0 (W0.drewN n) := below_drewN hT n
    have hb4' : Below W0.heap.size W0 w4 := hbn.trans hb4
    have hb5 : Below W0.heap.size W0 W5 := hb4'.trans (x3.mono hb4'.size)
    have ho5 : Own W5 (W0.drewN n).heap.size a4 (lim z.natAbs) := ho4.below x3
    obtain ⟨j1, j2, _, _⟩ := x1.two
    clear x1 x3 x4 ho4 hb4 hb4' hbn hc4
    go_wp2_with fail
    clear hW5
    refine (HRE.out _ _ _ _ hb5 ho5).mono ?_
    rintro e w6 ⟨a6, c6, rfl, hc6, ho6, hb6⟩
    obtain ⟨q1, q2, q3, q4, q5, q6⟩ := SR.out _ hb6
    have HC6 := Lib.hid hc6
    have HO6 := Lib.hid ho6
    clear hc6 ho6 hb5 ho5 j1 j2
    go_wp2_with fail
    refine bodyPost_ret (v := .tuple #[.agg #[.int .i64 r1, .slice a6 r2.length c6, .int .i64 r3], .int .i64 0]) (by simp [results, Tryd.results82, go_sem, *]) rfl ?_
    exact retYC_end (g := w.heap.size) (r := (r1, r2, r3, 0)) P3.out P4.out hb6 (by omega) (by omega) _ _ _ HO6.out HC6.out

set_option maxRecDepth 100000 in
set_option maxHeartbeats 1000000 in
theorem iDyadicOfNarrow (x : Nat) (hx : x < 2 ^ 32) (w : World) (hTab : Tab w) : Calls Tryd.prog 34 #[.float .f32 x] w (RetYC (dyN x) w.heap.size w) := by
  obtain ⟨W0, hW0⟩ : ∃ W0 : World, w.alloc (.cells #[.int .i64 0, .slice none 0 0, .int .i64 0] 43) = W0 := ⟨_, rfl⟩
  obtain ⟨p1, p3, p4⟩ := one_box w 43 #[.int .i64 0, .slice none 0 0, .int .i64 0]
  rw [hW0] at p1 p3 p4
  have SR := Lib.hid (show ∀ W, Below W0.heap.size W0 W → _ from fun W hW => (p1.below hW).tri6)
  have P3 := Lib.hid p3
  have P4 := Lib.hid p4
  have hT : Below W0.heap.size W0 W0 := Below.refl _ _
  have HV := Lib.hid (iValueOfN x W0 (hTab.below p3))
  obtain ⟨⟨r1, r2, r3, r4⟩, hr⟩ : ∃ r, dyN x = r := ⟨_, rfl⟩
  rw [hr] at HV ⊢
  clear p1 p3 p4 hx hTab hr
  go_enter Tryd.func34, Tryd.ntmps34
  go_wp2_with fail
  clear hW0
  refine HV.out.mono ?_
  rintro e w1 ⟨a6, c6, rfl, hc6, ho6, hb6⟩
  obtain ⟨q1, q2, q3, q4, q5, q6⟩ := SR.out _ hb6
  have HC6 := Lib.hid hc6
  have HO6 := Lib.hid ho6
  clear hc6 ho6
  go_wp2_with fail
  refine bodyPost_ret (v := .tuple #[.agg #[.int .i64 r1, .slice a6 r2.length c6, .int .i64 r3], .int .i64 r4]) (by simp [results, Tryd.results34, go_sem, *]) rfl ?_
  exact retYC_end (g := w.heap.size) (r := (r1, r2, r3, r4)) P3.out P4.out hb6 (by omega) (by omega) _ _ _ HO6.out HC6.out
end Go.Proofs.YtfjfmlofhifkmaaDoor
