/-
  Contracts: the value of a float64 as an exact number, by the program. Conditions: the library's table is as its initialiser lays it.
-/
import Derived.Test.YtfjfmlofhifkmaaDoorGa
import Derived.Test.YtfjfmlofhifkmaaDoorQm
import Derived.Test.YtfjfmlofhifkmaaDoorUg
import Derived.Handy
namespace Go.Proofs.YtfjfmlofhifkmaaDoor
set_option linter.unusedVariables false
open Go Go.RowKit

theorem sg_pow (s : Bool) (m k : Nat) : sg s (m * 2 ^ k) = sg s m * 2 ^ k := by
  unfold sg
  cases s
  · simp
  · simp [Int.neg_mul]
/-- What DyadicOf gives. -/
noncomputable def dyF (x : Nat) : Int × List Int × Int × Int := match FloatKind.f64.format.read x with
  | .number s m i => ((redZ (sg s m) i).1, (redZ (sg s m) i).2.1, (redZ (sg s m) i).2.2, 0)
  | _ => (0, [], 0, 1)
theorem dyF_no {x : Nat} (h : isF .f64 x = false) : dyF x = (0, [], 0, 1) := by
  unfold isF at h
  unfold dyF
  split <;> simp_all
theorem dyF_fw (s : Bool) {m : Nat} {i : Int} (h : Fit m i) : dyF (fw s m i) = ((redZ (sg s m) i).1, (redZ (sg s m) i).2.1, (redZ (sg s m) i).2.2, 0) := by
  obtain ⟨k, hr, _⟩ := read_fw s h
  unfold dyF
  have h2 : FloatKind.f64.format.read (fw s m i) = _ := hr
  rw [h2]
  simp only
  rw [sg_pow, redZ_pow, show i - (k : Int) + (k : Int) = i by omega]
theorem sg_abs (s : Bool) (m : Nat) : (sg s m).natAbs = m := by
  unfold sg
  split <;> omega
theorem redZ_lenF (s : Bool) {m : Nat} (i : Int) (h : m < 2 ^ 53) : (redZ (sg s m) i).2.1.length ≤ 3 := by
  refine Nat.le_trans (redS_len _ _ _) ?_
  rw [sg_abs, lim_length]
  exact dig_small (by omega)

theorem dyF_len (x : Nat) : (dyF x).2.1.length ≤ 3 := by
  unfold dyF
  split
  · rename_i s m i e
    exact redZ_lenF s i (read_fin_f64 e).1
  · simp
/-- The whole and the place of a float. -/
def SplitR (s : Bool) (m : Nat) (i : Int) (w : World) (e : Ending) (w' : World) : Prop :=
  ∃ (M : Nat) (q : Int), M < 2 ^ 53 ∧ -3000 ≤ q ∧ q ≤ 3000 ∧ e = .returned (.tuple #[.float .f64 (fw s M (-53)), .int .i64 q]) ∧ w = w' ∧ redZ (sg s M) (q - 53) = redZ (sg s m) i
theorem fit_bounds {m : Nat} {i : Int} (h : Fit m i) (hm : m ≠ 0) : -1074 ≤ i ∧ i ≤ 1100 := by
  obtain ⟨_, h2, h4⟩ := h
  have hh : ¬ (53 ≤ (i - 971).toNat) := fun hh => by
    have a1 : 2 ^ 53 ≤ 2 ^ (i - 971).toNat := Nat.pow_le_pow_right (by omega) hh
    have a2 := Nat.mul_le_mul (show 1 ≤ m by omega) a1
    omega
  omega
set_option maxHeartbeats 400000 in
theorem Frexp_zero (x : Nat) (hz : (FloatKind.f64.format.order x 0 == some .eq) = true) (w : World) : Calls Tryd.prog 123 #[.float .f64 x] w fun e w' => e = .returned (.tuple #[.float .f64 x, .int .i64 0]) ∧ w = w' := by
  have HN := Lib.hid (show Calls Tryd.prog 150 #[.float .f64 x] w fun e w' => e = .returned (.tuple #[.float .f64 x, .int .i64 0]) ∧ w = w' from by
    go_enter Tryd.func150, Tryd.ntmps150
    go_wp2_with fail
    go_ret2
    exact ⟨rfl, rfl⟩)
  clear hz
  go_enter Tryd.func123, Tryd.ntmps123
  go_wp2_with (go_at_call 150; refine HN.out.mono ?_; rintro e w' ⟨rfl, rfl⟩)
  go_ret2
  exact ⟨rfl, rfl⟩
theorem Frexp_any (s : Bool) (m : Nat) (i : Int) (h : Fit m i) (w : World) : Calls Tryd.prog 123 #[.float .f64 (fw s m i)] w (SplitR s m i w) := by
  by_cases hm : m = 0
  · subst hm
    have hz := zero_fw s h
    rw [decide_eq_true rfl] at hz
    refine (Frexp_zero _ hz w).mono ?_
    rintro e w' ⟨rfl, rfl⟩
    refine ⟨0, 0, by omega, by omega, by omega, ?_, rfl, ?_⟩
    · rw [fw_zero, fw_zero]
    · have e0 : sg s 0 = 0 := by unfold sg; split <;> rfl
      rw [e0]
      unfold redZ
      rw [show (0 : Int).natAbs = 0 from rfl, redS_zero, redS_zero]
  · obtain ⟨b1, b2⟩ := fit_bounds h hm
    refine (Frexp_fin s m i h hm w).mono ?_
    rintro e w' ⟨k, hk, k1, k2, rfl, rfl⟩
    refine ⟨m * 2 ^ k, i - k + 53, k2, by omega, by omega, rfl, rfl, ?_⟩
    rw [sg_pow, redZ_pow]
    congr 1
    omega

set_option maxHeartbeats 400000 in
theorem iWidenedW (x : Nat) (w : World) : Calls Tryd.prog 180 #[.float .f64 x] w fun e w' => ∃ n, e = .returned (.float .f64 x) ∧ w' = w.drewN n := by
  go_enter Tryd.func180, Tryd.ntmps180
  go_wp2_with fail
  go_ret
  exact ⟨0, rfl, rfl⟩

set_option maxRecDepth 100000 in
set_option maxHeartbeats 4000000 in
theorem iValueOfW (x : Nat) (hx : x < 2 ^ 64) (w : World) (hTab : Tab w) : Calls Tryd.prog 82 #[.iface 99 (.float .f64 x)] w (RetYC (dyF x) w.heap.size w) := by
  obtain ⟨W0, hW0⟩ : ∃ W0 : World, w.alloc (.cells #[.int .i64 0, .slice none 0 0, .int .i64 0] 43) = W0 := ⟨_, rfl⟩
  obtain ⟨p1, p3, p4⟩ := one_box w 43 #[.int .i64 0, .slice none 0 0, .int .i64 0]
  rw [hW0] at p1 p3 p4
  have SR := Lib.hid (show ∀ W, Below W0.heap.size W0 W → _ from fun W hW => (p1.below hW).tri6)
  have P3 := Lib.hid p3
  have P4 := Lib.hid p4
  have HTB := Lib.hid (show ∀ W, Below W0.heap.size W0 W → Tab W from fun W hW => (hTab.below p3).below hW)
  have HWI := Lib.hid fun W => iWidenedW x W
  have hT : Below W0.heap.size W0 W0 := Below.refl _ _
  have HFI := Lib.hid fun W => isFiniteFloat_any x W
  clear hTab
  cases hf : isF .f64 x
  · rw [hf] at HFI
    rw [dyF_no hf]
    clear p1 p3 p4 hx hf
    go_enter Tryd.func82, Tryd.ntmps82
    go_wp2_with fail
    clear hW0
    refine (HWI.out _).mono ?_
    rintro e w1 ⟨n, rfl, rfl⟩
    go_wp2_with fail
    refine (HFI.out _).mono ?_
    rintro e w2 ⟨rfl, rfl⟩
    obtain ⟨q1, q2, q3, q4, q5, q6⟩ := SR.out _ (below_drewN hT n)
    go_wp2_with fail
    refine bodyPost_ret (v := .tuple #[.agg #[.int .i64 0, .slice none 0 0, .int .i64 0], .int .i64 1]) (by simp [results, Tryd.results82, go_sem, *]) rfl ?_
    exact retYC_zero (g := w.heap.size) 1 P3.out P4.out (below_drewN hT n) (by omega) _ _ _
  · rw [hf] at HFI
    obtain ⟨s, m, i, he, hF, hC⟩ := fin_fw hx hf
    rw [he, dyF_fw s hF]
    rw [he] at HWI HFI
    have HFR := Lib.hid fun W => Frexp_any s m i hF W
    obtain ⟨X, hX⟩ : ∃ X, fw s m i = X := ⟨_, rfl⟩
    rw [hX] at HWI HFI HFR ⊢
    obtain ⟨⟨r1, r2, r3⟩, hr⟩ : ∃ r, redZ (sg s m) i = r := ⟨_, rfl⟩
    rw [hr]
    have HG := Lib.hid (show ∀ (M : Nat) (q : Int), M < 2 ^ 53 → -3000 ≤ q → q ≤ 3000 → redZ (sg s M) (q - 53) = redZ (sg s m) i → ∃ (f : Nat) (z : Int) (g : Int), fw s M (-53) = f ∧ sg s M = z ∧ q - 53 = g ∧ IntKind.i64.wrap (q - 53) = g ∧ wrap64 (q - 53) = g ∧
        (∀ W : World, (binOp .mul 41 (.float .f64 f) (.float .f64 4845873199050653696)).run Tryd.prog W = .ok (.float .f64 (fw s M 0)) W) ∧ (∀ W : World, (convert 41 2 (.float .f64 (fw s M 0))).run Tryd.prog W = .ok (.int .i64 z) W) ∧ (-9007199254740992 ≤ z ∧ z ≤ 9007199254740992) ∧
        (∀ (b : Option Addr) (d lo : Nat) W, Below W0.heap.size W0 W → Own W lo b (lim z.natAbs) → Calls Tryd.prog 125 #[.agg #[.int .i64 z.sign, .slice b (lim z.natAbs).length d], .int .i64 g] W fun e w' => ∃ a c, e = .returned (.agg #[.int .i64 r1, .slice a r2.length c, .int .i64 r3]) ∧ r2.length ≤ c ∧ Own w' W0.heap.size a r2 ∧ Below W0.heap.size W0 w') from fun M q h1 h2 h3 h4 => by
      refine ⟨_, _, _, rfl, rfl, rfl, by rw [IntKind.wrap_i64]; omega, by unfold wrap64; omega, ?_, ?_, ?_, ?_⟩
      · intro W
        refine run_float_arith W _ _ _ _ _ _ ?_
        rw [fw_most, mul_fw s false (Fit.of h1 (by omega) (by omega)) (Fit.of (by omega) (by omega) (by omega)), Nat.mul_one]
        cases s <;> rfl
      · intro W
        have hv := int_fw s (m := M) (i := 0) (Fit.of h1 (by omega) (by omega)) (Int.le_refl 0)
        rw [show (-(0 : Int)).toNat = 0 by omega, Nat.pow_zero, Nat.div_one] at hv
        exact run_convert_float_int W _ _ _ _ _ _ (by rw [Tryd.underlying41]; rfl) Tryd.underlying2 hv
      · unfold sg
        split <;> omega
      · intro b d lo W hW ho
        have hz := Sg.of (sg s M)
        have := iReduced (sg s M).sign b (sg s M).natAbs d (q - 53) W _ (Nat.le_refl _) ho.ints hz (by rw [sg_abs, lim_length]; exact Nat.le_trans (dig_small (by omega)) (by omega)) (by omega) (by omega) (HTB.out W hW)
        have h5 : redS (sg s M).sign (sg s M).natAbs (q - 53) = (r1, r2, r3) := by rw [← hr, ← h4]; rfl
        unfold RetYR at this
        rw [h5] at this
        exact this.mono fun e w' ⟨a, c, he, hc, ho, hb⟩ => ⟨a, c, he, hc, ho.mono hW.size, hW.trans (hb.mono hW.size)⟩)
    clear p1 p3 p4 hx hf he hF hC hX hr
    go_enter Tryd.func82, Tryd.ntmps82
    go_wp2_with fail
    clear hW0
    refine (HWI.out _).mono ?_
    rintro e w1 ⟨n, rfl, rfl⟩
    go_wp2_with fail
    refine (HFI.out _).mono ?_
    rintro e w2 ⟨rfl, rfl⟩
    go_wp2_with fail
    refine (HFR.out _).mono ?_
    rintro e w3 ⟨M, q, m1, m2, m3, rfl, rfl, m4⟩
    obtain ⟨f, z, g, g1, g2, g3, g4, g5, g6, g7, g8, g9⟩ := HG.out M q m1 m2 m3 m4
    have HRE := Lib.hid g9
    have HW := Lib.hid (fun W => iWholeOf z (by omega) (by omega) W)
    rw [g1]
    clear g9 g1 g2 g3 m1 m4
    go_wp2_with fail
    refine (HW.out _).mono ?_
    rintro e w4 ⟨a4, c4, rfl, hc4, ho4, hb4⟩
    obtain ⟨W5, hW5⟩ : ∃ W5 : World, w4.alloc (.cells #[.int .i64 z.sign, .slice a4 (lim z.natAbs).length c4] 26) = W5 := ⟨_, rfl⟩
    obtain ⟨x1, x3, x4⟩ := one_box w4 26 #[.int .i64 z.sign, .slice a4 (lim z.natAbs).length c4]
    rw [hW5] at x1 x3 x4
    have hbn : Below W0.heap.size W0 (W0.drewN n) := below_drewN hT n
    have hb4' : Below W0.heap.size W0 w4 := hbn.trans hb4
    have hb5 : Below W0.heap.size W0 W5 := hb4'.trans (x3.mono hb4'.size)
    have ho5 : Own W5 (W0.drewN n).heap.size a4 (lim z.natAbs) := ho4.below x3
    obtain ⟨j1, j2, _, _⟩ := x1.two
    clear x1 x3 x4 ho4 hb4 hb4' hbn hc4
    go_wp2_with fail
    clear hW5
    refine (HRE.out _ _ _ _ hb5 ho5).mono ?_
    rintro e w6 ⟨a6, c6, rfl, hc6, ho6, hb6⟩
    obtain ⟨q1, q2, q3, q4, q5, q6⟩ := SR.out _ hb6
    have HC6 := Lib.hid hc6
    have HO6 := Lib.hid ho6
    clear hc6 ho6 hb5 ho5 j1 j2
    go_wp2_with fail
    refine bodyPost_ret (v := .tuple #[.agg #[.int .i64 r1, .slice a6 r2.length c6, .int .i64 r3], .int .i64 0]) (by simp [results, Tryd.results82, go_sem, *]) rfl ?_
    exact retYC_end (g := w.heap.size) (r := (r1, r2, r3, 0)) P3.out P4.out hb6 (by omega) (by omega) _ _ _ HO6.out HC6.out

set_option maxRecDepth 100000 in
set_option maxHeartbeats 1000000 in
theorem iDyadicOf (x : Nat) (hx : x < 2 ^ 64) (w : World) (hTab : Tab w) : Calls Tryd.prog 29 #[.float .f64 x] w (RetYC (dyF x) w.heap.size w) := by
  obtain ⟨W0, hW0⟩ : ∃ W0 : World, w.alloc (.cells #[.int .i64 0, .slice none 0 0, .int .i64 0] 43) = W0 := ⟨_, rfl⟩
  obtain ⟨p1, p3, p4⟩ := one_box w 43 #[.int .i64 0, .slice none 0 0, .int .i64 0]
  rw [hW0] at p1 p3 p4
  have SR := Lib.hid (show ∀ W, Below W0.heap.size W0 W → _ from fun W hW => (p1.below hW).tri6)
  have P3 := Lib.hid p3
  have P4 := Lib.hid p4
  have hT : Below W0.heap.size W0 W0 := Below.refl _ _
  have HV := Lib.hid (iValueOfW x hx W0 (hTab.below p3))
  obtain ⟨⟨r1, r2, r3, r4⟩, hr⟩ : ∃ r, dyF x = r := ⟨_, rfl⟩
  rw [hr] at HV ⊢
  clear p1 p3 p4 hx hTab hr
  go_enter Tryd.func29, Tryd.ntmps29
  go_wp2_with fail
  clear hW0
  refine HV.out.mono ?_
  rintro e w1 ⟨a6, c6, rfl, hc6, ho6, hb6⟩
  obtain ⟨q1, q2, q3, q4, q5, q6⟩ := SR.out _ hb6
  have HC6 := Lib.hid hc6
  have HO6 := Lib.hid ho6
  clear hc6 ho6
  go_wp2_with fail
  refine bodyPost_ret (v := .tuple #[.agg #[.int .i64 r1, .slice a6 r2.length c6, .int .i64 r3], .int .i64 r4]) (by simp [results, Tryd.results29, go_sem, *]) rfl ?_
  exact retYC_end (g := w.heap.size) (r := (r1, r2, r3, r4)) P3.out P4.out hb6 (by omega) (by omega) _ _ _ HO6.out HC6.out
end Go.Proofs.YtfjfmlofhifkmaaDoor
