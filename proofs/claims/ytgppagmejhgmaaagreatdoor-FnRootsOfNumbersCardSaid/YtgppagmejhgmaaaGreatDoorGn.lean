/-
  Contracts: the value of a float64 as an exact number, by the program. Conditions: the library's table is as its initialiser lays it. Contracts: the value of a float64 as an exact number, by the model. No conditions. Contracts: the value of a float32 as an exact number, by both sides. Conditions: the library's table is as its initialiser lays it. Contracts: an exact number that a float32 holds, rounded to a float32 by the program. Conditions: the limbs can be read; the library's table is as its initialiser lays it.
-/
import Derived.Test.YtgppagmejhgmaaaGreatDoorGa
import Derived.Test.YtgppagmejhgmaaaGreatDoorQm
import Derived.Test.YtgppagmejhgmaaaGreatDoorUg
import Derived.Handy
import Derived.Test.YtgppagmejhgmaaaGreatDoorGc
namespace Go.Proofs.YtgppagmejhgmaaaGreatDoor
set_option linter.unusedVariables false
open Go Go.RowKit

theorem sg_pow (s : Bool) (m k : Nat) : sg s (m * 2 ^ k) = sg s m * 2 ^ k := by
  unfold sg
  cases s
  · simp
  · simp [Int.neg_mul]
/-- What DyadicOf gives. -/
noncomputable def dyF (x : Nat) : Int × List Int × Int × Int := match FloatKind.f64.format.read x with
  | .number s m i => ((redZ (sg s m) i).1, (redZ (sg s m) i).2.1, (redZ (sg s m) i).2.2, 0)
  | _ => (0, [], 0, 1)
theorem dyF_no {x : Nat} (h : isF .f64 x = false) : dyF x = (0, [], 0, 1) := by
  unfold isF at h
  unfold dyF
  split <;> simp_all
theorem dyF_fw (s : Bool) {m : Nat} {i : Int} (h : Fit m i) : dyF (fw s m i) = ((redZ (sg s m) i).1, (redZ (sg s m) i).2.1, (redZ (sg s m) i).2.2, 0) := by
  obtain ⟨k, hr, _⟩ := read_fw s h
  unfold dyF
  have h2 : FloatKind.f64.format.read (fw s m i) = _ := hr
  rw [h2]
  simp only
  rw [sg_pow, redZ_pow, show i - (k : Int) + (k : Int) = i by omega]
theorem sgf_abs (s : Bool) (m : Nat) : (sg s m).natAbs = m := by
  unfold sg
  split <;> omega
theorem redZ_lenF (s : Bool) {m : Nat} (i : Int) (h : m < 2 ^ 53) : (redZ (sg s m) i).2.1.length ≤ 3 := by
  refine Nat.le_trans (redS_len _ _ _) ?_
  rw [sgf_abs, lim_length]
  exact dig_small (by omega)

theorem dyF_len (x : Nat) : (dyF x).2.1.length ≤ 3 := by
  unfold dyF
  split
  · rename_i s m i e
    exact redZ_lenF s i (read_fin_f64 e).1
  · simp
/-- The whole and the place of a float. -/
def SplitR (s : Bool) (m : Nat) (i : Int) (w : World) (e : Ending) (w' : World) : Prop :=
  ∃ (M : Nat) (q : Int), M < 2 ^ 53 ∧ -3000 ≤ q ∧ q ≤ 3000 ∧ e = .returned (.tuple #[.float .f64 (fw s M (-53)), .int .i64 q]) ∧ w = w' ∧ redZ (sg s M) (q - 53) = redZ (sg s m) i
theorem fit_bounds {m : Nat} {i : Int} (h : Fit m i) (hm : m ≠ 0) : -1074 ≤ i ∧ i ≤ 1100 := by
  obtain ⟨_, h2, h4⟩ := h
  have hh : ¬ (53 ≤ (i - 971).toNat) := fun hh => by
    have a1 : 2 ^ 53 ≤ 2 ^ (i - 971).toNat := Nat.pow_le_pow_right (by omega) hh
    have a2 := Nat.mul_le_mul (show 1 ≤ m by omega) a1
    omega
  omega
set_option maxHeartbeats 400000 in
theorem Frexp_zero (x : Nat) (hz : (FloatKind.f64.format.order x 0 == some .eq) = true) (w : World) : Calls Tryz.prog 110 #[.float .f64 x] w fun e w' => e = .returned (.tuple #[.float .f64 x, .int .i64 0]) ∧ w = w' := by
  have HN := Lib.hid (show Calls Tryz.prog 134 #[.float .f64 x] w fun e w' => e = .returned (.tuple #[.float .f64 x, .int .i64 0]) ∧ w = w' from by
    go_enter Tryz.func134, Tryz.ntmps134
    go_wp2_with fail
    go_ret2
    exact ⟨rfl, rfl⟩)
  clear hz
  go_enter Tryz.func110, Tryz.ntmps110
  go_wp2_with (go_at_call 134; refine HN.out.mono ?_; rintro e w' ⟨rfl, rfl⟩)
  go_ret2
  exact ⟨rfl, rfl⟩
theorem Frexp_any (s : Bool) (m : Nat) (i : Int) (h : Fit m i) (w : World) : Calls Tryz.prog 110 #[.float .f64 (fw s m i)] w (SplitR s m i w) := by
  by_cases hm : m = 0
  · subst hm
    have hz := zero_fw s h
    rw [decide_eq_true rfl] at hz
    refine (Frexp_zero _ hz w).mono ?_
    rintro e w' ⟨rfl, rfl⟩
    refine ⟨0, 0, by omega, by omega, by omega, ?_, rfl, ?_⟩
    · rw [fw_zero, fw_zero]
    · have e0 : sg s 0 = 0 := by unfold sg; split <;> rfl
      rw [e0]
      unfold redZ
      rw [show (0 : Int).natAbs = 0 from rfl, redS_zero, redS_zero]
  · obtain ⟨b1, b2⟩ := fit_bounds h hm
    refine (Frexp_fin s m i h hm w).mono ?_
    rintro e w' ⟨k, hk, k1, k2, rfl, rfl⟩
    refine ⟨m * 2 ^ k, i - k + 53, k2, by omega, by omega, rfl, rfl, ?_⟩
    rw [sg_pow, redZ_pow]
    congr 1
    omega

set_option maxHeartbeats 400000 in
theorem iWidenedW (x : Nat) (w : World) : Calls Tryz.prog 168 #[.float .f64 x] w fun e w' => ∃ n, e = .returned (.float .f64 x) ∧ w' = w.drewN n := by
  go_enter Tryz.func168, Tryz.ntmps168
  go_wp2_with fail
  go_ret
  exact ⟨0, rfl, rfl⟩

set_option maxRecDepth 100000 in
set_option maxHeartbeats 4000000 in
theorem iValueOfW (x : Nat) (hx : x < 2 ^ 64) (w : World) (hTab : Tab w) : Calls Tryz.prog 87 #[.iface 89 (.float .f64 x)] w (RetYC (dyF x) w.heap.size w) := by
  obtain ⟨W0, hW0⟩ : ∃ W0 : World, w.alloc (.cells #[.int .i64 0, .slice none 0 0, .int .i64 0] 62) = W0 := ⟨_, rfl⟩
  obtain ⟨p1, p3, p4⟩ := one_box w 62 #[.int .i64 0, .slice none 0 0, .int .i64 0]
  rw [hW0] at p1 p3 p4
  have SR := Lib.hid (show ∀ W, Below W0.heap.size W0 W → _ from fun W hW => (p1.below hW).tri6)
  have P3 := Lib.hid p3
  have P4 := Lib.hid p4
  have HTB := Lib.hid (show ∀ W, Below W0.heap.size W0 W → Tab W from fun W hW => (hTab.below p3).below hW)
  have HWI := Lib.hid fun W => iWidenedW x W
  have hT : Below W0.heap.size W0 W0 := Below.refl _ _
  have HFI := Lib.hid fun W => isFiniteFloat_any x W
  clear hTab
  cases hf : isF .f64 x
  · rw [hf] at HFI
    rw [dyF_no hf]
    clear p1 p3 p4 hx hf
    go_enter Tryz.func87, Tryz.ntmps87
    go_wp2_with fail
    clear hW0
    refine (HWI.out _).mono ?_
    rintro e w1 ⟨n, rfl, rfl⟩
    go_wp2_with fail
    refine (HFI.out _).mono ?_
    rintro e w2 ⟨rfl, rfl⟩
    obtain ⟨q1, q2, q3, q4, q5, q6⟩ := SR.out _ (below_drewN hT n)
    go_wp2_with fail
    refine bodyPost_ret (v := .tuple #[.agg #[.int .i64 0, .slice none 0 0, .int .i64 0], .int .i64 1]) (by simp [results, Tryz.results87, go_sem, *]) rfl ?_
    exact retYC_zero (g := w.heap.size) 1 P3.out P4.out (below_drewN hT n) (by omega) _ _ _
  · rw [hf] at HFI
    obtain ⟨s, m, i, he, hF, hC⟩ := fin_fw hx hf
    rw [he, dyF_fw s hF]
    rw [he] at HWI HFI
    have HFR := Lib.hid fun W => Frexp_any s m i hF W
    obtain ⟨X, hX⟩ : ∃ X, fw s m i = X := ⟨_, rfl⟩
    rw [hX] at HWI HFI HFR ⊢
    obtain ⟨⟨r1, r2, r3⟩, hr⟩ : ∃ r, redZ (sg s m) i = r := ⟨_, rfl⟩
    rw [hr]
    have HG := Lib.hid (show ∀ (M : Nat) (q : Int), M < 2 ^ 53 → -3000 ≤ q → q ≤ 3000 → redZ (sg s M) (q - 53) = redZ (sg s m) i → ∃ (f : Nat) (z : Int) (g : Int), fw s M (-53) = f ∧ sg s M = z ∧ q - 53 = g ∧ IntKind.i64.wrap (q - 53) = g ∧ wrap64 (q - 53) = g ∧
        (∀ W : World, (binOp .mul 24 (.float .f64 f) (.float .f64 4845873199050653696)).run Tryz.prog W = .ok (.float .f64 (fw s M 0)) W) ∧ (∀ W : World, (convert 24 2 (.float .f64 (fw s M 0))).run Tryz.prog W = .ok (.int .i64 z) W) ∧ (-9007199254740992 ≤ z ∧ z ≤ 9007199254740992) ∧
        (∀ (b : Option Addr) (d lo : Nat) W, Below W0.heap.size W0 W → Own W lo b (lim z.natAbs) → Calls Tryz.prog 67 #[.agg #[.int .i64 z.sign, .slice b (lim z.natAbs).length d], .int .i64 g] W fun e w' => ∃ a c, e = .returned (.agg #[.int .i64 r1, .slice a r2.length c, .int .i64 r3]) ∧ r2.length ≤ c ∧ Own w' W0.heap.size a r2 ∧ Below W0.heap.size W0 w') from fun M q h1 h2 h3 h4 => by
      refine ⟨_, _, _, rfl, rfl, rfl, by rw [IntKind.wrap_i64]; omega, by unfold wrap64; omega, ?_, ?_, ?_, ?_⟩
      · intro W
        refine run_float_arith W _ _ _ _ _ _ ?_
        rw [fw_most, mul_fw s false (Fit.of h1 (by omega) (by omega)) (Fit.of (by omega) (by omega) (by omega)), Nat.mul_one]
        cases s <;> rfl
      · intro W
        have hv := int_fw s (m := M) (i := 0) (Fit.of h1 (by omega) (by omega)) (Int.le_refl 0)
        rw [show (-(0 : Int)).toNat = 0 by omega, Nat.pow_zero, Nat.div_one] at hv
        exact run_convert_float_int W _ _ _ _ _ _ (by rw [Tryz.underlying24]; rfl) Tryz.underlying2 hv
      · unfold sg
        split <;> omega
      · intro b d lo W hW ho
        have hz := Sg.of (sg s M)
        have := iReduced (sg s M).sign b (sg s M).natAbs d (q - 53) W _ (Nat.le_refl _) ho.ints hz (by rw [sgf_abs, lim_length]; exact Nat.le_trans (dig_small (by omega)) (by omega)) (by omega) (by omega) (HTB.out W hW)
        have h5 : redS (sg s M).sign (sg s M).natAbs (q - 53) = (r1, r2, r3) := by rw [← hr, ← h4]; rfl
        unfold RetYR at this
        rw [h5] at this
        exact this.mono fun e w' ⟨a, c, he, hc, ho, hb⟩ => ⟨a, c, he, hc, ho.mono hW.size, hW.trans (hb.mono hW.size)⟩)
    clear p1 p3 p4 hx hf he hF hC hX hr
    go_enter Tryz.func87, Tryz.ntmps87
    go_wp2_with fail
    clear hW0
    refine (HWI.out _).mono ?_
    rintro e w1 ⟨n, rfl, rfl⟩
    go_wp2_with fail
    refine (HFI.out _).mono ?_
    rintro e w2 ⟨rfl, rfl⟩
    go_wp2_with fail
    refine (HFR.out _).mono ?_
    rintro e w3 ⟨M, q, m1, m2, m3, rfl, rfl, m4⟩
    obtain ⟨f, z, g, g1, g2, g3, g4, g5, g6, g7, g8, g9⟩ := HG.out M q m1 m2 m3 m4
    have HRE := Lib.hid g9
    have HW := Lib.hid (fun W => iWholeOf z (by omega) (by omega) W)
    rw [g1]
    clear g9 g1 g2 g3 m1 m4
    go_wp2_with fail
    refine (HW.out _).mono ?_
    rintro e w4 ⟨a4, c4, rfl, hc4, ho4, hb4⟩
    obtain ⟨W5, hW5⟩ : ∃ W5 : World, w4.alloc (.cells #[.int .i64 z.sign, .slice a4 (lim z.natAbs).length c4] 60) = W5 := ⟨_, rfl⟩
    obtain ⟨x1, x3, x4⟩ := one_box w4 60 #[.int .i64 z.sign, .slice a4 (lim z.natAbs).length c4]
    rw [hW5] at x1 x3 x4
    have hbn : Below W0.heap.size W0 (W0.drewN n) := below_drewN hT n
    have hb4' : Below W0.heap.size W0 w4 := hbn.trans hb4
    have hb5 : Below W0.heap.size W0 W5 := hb4'.trans (x3.mono hb4'.size)
    have ho5 : Own W5 (W0.drewN n).heap.size a4 (lim z.natAbs) := ho4.below x3
    obtain ⟨j1, j2, _, _⟩ := x1.two
    clear x1 x3 x4 ho4 hb4 hb4' hbn hc4
    go_wp2_with fail
    clear hW5
    refine (HRE.out _ _ _ _ hb5 ho5).mono ?_
    rintro e w6 ⟨a6, c6, rfl, hc6, ho6, hb6⟩
    obtain ⟨q1, q2, q3, q4, q5, q6⟩ := SR.out _ hb6
    have HC6 := Lib.hid hc6
    have HO6 := Lib.hid ho6
    clear hc6 ho6 hb5 ho5 j1 j2
    go_wp2_with fail
    refine bodyPost_ret (v := .tuple #[.agg #[.int .i64 r1, .slice a6 r2.length c6, .int .i64 r3], .int .i64 0]) (by simp [results, Tryz.results87, go_sem, *]) rfl ?_
    exact retYC_end (g := w.heap.size) (r := (r1, r2, r3, 0)) P3.out P4.out hb6 (by omega) (by omega) _ _ _ HO6.out HC6.out

set_option maxRecDepth 100000 in
set_option maxHeartbeats 1000000 in
theorem iDyadicOf (x : Nat) (hx : x < 2 ^ 64) (w : World) (hTab : Tab w) : Calls Tryz.prog 59 #[.float .f64 x] w (RetYC (dyF x) w.heap.size w) := by
  obtain ⟨W0, hW0⟩ : ∃ W0 : World, w.alloc (.cells #[.int .i64 0, .slice none 0 0, .int .i64 0] 62) = W0 := ⟨_, rfl⟩
  obtain ⟨p1, p3, p4⟩ := one_box w 62 #[.int .i64 0, .slice none 0 0, .int .i64 0]
  rw [hW0] at p1 p3 p4
  have SR := Lib.hid (show ∀ W, Below W0.heap.size W0 W → _ from fun W hW => (p1.below hW).tri6)
  have P3 := Lib.hid p3
  have P4 := Lib.hid p4
  have hT : Below W0.heap.size W0 W0 := Below.refl _ _
  have HV := Lib.hid (iValueOfW x hx W0 (hTab.below p3))
  obtain ⟨⟨r1, r2, r3, r4⟩, hr⟩ : ∃ r, dyF x = r := ⟨_, rfl⟩
  rw [hr] at HV ⊢
  clear p1 p3 p4 hx hTab hr
  go_enter Tryz.func59, Tryz.ntmps59
  go_wp2_with fail
  clear hW0
  refine HV.out.mono ?_
  rintro e w1 ⟨a6, c6, rfl, hc6, ho6, hb6⟩
  obtain ⟨q1, q2, q3, q4, q5, q6⟩ := SR.out _ hb6
  have HC6 := Lib.hid hc6
  have HO6 := Lib.hid ho6
  clear hc6 ho6
  go_wp2_with fail
  refine bodyPost_ret (v := .tuple #[.agg #[.int .i64 r1, .slice a6 r2.length c6, .int .i64 r3], .int .i64 r4]) (by simp [results, Tryz.results59, go_sem, *]) rfl ?_
  exact retYC_end (g := w.heap.size) (r := (r1, r2, r3, r4)) P3.out P4.out hb6 (by omega) (by omega) _ _ _ HO6.out HC6.out

theorem sg_div (s : Bool) (m K : Nat) (h : m % 2 ^ K = 0) : sg s m = sg s (m / 2 ^ K) * 2 ^ K := by
  rw [← sg_pow, Nat.div_mul_cancel (Nat.dvd_of_mod_eq_zero h)]
@[go_sem] theorem neg_fl (k : FloatKind) (b : Nat) : Op.unary .neg (.float k b) = pure (.float k (Op.negFloat k b)) := rfl
def intQ : Value → Int
  | .int _ n => n
  | _ => 0

set_option maxRecDepth 100000 in
set_option maxHeartbeats 4000000 in
theorem sL03Of (s : Bool) (m : Nat) (i : Int) (hF : Fit m i) (hC : Canon f64 m i) (w : World) : Calls Tryz.prog 57 #[.float .f64 (fw s m i)] w (RetYR (redZ (sg s m) i) w) := by
  obtain ⟨W0, hW0⟩ : ∃ W0 : World, w.alloc (.cells #[.int .i64 0, .slice none 0 0, .int .i64 0] 62) = W0 := ⟨_, rfl⟩
  obtain ⟨p1, p3, p4⟩ := one_box w 62 #[.int .i64 0, .slice none 0 0, .int .i64 0]
  rw [hW0] at p1 p3 p4
  have SR := Lib.hid (show ∀ W, Below W0.heap.size W0 W → _ from fun W hW => (p1.below hW).tri6)
  have P3 := Lib.hid p3
  have P4 := Lib.hid p4
  have hT : Below W0.heap.size W0 W0 := Below.refl _ _
  have hz := zero_fw s hF
  by_cases hm : m = 0
  · subst hm
    rw [decide_eq_true rfl] at hz
    have e0 : sg s 0 = 0 := by unfold sg; split <;> rfl
    have e1 : redZ (sg s 0) i = (0, [], 0) := by
      rw [e0]
      unfold redZ
      rw [show (0 : Int).natAbs = 0 from rfl, redS_zero]
    rw [e1]
    obtain ⟨X, hX⟩ : ∃ X, fw s 0 i = X := ⟨_, rfl⟩
    rw [hX] at hz ⊢
    obtain ⟨q1, q2, q3, q4, q5, q6⟩ := SR.out _ hT
    clear hX e0 e1 hF hC p1 p3 p4
    go_enter Tryz.func57, Tryz.ntmps57
    go_wp2_with fail
    clear hW0
    refine bodyPost_ret (v := .agg #[.int .i64 0, .slice none 0 0, .int .i64 0]) (by simp [results, Tryz.results57, go_sem, *]) rfl ?_
    first
    | exact ⟨none, 0, rfl, Nat.le_refl _, Own.nil, P3.out⟩
    | exact retYR_zero (g := w.heap.size) P3.out P4.out hT (by omega) _ _ _
  · rw [decide_eq_false hm] at hz
    obtain ⟨i1, i2⟩ := fit_bounds hF hm
    have i3 : i ≤ 971 := by
      obtain ⟨_, _, h4⟩ := hF
      have h5 := hC.2.2
      rw [f64_bin, f64_low] at h5
      have hh : ¬ (1 ≤ (i - 971).toNat) := fun hh => by
        have a1 : 2 ^ 1 ≤ 2 ^ (i - 971).toNat := Nat.pow_le_pow_right (by omega) hh
        rcases h5 with h5 | h5
        · omega
        · have a2 := Nat.mul_le_mul h5 a1
          omega
      omega
    have hm53 : m < 2 ^ 53 := hF.1
    have hbig : 1 ≤ i → 2 ^ 52 ≤ m := fun hh => by
      have h5 := hC.2.2
      rw [f64_bin, f64_low] at h5
      omega
    have hneg : Op.negFloat .f64 4845873199050653696 = 14069245235905429504 := by decide +kernel
    -- the tests and steps, by place
    have HGE := Lib.hid (show ∀ j : Int, -1074 ≤ j → j ≤ i → (FloatKind.f64.format.order (fw s m j) 4845873199050653696 == some .gt || FloatKind.f64.format.order (fw s m j) 4845873199050653696 == some .eq) = (!s && decide (1 ≤ j)) ∧ (FloatKind.f64.format.order (fw s m j) 14069245235905429504 == some .lt || FloatKind.f64.format.order (fw s m j) 14069245235905429504 == some .eq) = (s && decide (1 ≤ j)) from fun j h1 h2 =>
      ⟨ge_most s (Fit.of hm53 h1 (by omega)) (fun hh => hbig (by omega)), le_most s (Fit.of hm53 h1 (by omega)) (fun hh => hbig (by omega))⟩)
    have HHF := Lib.hid (show ∀ j : Int, 1 ≤ j → j ≤ i → ∀ W : World, (binOp .quo 24 (.float .f64 (fw s m j)) (.float .f64 4611686018427387904)).run Tryz.prog W = .ok (.float .f64 (fw s m (j - 1))) W from fun j h1 h2 W => run_float_arith W _ _ _ _ _ _ (half_fw s (Fit.of hm53 (by omega) (by omega))))
    have HDB := Lib.hid (show ∀ j : Int, -1074 ≤ j → j ≤ 0 → ∀ W : World, (binOp .mul 24 (.float .f64 (fw s m j)) (.float .f64 4611686018427387904)).run Tryz.prog W = .ok (.float .f64 (fw s m (j + 1))) W from fun j h1 h2 W => run_float_arith W _ _ _ _ _ _ (dbl_fw s (by omega) h1))
    have HCV := Lib.hid (show ∀ j : Int, -1074 ≤ j → j ≤ 0 → (∀ W : World, (convert 24 2 (.float .f64 (fw s m j))).run Tryz.prog W = .ok (.int .i64 (sg s (m / 2 ^ (-j).toNat))) W) ∧ (FloatKind.f64.format.order (floatOfInt .f64 (sg s (m / 2 ^ (-j).toNat))) (fw s m j) != some .eq) = decide (m % 2 ^ (-j).toNat ≠ 0) from fun j h1 h2 =>
      ⟨fun W => run_convert_float_int W _ _ _ _ _ _ (by rw [Tryz.underlying24]; rfl) Tryz.underlying2 (int_fw s (Fit.of hm53 h1 (by omega)) h2), whole_fw s (Fit.of hm53 h1 (by omega)) h2 hm⟩)
    have HEND := Lib.hid (show ∀ (K : Nat) (e : Int), m % 2 ^ K = 0 → e = i + K → K ≤ 1074 → ∃ z : Int, sg s (m / 2 ^ K) = z ∧ (-9007199254740992 ≤ z ∧ z ≤ 9007199254740992) ∧ (∀ W : World, Calls Tryz.prog 84 #[.int .i64 z] W (RetN z.sign z.natAbs W)) ∧
      (∀ (b : Option Addr) (d lo : Nat) W, Below W0.heap.size W0 W → Own W lo b (lim z.natAbs) → Calls Tryz.prog 86 #[.agg #[.int .i64 z.sign, .slice b (lim z.natAbs).length d], .int .i64 e] W fun e w' => ∃ a c, e = .returned (.agg #[.int .i64 (redZ (sg s m) i).1, .slice a (redZ (sg s m) i).2.1.length c, .int .i64 (redZ (sg s m) i).2.2]) ∧ (redZ (sg s m) i).2.1.length ≤ c ∧ Own w' W0.heap.size a (redZ (sg s m) i).2.1 ∧ Below W0.heap.size W0 w') from fun K e h1 h2 hK => by
      have hle : m / 2 ^ K ≤ m := Nat.div_le_self _ _
      have hbz : -9007199254740992 ≤ sg s (m / 2 ^ K) ∧ sg s (m / 2 ^ K) ≤ 9007199254740992 := by
        generalize m / 2 ^ K = y at hle
        unfold sg
        split <;> omega
      refine ⟨_, rfl, hbz, fun W => sOf _ (by omega) (by omega) W, ?_⟩
      intro b d lo W hW ho
      have hz := Sg.of (sg s (m / 2 ^ K))
      have hln : (sg s (m / 2 ^ K)).natAbs = m / 2 ^ K := sgf_abs _ _
      have := sMake3 (sg s (m / 2 ^ K)).sign b (sg s (m / 2 ^ K)).natAbs d e W _ (Nat.le_refl _) ho.ints hz (by rw [hln, lim_length]; exact Nat.le_trans (dig_small (by omega)) (by omega)) (by omega) (by omega)
      have h5 : redS (sg s (m / 2 ^ K)).sign (sg s (m / 2 ^ K)).natAbs e = redZ (sg s m) i := by
        rw [sg_div s m K h1, redZ_pow, ← h2]
        rfl
      unfold RetYR at this
      rw [h5] at this
      exact this.mono fun e w' ⟨a, c, he, hc, ho, hb⟩ => ⟨a, c, he, hc, ho.mono hW.size, hW.trans (hb.mono hW.size)⟩)
    obtain ⟨f, hf⟩ : ∃ f : Int → Nat, fw s m = f := ⟨_, rfl⟩
    rw [hf] at HGE HHF HDB HCV hz ⊢
    obtain ⟨⟨r1, r2, r3⟩, hr⟩ : ∃ r, redZ (sg s m) i = r := ⟨_, rfl⟩
    rw [hr] at HEND ⊢
    clear p1 p3 p4 hF hC hm hm53 hbig hf hr
    go_enter Tryz.func57, Tryz.ntmps57
    go_wp2_with fail
    clear hz
    go_loopw [0, 3] (fun v e wr => ∃ h : Nat, v = .float .f64 (f (i - h)) ∧ e = .int .i64 (h : Int) ∧ (h = 0 ∨ 0 ≤ i - h) ∧ wr = W0) (fun _ e _ => (i - intQ e).toNat)
    case atStart => exact ⟨0, by simp, rfl, .inl rfl, by first | rfl | exact hW0⟩
    case round =>
      obtain ⟨h, rfl, rfl, hh, rfl⟩ := hrel
      by_cases hj : 1 ≤ i - h
      · obtain ⟨g1, g2⟩ := HGE.out (i - h) (by omega) (by omega)
        have g3 := HHF.out (i - h) hj (by omega)
        rw [decide_eq_true hj] at g1 g2
        have hhI : (h : Int) ≤ 2000 := by omega
        cases s
        · simp only [Bool.not_false, Bool.and_true, Bool.and_false] at g1 g2
          go_wp2_with fail
          go_roundw
          case rel => exact ⟨h + 1, by congr 2; omega, by go_num, by omega, by first | rfl | trivial⟩
          case measure => simp [intQ] <;> omega
        · simp only [Bool.not_true, Bool.and_true, Bool.false_and] at g1 g2
          go_wp2_with fail
          go_roundw
          case rel => exact ⟨h + 1, by congr 2; omega, by go_num, by omega, by first | rfl | trivial⟩
          case measure => simp [intQ] <;> omega
      · obtain ⟨g1, g2⟩ := HGE.out (i - h) (by omega) (by omega)
        rw [decide_eq_false hj, Bool.and_false] at g1 g2
        have hhI : (h : Int) ≤ 2000 := by omega
        go_wp2_with fail
        clear g1 g2 HGE HHF hneg
        go_loopw [0, 3] (fun v e wr' => ∃ d : Nat, v = .float .f64 (f (i - h + d)) ∧ e = .int .i64 ((h : Int) - d) ∧ (d = 0 ∨ i - h + d ≤ 0) ∧ wr' = wr) (fun _ e _ => (intQ e + 1100).toNat)
        case atStart => exact ⟨0, by simp, by simp, .inl rfl, rfl⟩
        case round =>
          obtain ⟨d, rfl, rfl, hd, rfl⟩ := hrel
          obtain ⟨j, hj2⟩ : ∃ j : Int, i - h + d = j := ⟨_, rfl⟩
          have hj0 : j ≤ 0 := by omega
          have hj1 : -1074 ≤ j := by omega
          rw [hj2]
          obtain ⟨c1, c2⟩ := HCV.out j hj1 hj0
          have hdI : (d : Int) ≤ 3100 := by omega
          by_cases hK : m % 2 ^ (-j).toNat = 0
          · obtain ⟨z, hz1, ⟨hz2, hz3⟩, hz4, hz5⟩ := HEND.out (-j).toNat ((h : Int) - d) hK (by omega) (by omega)
            have HOF := Lib.hid hz4
            have HMK := Lib.hid hz5
            rw [hz1] at c1 c2
            rw [decide_eq_false (fun hh => hh hK)] at c2
            clear hz1 hz4 hz5 HCV HDB HEND hK
            go_wp2_with fail
            refine (HOF.out _).mono ?_
            rintro e w4 ⟨a4, c4, rfl, hc4, ho4, hb4⟩
            go_wp2_with fail
            refine (HMK.out _ _ _ _ hb4 ho4).mono ?_
            rintro e w6 ⟨a6, c6, rfl, hc6, ho6, hb6⟩
            obtain ⟨q1, q2, q3, q4, q5, q6⟩ := SR.out _ hb6
            have HC6 := Lib.hid hc6
            have HO6 := Lib.hid ho6
            clear hc6 ho6 hc4 ho4 hb4
            go_wp2_with fail
            refine bodyPost_ret (v := .agg #[.int .i64 r1, .slice a6 r2.length c6, .int .i64 r3]) (by simp [results, Tryz.results57, go_sem, *]) rfl ?_
            exact retYR_end (g := w.heap.size) (r := (r1, r2, r3)) P3.out P4.out hb6 (by omega) (by omega) _ _ _ HO6.out HC6.out
          · have hjn : j ≠ 0 := fun hh => hK (by rw [hh]; simp [Nat.mod_one])
            rw [decide_eq_true (p := m % 2 ^ (-j).toNat ≠ 0) hK] at c2
            have c3 := HDB.out j hj1 hj0
            obtain ⟨z, hz⟩ : ∃ z, sg s (m / 2 ^ (-j).toNat) = z := ⟨_, rfl⟩
            rw [hz] at c1 c2
            clear HCV HDB HEND hK hz
            go_wp2_with fail
            go_roundw
            case rel => exact ⟨d + 1, by congr 2; omega, by go_num, .inr (by omega), by first | rfl | trivial⟩
            case measure => simp [intQ] <;> omega

theorem read_fin_f32 {x : Nat} {s : Bool} {m : Nat} {i : Int} (h : FloatKind.f32.format.read x = .number s m i) : m < 2 ^ 24 ∧ -149 ≤ i ∧ i ≤ 104 := by
  have e1 : FloatKind.f32.format.signWeight = 2 ^ 31 := by decide
  have e2 : FloatKind.f32.format.binade = 2 ^ 23 := by decide
  have e3 : FloatKind.f32.format.infRung = 0x7f800000 := by decide
  have e4 : FloatKind.f32.format.leastPlace = -149 := by decide
  simp only [Ieee.Format.read, e1, e2, e3, e4] at h
  split at h
  · simp only [Ieee.Datum.number.injEq] at h
    omega
  · split at h
    · simp only [Ieee.Datum.number.injEq] at h
      omega
    · split at h <;> cases h
/-- What DyadicOfNarrow gives. -/
noncomputable def dyN (x : Nat) : Int × List Int × Int × Int := match FloatKind.f32.format.read x with
  | .number s m i => ((redZ (sg s m) i).1, (redZ (sg s m) i).2.1, (redZ (sg s m) i).2.2, 0)
  | _ => (0, [], 0, 1)
theorem dyN_len (x : Nat) : (dyN x).2.1.length ≤ 3 := by
  unfold dyN
  split
  · rename_i s m i e
    exact redZ_lenF s i (by have := (read_fin_f32 e).1; omega)
  · simp
/-- A float32 made wide: some float64 of the same value. -/
theorem conv_ex (t : TypeId) (ht : (Tryz.prog.underlying t).isSome = true) (x : Nat) (W : World) : ∃ y n : Nat, (convert t 24 (.float .f32 x)).run Tryz.prog W = .ok (.float .f64 y) (W.drewN n) ∧ y < 2 ^ 64 ∧ dyF y = dyN x := by
  cases e : FloatKind.f32.format.read x with
  | number s m i =>
    obtain ⟨h1, h2, h3⟩ := read_fin_f32 e
    have hF : Fit m i := Fit.of (by omega) (by omega) (by omega)
    have he : FloatKind.f64.encode (.number s m i) = fw s m i := by
      show f64.nearest s m i = _
      rw [nearest_rung]; rfl
    have hni : (FloatKind.f64.decode (fw s m i)).isInfinity = false := by
      obtain ⟨k, hr, _⟩ := read_fw s hF
      have h2 : FloatKind.f64.decode (fw s m i) = _ := hr
      rw [h2]; rfl
    refine ⟨fw s m i, 0, ?_, fw_lt s m i, ?_⟩
    · refine run_convert_float_float W _ _ _ _ _ _ ht Tryz.underlying24 ?_
      unfold floatToFloatBits
      rw [if_neg (by decide)]
      have h2 : FloatKind.f32.decode x = _ := e
      rw [h2]
      simp only
      rw [he, hni]
      rfl
    · rw [dyF_fw s hF]
      unfold dyN
      rw [e]
  | infinity s =>
    have he : FloatKind.f64.encode (.infinity s) = f64.word s 0x7ff0000000000000 := by
      show f64.word s f64.infRung = _
      rw [f64_inf]
    refine ⟨f64.word s 0x7ff0000000000000, 0, ?_, by cases s <;> decide +kernel, ?_⟩
    · refine run_convert_float_float W _ _ _ _ _ _ ht Tryz.underlying24 ?_
      unfold floatToFloatBits
      rw [if_neg (by decide)]
      have h2 : FloatKind.f32.decode x = _ := e
      rw [h2]
      simp only
      rw [he]
    · have hf : isF .f64 (f64.word s 0x7ff0000000000000) = false := by
        unfold isF
        have h2 : FloatKind.f64.format.read (f64.word s 0x7ff0000000000000) = _ := read_inf s
        rw [h2]
      rw [dyF_no hf]
      unfold dyN
      rw [e]
  | nan s f =>
    obtain ⟨u, hu⟩ := Option.isSome_iff_exists.1 ht
    have h2 : FloatKind.f32.decode x = .nan s f := e
    refine ⟨(Question.nanConv .f64 x).cut (W.tape W.drawn (.nanConv .f64 x)), 1, ?_, ?_, ?_⟩
    · cases u <;> simp [convert, run_underlying hu, run_underlying Tryz.underlying24, Conv.floatToFloat, h2, Question.forced, World.drew_is_drewN]
    · exact nan_cut_wf x x _
    · have hn : isN .f64 ((Question.nanConv .f64 x).cut (W.tape W.drawn (.nanConv .f64 x))) = true := nan_cut_f64 x x _
      rw [dyF_no (isN_not_isF hn)]
      unfold dyN
      rw [e]

set_option maxHeartbeats 400000 in
theorem iWidenedN (x : Nat) (w : World) : Calls Tryz.prog 169 #[.float .f32 x] w fun e w' => ∃ y n, e = .returned (.float .f64 y) ∧ w' = w.drewN n ∧ y < 2 ^ 64 ∧ dyF y = dyN x := by
  obtain ⟨y, n, h1, h2, h3⟩ := conv_ex 137 (by rw [Tryz.underlying137]; rfl) x w
  have H2 := Lib.hid h2
  have H3 := Lib.hid h3
  clear h2 h3
  go_enter Tryz.func169, Tryz.ntmps169
  go_wp2_with fail
  go_ret
  exact ⟨_, _, rfl, rfl, H2.out, H3.out⟩

/-- What Frexp leads to. -/
def FrP (W0 : World) (r1 : Int) (r2 : List Int) (r3 : Int) (w : World) (e : Ending) (w' : World) : Prop :=
  ∃ (f fz : Nat) (z q g : Int), e = .returned (.tuple #[.float .f64 f, .int .i64 q]) ∧ w = w' ∧ -3000 ≤ q ∧ q ≤ 3000 ∧ q - 53 = g ∧ IntKind.i64.wrap (q - 53) = g ∧ wrap64 (q - 53) = g ∧
    (∀ W : World, (binOp .mul 24 (.float .f64 f) (.float .f64 4845873199050653696)).run Tryz.prog W = .ok (.float .f64 fz) W) ∧ (∀ W : World, (convert 24 2 (.float .f64 fz)).run Tryz.prog W = .ok (.int .i64 z) W) ∧ (-9007199254740992 ≤ z ∧ z ≤ 9007199254740992) ∧
    Hid (∀ (b : Option Addr) (d lo : Nat) W, Below W0.heap.size W0 W → Own W lo b (lim z.natAbs) → Calls Tryz.prog 67 #[.agg #[.int .i64 z.sign, .slice b (lim z.natAbs).length d], .int .i64 g] W fun e w' => ∃ a c, e = .returned (.agg #[.int .i64 r1, .slice a r2.length c, .int .i64 r3]) ∧ r2.length ≤ c ∧ Own w' W0.heap.size a r2 ∧ Below W0.heap.size W0 w')
theorem val_facts (y : Nat) (hy : y < 2 ^ 64) (hf : isF .f64 y = true) (W0 : World) (HTB : ∀ W, Below W0.heap.size W0 W → Tab W) (r1 : Int) (r2 : List Int) (r3 r4 : Int) (hr : dyF y = (r1, r2, r3, r4)) : r4 = 0 ∧ ∀ W, Calls Tryz.prog 110 #[.float .f64 y] W (FrP W0 r1 r2 r3 W) := by
  obtain ⟨s, m, i, he, hF, hC⟩ := fin_fw hy hf
  subst he
  rw [dyF_fw s hF] at hr
  have h4 : r4 = 0 := (congrArg (fun r : Int × List Int × Int × Int => r.2.2.2) hr).symm
  have hz3 : redZ (sg s m) i = (r1, r2, r3) := by
    exact congrArg (fun r : Int × List Int × Int × Int => (r.1, r.2.1, r.2.2.1)) hr
  refine ⟨h4, fun W => (Frexp_any s m i hF W).mono ?_⟩
  rintro e w' ⟨M, q, h1, h2, h3, rfl, rfl, h5⟩
  refine ⟨_, fw s M 0, sg s M, q, _, rfl, rfl, h2, h3, rfl, by rw [IntKind.wrap_i64]; omega, by unfold wrap64; omega, ?_, ?_, ?_, Lib.hid ?_⟩
  · intro W
    refine run_float_arith W _ _ _ _ _ _ ?_
    rw [fw_most, mul_fw s false (Fit.of h1 (by omega) (by omega)) (Fit.of (by omega) (by omega) (by omega)), Nat.mul_one]
    cases s <;> rfl
  · intro W
    have hv := int_fw s (m := M) (i := 0) (Fit.of h1 (by omega) (by omega)) (Int.le_refl 0)
    rw [show (-(0 : Int)).toNat = 0 by omega, Nat.pow_zero, Nat.div_one] at hv
    exact run_convert_float_int W _ _ _ _ _ _ (by rw [Tryz.underlying24]; rfl) Tryz.underlying2 hv
  · unfold sg
    split <;> omega
  · intro b d lo W hW ho
    have hz := Sg.of (sg s M)
    have := iReduced (sg s M).sign b (sg s M).natAbs d (q - 53) W _ (Nat.le_refl _) ho.ints hz (by rw [sgf_abs, lim_length]; exact Nat.le_trans (dig_small (by omega)) (by omega)) (by omega) (by omega) (HTB W hW)
    have h6 : redS (sg s M).sign (sg s M).natAbs (q - 53) = (r1, r2, r3) := by rw [← hz3, ← h5]; rfl
    unfold RetYR at this
    rw [h6] at this
    exact this.mono fun e w' ⟨a, c, he, hc, ho, hb⟩ => ⟨a, c, he, hc, ho.mono hW.size, hW.trans (hb.mono hW.size)⟩

set_option maxRecDepth 100000 in
set_option maxHeartbeats 4000000 in
theorem iValueOfN (x : Nat) (w : World) (hTab : Tab w) : Calls Tryz.prog 87 #[.iface 137 (.float .f32 x)] w (RetYC (dyN x) w.heap.size w) := by
  obtain ⟨W0, hW0⟩ : ∃ W0 : World, w.alloc (.cells #[.int .i64 0, .slice none 0 0, .int .i64 0] 62) = W0 := ⟨_, rfl⟩
  obtain ⟨p1, p3, p4⟩ := one_box w 62 #[.int .i64 0, .slice none 0 0, .int .i64 0]
  rw [hW0] at p1 p3 p4
  have SR := Lib.hid (show ∀ W, Below W0.heap.size W0 W → _ from fun W hW => (p1.below hW).tri6)
  have P3 := Lib.hid p3
  have P4 := Lib.hid p4
  have HTB := Lib.hid (show ∀ W, Below W0.heap.size W0 W → Tab W from fun W hW => (hTab.below p3).below hW)
  have HWI := Lib.hid fun W => iWidenedN x W
  have hT : Below W0.heap.size W0 W0 := Below.refl _ _
  obtain ⟨⟨r1, r2, r3, r4⟩, hr⟩ : ∃ r, dyN x = r := ⟨_, rfl⟩
  rw [hr] at HWI ⊢
  clear hTab p1 p3 p4 hr
  go_enter Tryz.func87, Tryz.ntmps87
  go_wp2_with fail
  clear hW0
  refine (HWI.out _).mono ?_
  rintro e w1 ⟨y, n, rfl, rfl, hy, hdy⟩
  have HFI := Lib.hid fun W => isFiniteFloat_any y W
  cases hf : isF .f64 y
  · rw [hf] at HFI
    rw [dyF_no hf] at hdy
    injection hdy with e1 hdy
    injection hdy with e2 hdy
    injection hdy with e3 e4
    subst e1 e2 e3 e4
    clear hf hy
    go_wp2_with fail
    refine (HFI.out _).mono ?_
    rintro e w2 ⟨rfl, rfl⟩
    obtain ⟨q1, q2, q3, q4, q5, q6⟩ := SR.out _ (below_drewN hT n)
    go_wp2_with fail
    refine bodyPost_ret (v := .tuple #[.agg #[.int .i64 0, .slice none 0 0, .int .i64 0], .int .i64 1]) (by simp [results, Tryz.results87, go_sem, *]) rfl ?_
    exact retYC_zero (g := w.heap.size) 1 P3.out P4.out (below_drewN hT n) (by omega) _ _ _
  · rw [hf] at HFI
    obtain ⟨rfl, hfr⟩ := val_facts y hy hf W0 HTB.out r1 r2 r3 r4 hdy
    have HFR := Lib.hid hfr
    clear hf hy hdy hfr
    go_wp2_with fail
    refine (HFI.out _).mono ?_
    rintro e w2 ⟨rfl, rfl⟩
    go_wp2_with fail
    refine (HFR.out _).mono ?_
    rintro e w3 ⟨f, fz, z, q, g, rfl, rfl, g2, g3, g4, g5, g6, g7, g8, ⟨g9, g10⟩, HRE⟩
    have HW := Lib.hid (fun W => iWholeOf z (by omega) (by omega) W)
    clear g4
    go_wp2_with fail
    refine (HW.out _).mono ?_
    rintro e w4 ⟨a4, c4, rfl, hc4, ho4, hb4⟩
    obtain ⟨W5, hW5⟩ : ∃ W5 : World, w4.alloc (.cells #[.int .i64 z.sign, .slice a4 (lim z.natAbs).length c4] 60) = W5 := ⟨_, rfl⟩
    obtain ⟨x1, x3, x4⟩ := one_box w4 60 #[.int .i64 z.sign, .slice a4 (lim z.natAbs).length c4]
    rw [hW5] at x1 x3 x4
    have hbn : Below W0.heap.size W0 (W0.drewN n) := below_drewN hT n
    have hb4' : Below W0.heap.size W0 w4 := hbn.trans hb4
    have hb5 : Below W0.heap.size W0 W5 := hb4'.trans (x3.mono hb4'.size)
    have ho5 : Own W5 (W0.drewN n).heap.size a4 (lim z.natAbs) := ho4.below x3
    obtain ⟨j1, j2, _, _⟩ := x1.two
    clear x1 x3 x4 ho4 hb4 hb4' hbn hc4
    go_wp2_with fail
    clear hW5
    refine (HRE.out _ _ _ _ hb5 ho5).mono ?_
    rintro e w6 ⟨a6, c6, rfl, hc6, ho6, hb6⟩
    obtain ⟨q1, q2, q3, q4, q5, q6⟩ := SR.out _ hb6
    have HC6 := Lib.hid hc6
    have HO6 := Lib.hid ho6
    clear hc6 ho6 hb5 ho5 j1 j2
    go_wp2_with fail
    refine bodyPost_ret (v := .tuple #[.agg #[.int .i64 r1, .slice a6 r2.length c6, .int .i64 r3], .int .i64 0]) (by simp [results, Tryz.results87, go_sem, *]) rfl ?_
    exact retYC_end (g := w.heap.size) (r := (r1, r2, r3, 0)) P3.out P4.out hb6 (by omega) (by omega) _ _ _ HO6.out HC6.out

open Go Go.RowKit Ieee

def f32 : Format := FloatKind.f32.format
theorem f32_sw : f32.signWeight = 2 ^ 31 := by decide
theorem f32_bin : f32.binade = 2 ^ 23 := by decide
theorem f32_inf : f32.infRung = 0x7f800000 := by decide
theorem f32_low : f32.leastPlace = -149 := by decide
/-- What reading tells of a word: its rung is that of the number. -/
theorem read_canonN {x : Nat} {s : Bool} {m : Nat} {i : Int} (h : f32.read x = .number s m i) :
    x % 2 ^ 31 = rawRung f32 m i ∧ x % 2 ^ 31 < 0x7f800000 ∧ s = (x / 2 ^ 31 % 2 == 1) := by
  have hc : Canon f32 m i ∧ x % 2 ^ 31 = (i - f32.leastPlace).toNat * f32.binade + m ∧ x % 2 ^ 31 < 0x7f800000 ∧ s = (x / 2 ^ 31 % 2 == 1) := by
    simp only [Format.read, f32_sw, f32_bin, f32_inf, f32_low] at h
    unfold Canon
    rw [f32_bin, f32_low]
    split at h
    · simp only [Datum.number.injEq] at h
      obtain ⟨h1, h2, h3⟩ := h
      refine ⟨⟨by omega, by omega, by omega⟩, ?_, by omega, h1.symm⟩
      rw [show (i - -149).toNat = 0 by omega]; omega
    · split at h
      · simp only [Datum.number.injEq] at h
        obtain ⟨h1, h2, h3⟩ := h
        refine ⟨⟨by omega, by omega, by omega⟩, ?_, by omega, h1.symm⟩
        have h4 : (i - -149).toNat = x % 2 ^ 31 / 2 ^ 23 - 1 := by omega
        rw [h4, ← h2]
        omega
      · split at h <;> cases h
  exact ⟨by rw [rawRung_canon f32 hc.1]; exact hc.2.1, hc.2.2⟩
theorem word_partsN {x : Nat} (hx : x < 2 ^ 32) : x = f32.word (x / 2 ^ 31 % 2 == 1) (x % 2 ^ 31) := by
  unfold Format.word
  rw [f32_sw]
  by_cases h : x / 2 ^ 31 % 2 = 1
  · rw [if_pos (by simpa using h)]; omega
  · rw [if_neg (by simpa using h)]; omega
/-- A float64 that holds a float32's value, made narrow, is this float32. -/
theorem narrow_back {x : Nat} (hx : x < 2 ^ 32) {s : Bool} {m : Nat} {i : Int} (h : FloatKind.f32.format.read x = .number s m i) : floatToFloatBits .f64 (fw s m i) .f32 = some x := by
  obtain ⟨h1, h2, h3⟩ := read_fin_f32 h
  obtain ⟨k, hr, _⟩ := read_fw s (Fit.of (m := m) (i := i) (by omega) (by omega) (by omega))
  obtain ⟨g1, g2, g3⟩ := read_canonN h
  have he : FloatKind.f32.encode (.number s (m * 2 ^ k) (i - k)) = x := by
    show f32.nearest s (m * 2 ^ k) (i - k) = x
    rw [nearest_eq, f32_inf, rawRung_shift, ← g1, Nat.min_eq_left (by omega), g3]
    exact (word_partsN hx).symm
  unfold floatToFloatBits
  rw [if_neg (by decide)]
  have h4 : FloatKind.f64.decode (fw s m i) = _ := hr
  rw [h4]
  simp only
  rw [he]
  have h5 : FloatKind.f32.decode x = _ := h
  rw [h5]
  rfl
theorem order_zeroN {x : Nat} {s : Bool} {i : Int} (h : FloatKind.f32.format.read x = .number s 0 i) : (FloatKind.f32.format.order 0 x == some .eq) = true := by
  have h0 : FloatKind.f32.format.read 0 = .number false 0 (-149) := by decide +kernel
  unfold Format.order
  rw [h, h0]
  simp only [Datum.order]
  have e1 : ∀ k, signed false 0 k = 0 := fun k => by rw [signed_false]; simp
  have e2 : ∀ k, signed s 0 k = 0 := fun k => by cases s; exact e1 k; rw [signed_true]; simp
  rw [e1, e2]
  rfl
theorem order_sameN {x : Nat} {s : Bool} {m : Nat} {i : Int} (h : FloatKind.f32.format.read x = .number s m i) : (FloatKind.f32.format.order x x == some .eq) = true := by
  unfold Format.order
  rw [h]
  simp only [Datum.order]
  rw [compare_int]
  simp

/-- How a float32's exact value is rounded back. -/
structure RoundedN (s : Int) (m : Nat) (x q : Int) (r x0 y : Nat) : Prop where
  place : max (blen m + x - 24) (-149) = q
  mult : nsh m (x - q) = r
  least : -149 ≤ q
  high : q ≤ 104
  most : r < 2 ^ 24
  ok : m ≠ 0 ∨ 0 ≤ x - q
  over : blen r + q ≤ 128
  back : floatToFloatBits .f64 (fw (decide (s < 0)) r q) .f32 = some y
  same : (FloatKind.f32.format.order y x0 == some .eq) = true
theorem narrow_held {x0 : Nat} (hx : x0 < 2 ^ 32) {s e : Int} {l : List Int} (h : dyN x0 = (s, l, e, 0)) : ∃ u q r y, l = lim u ∧ IsDy s (lim u) e ∧ RoundedN s u e q r x0 y := by
  unfold dyN at h
  split at h
  · rename_i b m i hr
    obtain ⟨h1, h2, h3⟩ := read_fin_f32 hr
    simp only [Prod.mk.injEq] at h
    obtain ⟨e1, e2, e3, _⟩ := h
    by_cases h0 : m = 0
    · subst h0
      have e0 : sg b 0 = 0 := by unfold sg; cases b <;> rfl
      have er : redZ (sg b 0) i = (0, [], 0) := by rw [e0]; unfold redZ; exact redS_zero _ _
      rw [er] at e1 e2 e3
      simp only at e1 e2 e3
      subst e1 e2 e3
      refine ⟨0, -24, 0, 0, lim_zero.symm, ⟨isWh_lim (by rw [lim_zero]; simp) (.inl ⟨rfl, rfl⟩), by omega, by omega, .inl ⟨rfl, rfl⟩⟩, ?_, ?_, by omega, by omega, by omega, by omega, ?_, ?_, order_zeroN hr⟩
      · rw [blen_zero]; rfl
      · unfold nsh; simp
      · rw [blen_zero]; omega
      · rw [fw_zero]; decide +kernel
    · have hz : (sg b m).natAbs = m := sgf_abs b m
      have er : redZ (sg b m) i = ((sg b m).sign, lim (od m), i + (tw m : Int)) := by unfold redZ; rw [hz]; exact redS_pos h0
      rw [er] at e1 e2 e3
      simp only at e1 e2 e3
      subst e1 e2 e3
      obtain ⟨ho, hp⟩ := od_mul h0
      have hod : od m ≠ 0 := fun h => by rw [h] at hp; omega
      have ho' : m = od m * 2 ^ tw m := by rw [Nat.mul_comm]; exact ho
      have hlog : m.log2 = (od m).log2 + tw m := by
        have := log2_shift hod (tw m)
        rw [← ho'] at this
        exact this
      have hl24 : m.log2 ≤ 23 := by
        have h5 := log_le h0
        have h6 : 2 ^ m.log2 < 2 ^ 24 := by omega
        have := (Nat.pow_lt_pow_iff_right (by omega : 1 < 2)).1 h6
        omega
      have hle : od m ≤ m := by
        have h3 := Nat.mul_le_mul_right (od m) (Nat.pow_pos (n := tw m) (show 0 < 2 by omega))
        rw [← ho] at h3
        omega
      have hlen : (lim (od m)).length ≤ 200 := by
        rw [lim_length]
        have := dig_small (n := od m) (by omega)
        omega
      have hs : (sg b m).sign = 1 ∨ (sg b m).sign = -1 := by
        have hne : sg b m ≠ 0 := fun hh => by rw [hh] at hz; exact h0 hz.symm
        rcases Int.lt_trichotomy (sg b m) 0 with hh | hh | hh
        · exact .inr (Int.sign_eq_neg_one_of_neg hh)
        · exact absurd hh hne
        · exact .inl (Int.sign_eq_one_of_pos hh)
      have hb : decide ((sg b m).sign < 0) = b := by
        have h7 := (sg_neg (s := b) h0).1
        refine Eq.trans (decide_eq_decide.2 ?_) h7
        rcases Int.lt_trichotomy (sg b m) 0 with hh | hh | hh
        · rw [Int.sign_eq_neg_one_of_neg hh]; omega
        · rw [hh]; decide
        · rw [Int.sign_eq_one_of_pos hh]; omega
      obtain ⟨q, hq⟩ : ∃ q : Int, q = max ((m.log2 : Int) + 1 + i - 24) (-149) := ⟨_, rfl⟩
      obtain ⟨K, hK⟩ : ∃ K : Nat, i - q = (K : Int) := ⟨(i - q).toNat, by omega⟩
      have hr2 : (m * 2 ^ K).log2 = m.log2 + K := log2_shift h0 K
      have hrp : m * 2 ^ K ≠ 0 := by
        have := Nat.mul_pos (Nat.pos_of_ne_zero h0) (Nat.two_pow_pos K)
        omega
      have hr24 : m * 2 ^ K < 2 ^ 24 := by
        have h8 := lt_two_log (m * 2 ^ K)
        rw [hr2] at h8
        exact Nat.lt_of_lt_of_le h8 (Nat.pow_le_pow_right (by omega) (by omega))
      refine ⟨od m, q, m * 2 ^ K, x0, rfl, ⟨isWh_lim hlen (.inr ⟨hod, hs⟩), by omega, by omega, .inr ⟨by omega, ?_⟩⟩, ?_, ?_, by omega, by omega, hr24, .inl hod, ?_, ?_, order_sameN hr⟩
      · rw [lim_getD]
        omega
      · rw [blen_log hod, hq]
        omega
      · unfold nsh
        rw [if_pos (by omega), show (i + (tw m : Int) - q).toNat = tw m + K by omega, Nat.pow_add, ← Nat.mul_assoc, ← ho']
      · rw [blen_log hrp, hr2]
        omega
      · rw [hb]
        have h9 := fw_shift b m i K
        rw [show i - (K : Int) = q by omega] at h9
        rw [h9]
        exact narrow_back hx hr
  · simp at h

theorem ldexp_smallN {r : Nat} {q : Int} (h : r < 2 ^ 24) (h1 : -149 ≤ q) (h2 : q ≤ 104) (w : World) : Calls Tryz.prog 96 #[.float .f64 (fw false r 0), .int .i64 q] w fun e w' => e = .returned (.float .f64 (fw false r q)) ∧ w = w' :=
  Ldexp_rnd (by omega) (by omega) (.inl ⟨by omega, by omega⟩) w

set_option maxRecDepth 100000 in
set_option maxHeartbeats 400000 in
theorem iWidthN (w : World) : Calls Tryz.prog 92 #[.iface 137 (.float .f32 0)] w (RetB (.agg #[.int .i64 24, .int .i64 (-149), .int .i64 128]) w) := by
  have hta : ∀ W : World, (Instr.typeAssert (.iface 137 (.float .f32 0)) 127 137 true).run Tryz.prog W = .ok (.tuple #[.float .f32 0, .bool true]) W := fun W => by kernel_rfl
  go_enter Tryz.func92, Tryz.ntmps92
  go_wp2_with fail
  refine bodyPost_ret (v := .agg #[.int .i64 24, .int .i64 (-149), .int .i64 128]) (by simp [results, Tryz.results92, go_sem, *]) rfl ?_
  exact ⟨rfl, (Below.refl _ w).alloc (Nat.le_refl _) _⟩

/-- A variable that holds the width of a float32. -/
def WAtN (W0 W : World) (p : Value) : Prop := ∃ g, p = .pointer (some ⟨g, 0, none⟩) ∧ W0.heap.size ≤ g ∧ BoxAt W g 113 #[.int .i64 24, .int .i64 (-149), .int .i64 128] ∧ Below W0.heap.size W0 W
theorem WAtN.mk1 {W0 W : World} (hb : Below W0.heap.size W0 W) : WAtN W0 (W.alloc (.cells #[.int .i64 24, .int .i64 (-149), .int .i64 128] 113)) (.pointer (some ⟨W.heap.size, 0, none⟩)) :=
  ⟨_, rfl, hb.size, BoxAt.new _ _ _, hb.alloc hb.size _⟩
theorem WAtN.mk2 {W0 W : World} {g : Nat} {v0 v1 v2 : Value} (hq : BoxAt W g 113 #[v0, v1, v2]) (hg : W0.heap.size ≤ g) (hb : Below W0.heap.size W0 W) :
    WAtN W0 (((W.setCell ⟨g, 0, none⟩ (.int .i64 24)).setCell ⟨g, 1, none⟩ (.int .i64 (-149))).setCell ⟨g, 2, none⟩ (.int .i64 128)) (.pointer (some ⟨g, 0, none⟩)) := by
  refine ⟨_, rfl, hg, ?_, below_set3 hb hg _ _ _⟩
  have := ((hq.set_ 0 (.int .i64 24)).set_ 1 (.int .i64 (-149))).set_ 2 (.int .i64 128)
  simpa using this
theorem WAtN.below {W0 W W' : World} {p : Value} (h : WAtN W0 W p) (hb : Below W.heap.size W W') : WAtN W0 W' p := by
  obtain ⟨g, hp, hg, hx, h0⟩ := h
  exact ⟨g, hp, hg, hx.below hb, h0.trans (hb.mono h0.size)⟩

end Go.Proofs.YtgppagmejhgmaaaGreatDoor
