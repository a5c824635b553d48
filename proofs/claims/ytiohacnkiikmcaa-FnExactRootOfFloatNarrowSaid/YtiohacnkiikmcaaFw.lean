/-
  Contracts: the value of a float64 as an exact number, by the program. Conditions: the library's table is as its initialiser lays it. Contracts: the value of a float64 as an exact number, by the model. No conditions. Contracts: the value of a float32 as an exact number, by both sides. Conditions: the library's table is as its initialiser lays it.
-/
import Derived.Test.YtiohacnkiikmcaaGa
import Derived.Test.YtiohacnkiikmcaaQm
import Derived.Test.YtiohacnkiikmcaaUg
import Derived.Handy
namespace Go.Proofs.Ytiohacnkiikmcaa
set_option linter.unusedVariables false
open Go Go.RowKit

theorem sg_pow (s : Bool) (m k : Nat) : sg s (m * 2 ^ k) = sg s m * 2 ^ k := by
  unfold sg
  cases s
  · simp
  · simp [Int.neg_mul]
/-- What DyadicOf gives. -/
noncomputable def dyF (x : Nat) : Int × List Int × Int × Int := match FloatKind.f64.format.read x with
  | .number s m i => ((redZ (sg s m) i).1, (redZ (sg s m) i).2.1, (redZ (sg s m) i).2.2, 0)
  | _ => (0, [], 0, 1)
theorem dyF_no {x : Nat} (h : isF .f64 x = false) : dyF x = (0, [], 0, 1) := by
  unfold isF at h
  unfold dyF
  split <;> simp_all
theorem dyF_fw (s : Bool) {m : Nat} {i : Int} (h : Fit m i) : dyF (fw s m i) = ((redZ (sg s m) i).1, (redZ (sg s m) i).2.1, (redZ (sg s m) i).2.2, 0) := by
  obtain ⟨k, hr, _⟩ := read_fw s h
  unfold dyF
  have h2 : FloatKind.f64.format.read (fw s m i) = _ := hr
  rw [h2]
  simp only
  rw [sg_pow, redZ_pow, show i - (k : Int) + (k : Int) = i by omega]
theorem sgf_abs (s : Bool) (m : Nat) : (sg s m).natAbs = m := by
  unfold sg
  split <;> omega
theorem redZ_lenF (s : Bool) {m : Nat} (i : Int) (h : m < 2 ^ 53) : (redZ (sg s m) i).2.1.length ≤ 3 := by
  refine Nat.le_trans (redS_len _ _ _) ?_
  rw [sgf_abs, lim_length]
  exact dig_small (by omega)

theorem dyF_len (x : Nat) : (dyF x).2.1.length ≤ 3 := by
  unfold dyF
  split
  · rename_i s m i e
    exact redZ_lenF s i (read_fin_f64 e).1
  · simp
/-- The whole and the place of a float. -/
def SplitR (s : Bool) (m : Nat) (i : Int) (w : World) (e : Ending) (w' : World) : Prop :=
  ∃ (M : Nat) (q : Int), M < 2 ^ 53 ∧ -3000 ≤ q ∧ q ≤ 3000 ∧ e = .returned (.tuple #[.float .f64 (fw s M (-53)), .int .i64 q]) ∧ w = w' ∧ redZ (sg s M) (q - 53) = redZ (sg s m) i
theorem fit_bounds {m : Nat} {i : Int} (h : Fit m i) (hm : m ≠ 0) : -1074 ≤ i ∧ i ≤ 1100 := by
  obtain ⟨_, h2, h4⟩ := h
  have hh : ¬ (53 ≤ (i - 971).toNat) := fun hh => by
    have a1 : 2 ^ 53 ≤ 2 ^ (i - 971).toNat := Nat.pow_le_pow_right (by omega) hh
    have a2 := Nat.mul_le_mul (show 1 ≤ m by omega) a1
    omega
  omega
theorem sg_div (s : Bool) (m K : Nat) (h : m % 2 ^ K = 0) : sg s m = sg s (m / 2 ^ K) * 2 ^ K := by
  rw [← sg_pow, Nat.div_mul_cancel (Nat.dvd_of_mod_eq_zero h)]
@[go_sem] theorem neg_fl (k : FloatKind) (b : Nat) : Op.unary .neg (.float k b) = pure (.float k (Op.negFloat k b)) := rfl
def intQ : Value → Int
  | .int _ n => n
  | _ => 0

set_option maxRecDepth 100000 in
set_option maxHeartbeats 4000000 in
theorem sL03Of (s : Bool) (m : Nat) (i : Int) (hF : Fit m i) (hC : Canon f64 m i) (w : World) : Calls Try.prog 101 #[.float .f64 (fw s m i)] w (RetYR (redZ (sg s m) i) w) := by
  obtain ⟨W0, hW0⟩ : ∃ W0 : World, w.alloc (.cells #[.int .i64 0, .slice none 0 0, .int .i64 0] 105) = W0 := ⟨_, rfl⟩
  obtain ⟨p1, p3, p4⟩ := one_box w 105 #[.int .i64 0, .slice none 0 0, .int .i64 0]
  rw [hW0] at p1 p3 p4
  have SR := Lib.hid (show ∀ W, Below W0.heap.size W0 W → _ from fun W hW => (p1.below hW).tri6)
  have P3 := Lib.hid p3
  have P4 := Lib.hid p4
  have hT : Below W0.heap.size W0 W0 := Below.refl _ _
  have hz := zero_fw s hF
  by_cases hm : m = 0
  · subst hm
    rw [decide_eq_true rfl] at hz
    have e0 : sg s 0 = 0 := by unfold sg; split <;> rfl
    have e1 : redZ (sg s 0) i = (0, [], 0) := by
      rw [e0]
      unfold redZ
      rw [show (0 : Int).natAbs = 0 from rfl, redS_zero]
    rw [e1]
    obtain ⟨X, hX⟩ : ∃ X, fw s 0 i = X := ⟨_, rfl⟩
    rw [hX] at hz ⊢
    obtain ⟨q1, q2, q3, q4, q5, q6⟩ := SR.out _ hT
    clear hX e0 e1 hF hC p1 p3 p4
    go_enter Try.func101, Try.ntmps101
    go_wp2_with fail
    clear hW0
    refine bodyPost_ret (v := .agg #[.int .i64 0, .slice none 0 0, .int .i64 0]) (by simp [results, Try.results101, go_sem, *]) rfl ?_
    first
    | exact ⟨none, 0, rfl, Nat.le_refl _, Own.nil, P3.out⟩
    | exact retYR_zero (g := w.heap.size) P3.out P4.out hT (by omega) _ _ _
  · rw [decide_eq_false hm] at hz
    obtain ⟨i1, i2⟩ := fit_bounds hF hm
    have i3 : i ≤ 971 := by
      obtain ⟨_, _, h4⟩ := hF
      have h5 := hC.2.2
      rw [f64_bin, f64_low] at h5
      have hh : ¬ (1 ≤ (i - 971).toNat) := fun hh => by
        have a1 : 2 ^ 1 ≤ 2 ^ (i - 971).toNat := Nat.pow_le_pow_right (by omega) hh
        rcases h5 with h5 | h5
        · omega
        · have a2 := Nat.mul_le_mul h5 a1
          omega
      omega
    have hm53 : m < 2 ^ 53 := hF.1
    have hbig : 1 ≤ i → 2 ^ 52 ≤ m := fun hh => by
      have h5 := hC.2.2
      rw [f64_bin, f64_low] at h5
      omega
    have hneg : Op.negFloat .f64 4845873199050653696 = 14069245235905429504 := by decide +kernel
    -- the tests and steps, by place
    have HGE := Lib.hid (show ∀ j : Int, -1074 ≤ j → j ≤ i → (FloatKind.f64.format.order (fw s m j) 4845873199050653696 == some .gt || FloatKind.f64.format.order (fw s m j) 4845873199050653696 == some .eq) = (!s && decide (1 ≤ j)) ∧ (FloatKind.f64.format.order (fw s m j) 14069245235905429504 == some .lt || FloatKind.f64.format.order (fw s m j) 14069245235905429504 == some .eq) = (s && decide (1 ≤ j)) from fun j h1 h2 =>
      ⟨ge_most s (Fit.of hm53 h1 (by omega)) (fun hh => hbig (by omega)), le_most s (Fit.of hm53 h1 (by omega)) (fun hh => hbig (by omega))⟩)
    have HHF := Lib.hid (show ∀ j : Int, 1 ≤ j → j ≤ i → ∀ W : World, (binOp .quo 42 (.float .f64 (fw s m j)) (.float .f64 4611686018427387904)).run Try.prog W = .ok (.float .f64 (fw s m (j - 1))) W from fun j h1 h2 W => run_float_arith W _ _ _ _ _ _ (half_fw s (Fit.of hm53 (by omega) (by omega))))
    have HDB := Lib.hid (show ∀ j : Int, -1074 ≤ j → j ≤ 0 → ∀ W : World, (binOp .mul 42 (.float .f64 (fw s m j)) (.float .f64 4611686018427387904)).run Try.prog W = .ok (.float .f64 (fw s m (j + 1))) W from fun j h1 h2 W => run_float_arith W _ _ _ _ _ _ (dbl_fw s (by omega) h1))
    have HCV := Lib.hid (show ∀ j : Int, -1074 ≤ j → j ≤ 0 → (∀ W : World, (convert 42 2 (.float .f64 (fw s m j))).run Try.prog W = .ok (.int .i64 (sg s (m / 2 ^ (-j).toNat))) W) ∧ (FloatKind.f64.format.order (floatOfInt .f64 (sg s (m / 2 ^ (-j).toNat))) (fw s m j) != some .eq) = decide (m % 2 ^ (-j).toNat ≠ 0) from fun j h1 h2 =>
      ⟨fun W => run_convert_float_int W _ _ _ _ _ _ (by rw [Try.underlying42]; rfl) Try.underlying2 (int_fw s (Fit.of hm53 h1 (by omega)) h2), whole_fw s (Fit.of hm53 h1 (by omega)) h2 hm⟩)
    have HEND := Lib.hid (show ∀ (K : Nat) (e : Int), m % 2 ^ K = 0 → e = i + K → K ≤ 1074 → ∃ z : Int, sg s (m / 2 ^ K) = z ∧ (-9007199254740992 ≤ z ∧ z ≤ 9007199254740992) ∧ (∀ W : World, Calls Try.prog 113 #[.int .i64 z] W (RetN z.sign z.natAbs W)) ∧
      (∀ (b : Option Addr) (d lo : Nat) W, Below W0.heap.size W0 W → Own W lo b (lim z.natAbs) → Calls Try.prog 115 #[.agg #[.int .i64 z.sign, .slice b (lim z.natAbs).length d], .int .i64 e] W fun e w' => ∃ a c, e = .returned (.agg #[.int .i64 (redZ (sg s m) i).1, .slice a (redZ (sg s m) i).2.1.length c, .int .i64 (redZ (sg s m) i).2.2]) ∧ (redZ (sg s m) i).2.1.length ≤ c ∧ Own w' W0.heap.size a (redZ (sg s m) i).2.1 ∧ Below W0.heap.size W0 w') from fun K e h1 h2 hK => by
      have hle : m / 2 ^ K ≤ m := Nat.div_le_self _ _
      have hbz : -9007199254740992 ≤ sg s (m / 2 ^ K) ∧ sg s (m / 2 ^ K) ≤ 9007199254740992 := by
        generalize m / 2 ^ K = y at hle
        unfold sg
        split <;> omega
      refine ⟨_, rfl, hbz, fun W => sOf _ (by omega) (by omega) W, ?_⟩
      intro b d lo W hW ho
      have hz := Sg.of (sg s (m / 2 ^ K))
      have hln : (sg s (m / 2 ^ K)).natAbs = m / 2 ^ K := sgf_abs _ _
      have := sMake3 (sg s (m / 2 ^ K)).sign b (sg s (m / 2 ^ K)).natAbs d e W _ (Nat.le_refl _) ho.ints hz (by rw [hln, lim_length]; exact Nat.le_trans (dig_small (by omega)) (by omega)) (by omega) (by omega)
      have h5 : redS (sg s (m / 2 ^ K)).sign (sg s (m / 2 ^ K)).natAbs e = redZ (sg s m) i := by
        rw [sg_div s m K h1, redZ_pow, ← h2]
        rfl
      unfold RetYR at this
      rw [h5] at this
      exact this.mono fun e w' ⟨a, c, he, hc, ho, hb⟩ => ⟨a, c, he, hc, ho.mono hW.size, hW.trans (hb.mono hW.size)⟩)
    obtain ⟨f, hf⟩ : ∃ f : Int → Nat, fw s m = f := ⟨_, rfl⟩
    rw [hf] at HGE HHF HDB HCV hz ⊢
    obtain ⟨⟨r1, r2, r3⟩, hr⟩ : ∃ r, redZ (sg s m) i = r := ⟨_, rfl⟩
    rw [hr] at HEND ⊢
    clear p1 p3 p4 hF hC hm hm53 hbig hf hr
    go_enter Try.func101, Try.ntmps101
    go_wp2_with fail
    clear hz
    go_loopw [0, 3] (fun v e wr => ∃ h : Nat, v = .float .f64 (f (i - h)) ∧ e = .int .i64 (h : Int) ∧ (h = 0 ∨ 0 ≤ i - h) ∧ wr = W0) (fun _ e _ => (i - intQ e).toNat)
    case atStart => exact ⟨0, by simp, rfl, .inl rfl, by first | rfl | exact hW0⟩
    case round =>
      obtain ⟨h, rfl, rfl, hh, rfl⟩ := hrel
      by_cases hj : 1 ≤ i - h
      · obtain ⟨g1, g2⟩ := HGE.out (i - h) (by omega) (by omega)
        have g3 := HHF.out (i - h) hj (by omega)
        rw [decide_eq_true hj] at g1 g2
        have hhI : (h : Int) ≤ 2000 := by omega
        cases s
        · simp only [Bool.not_false, Bool.and_true, Bool.and_false] at g1 g2
          go_wp2_with fail
          go_roundw
          case rel => exact ⟨h + 1, by congr 2; omega, by go_num, by omega, by first | rfl | trivial⟩
          case measure => simp [intQ] <;> omega
        · simp only [Bool.not_true, Bool.and_true, Bool.false_and] at g1 g2
          go_wp2_with fail
          go_roundw
          case rel => exact ⟨h + 1, by congr 2; omega, by go_num, by omega, by first | rfl | trivial⟩
          case measure => simp [intQ] <;> omega
      · obtain ⟨g1, g2⟩ := HGE.out (i - h) (by omega) (by omega)
        rw [decide_eq_false hj, Bool.and_false] at g1 g2
        have hhI : (h : Int) ≤ 2000 := by omega
        go_wp2_with fail
        clear g1 g2 HGE HHF hneg
        go_loopw [0, 3] (fun v e wr' => ∃ d : Nat, v = .float .f64 (f (i - h + d)) ∧ e = .int .i64 ((h : Int) - d) ∧ (d = 0 ∨ i - h + d ≤ 0) ∧ wr' = wr) (fun _ e _ => (intQ e + 1100).toNat)
        case atStart => exact ⟨0, by simp, by simp, .inl rfl, rfl⟩
        case round =>
          obtain ⟨d, rfl, rfl, hd, rfl⟩ := hrel
          obtain ⟨j, hj2⟩ : ∃ j : Int, i - h + d = j := ⟨_, rfl⟩
          have hj0 : j ≤ 0 := by omega
          have hj1 : -1074 ≤ j := by omega
          rw [hj2]
          obtain ⟨c1, c2⟩ := HCV.out j hj1 hj0
          have hdI : (d : Int) ≤ 3100 := by omega
          by_cases hK : m % 2 ^ (-j).toNat = 0
          · obtain ⟨z, hz1, ⟨hz2, hz3⟩, hz4, hz5⟩ := HEND.out (-j).toNat ((h : Int) - d) hK (by omega) (by omega)
            have HOF := Lib.hid hz4
            have HMK := Lib.hid hz5
            rw [hz1] at c1 c2
            rw [decide_eq_false (fun hh => hh hK)] at c2
            clear hz1 hz4 hz5 HCV HDB HEND hK
            go_wp2_with fail
            refine (HOF.out _).mono ?_
            rintro e w4 ⟨a4, c4, rfl, hc4, ho4, hb4⟩
            go_wp2_with fail
            refine (HMK.out _ _ _ _ hb4 ho4).mono ?_
            rintro e w6 ⟨a6, c6, rfl, hc6, ho6, hb6⟩
            obtain ⟨q1, q2, q3, q4, q5, q6⟩ := SR.out _ hb6
            have HC6 := Lib.hid hc6
            have HO6 := Lib.hid ho6
            clear hc6 ho6 hc4 ho4 hb4
            go_wp2_with fail
            refine bodyPost_ret (v := .agg #[.int .i64 r1, .slice a6 r2.length c6, .int .i64 r3]) (by simp [results, Try.results101, go_sem, *]) rfl ?_
            exact retYR_end (g := w.heap.size) (r := (r1, r2, r3)) P3.out P4.out hb6 (by omega) (by omega) _ _ _ HO6.out HC6.out
          · have hjn : j ≠ 0 := fun hh => hK (by rw [hh]; simp [Nat.mod_one])
            rw [decide_eq_true (p := m % 2 ^ (-j).toNat ≠ 0) hK] at c2
            have c3 := HDB.out j hj1 hj0
            obtain ⟨z, hz⟩ : ∃ z, sg s (m / 2 ^ (-j).toNat) = z := ⟨_, rfl⟩
            rw [hz] at c1 c2
            clear HCV HDB HEND hK hz
            go_wp2_with fail
            go_roundw
            case rel => exact ⟨d + 1, by congr 2; omega, by go_num, .inr (by omega), by first | rfl | trivial⟩
            case measure => simp [intQ] <;> omega

theorem read_fin_f32 {x : Nat} {s : Bool} {m : Nat} {i : Int} (h : FloatKind.f32.format.read x = .number s m i) : m < 2 ^ 24 ∧ -149 ≤ i ∧ i ≤ 104 := by
  have e1 : FloatKind.f32.format.signWeight = 2 ^ 31 := by decide
  have e2 : FloatKind.f32.format.binade = 2 ^ 23 := by decide
  have e3 : FloatKind.f32.format.infRung = 0x7f800000 := by decide
  have e4 : FloatKind.f32.format.leastPlace = -149 := by decide
  simp only [Ieee.Format.read, e1, e2, e3, e4] at h
  split at h
  · simp only [Ieee.Datum.number.injEq] at h
    omega
  · split at h
    · simp only [Ieee.Datum.number.injEq] at h
      omega
    · split at h <;> cases h
/-- What DyadicOfNarrow gives. -/
noncomputable def dyN (x : Nat) : Int × List Int × Int × Int := match FloatKind.f32.format.read x with
  | .number s m i => ((redZ (sg s m) i).1, (redZ (sg s m) i).2.1, (redZ (sg s m) i).2.2, 0)
  | _ => (0, [], 0, 1)
theorem dyN_len (x : Nat) : (dyN x).2.1.length ≤ 3 := by
  unfold dyN
  split
  · rename_i s m i e
    exact redZ_lenF s i (by have := (read_fin_f32 e).1; omega)
  · simp
/-- A float32 made wide: some float64 of the same value. -/
theorem conv_ex (t : TypeId) (ht : (Try.prog.underlying t).isSome = true) (x : Nat) (W : World) : ∃ y n : Nat, (convert t 42 (.float .f32 x)).run Try.prog W = .ok (.float .f64 y) (W.drewN n) ∧ y < 2 ^ 64 ∧ dyF y = dyN x := by
  cases e : FloatKind.f32.format.read x with
  | number s m i =>
    obtain ⟨h1, h2, h3⟩ := read_fin_f32 e
    have hF : Fit m i := Fit.of (by omega) (by omega) (by omega)
    have he : FloatKind.f64.encode (.number s m i) = fw s m i := by
      show f64.nearest s m i = _
      rw [nearest_rung]; rfl
    have hni : (FloatKind.f64.decode (fw s m i)).isInfinity = false := by
      obtain ⟨k, hr, _⟩ := read_fw s hF
      have h2 : FloatKind.f64.decode (fw s m i) = _ := hr
      rw [h2]; rfl
    refine ⟨fw s m i, 0, ?_, fw_lt s m i, ?_⟩
    · refine run_convert_float_float W _ _ _ _ _ _ ht Try.underlying42 ?_
      unfold floatToFloatBits
      rw [if_neg (by decide)]
      have h2 : FloatKind.f32.decode x = _ := e
      rw [h2]
      simp only
      rw [he, hni]
      rfl
    · rw [dyF_fw s hF]
      unfold dyN
      rw [e]
  | infinity s =>
    have he : FloatKind.f64.encode (.infinity s) = f64.word s 0x7ff0000000000000 := by
      show f64.word s f64.infRung = _
      rw [f64_inf]
    refine ⟨f64.word s 0x7ff0000000000000, 0, ?_, by cases s <;> decide +kernel, ?_⟩
    · refine run_convert_float_float W _ _ _ _ _ _ ht Try.underlying42 ?_
      unfold floatToFloatBits
      rw [if_neg (by decide)]
      have h2 : FloatKind.f32.decode x = _ := e
      rw [h2]
      simp only
      rw [he]
    · have hf : isF .f64 (f64.word s 0x7ff0000000000000) = false := by
        unfold isF
        have h2 : FloatKind.f64.format.read (f64.word s 0x7ff0000000000000) = _ := read_inf s
        rw [h2]
      rw [dyF_no hf]
      unfold dyN
      rw [e]
  | nan s f =>
    obtain ⟨u, hu⟩ := Option.isSome_iff_exists.1 ht
    have h2 : FloatKind.f32.decode x = .nan s f := e
    refine ⟨(Question.nanConv .f64 x).cut (W.tape W.drawn (.nanConv .f64 x)), 1, ?_, ?_, ?_⟩
    · cases u <;> simp [convert, run_underlying hu, run_underlying Try.underlying42, Conv.floatToFloat, h2, Question.forced, World.drew_is_drewN]
    · exact nan_cut_wf x x _
    · have hn : isN .f64 ((Question.nanConv .f64 x).cut (W.tape W.drawn (.nanConv .f64 x))) = true := nan_cut_f64 x x _
      rw [dyF_no (isN_not_isF hn)]
      unfold dyN
      rw [e]

end Go.Proofs.Ytiohacnkiikmcaa
