/-
  Contracts: narrow square roots of floats, by the program; a float64 of at most 2^64 is made narrow without a draw. Conditions: none.
-/
import Derived.Test.YtiohacnkiikmcaaKb
namespace Go.Proofs.Ytiohacnkiikmcaa
set_option linter.unusedVariables false
open Go Go.RowKit Ieee

theorem rung_total (f : Format) (m n : Nat) (i j : Int) : (∃ c, c ≤ i ∧ c ≤ j ∧ m * 2 ^ (i - c).toNat ≤ n * 2 ^ (j - c).toNat) ∨ (∃ c, c ≤ i ∧ c ≤ j ∧ n * 2 ^ (j - c).toNat ≤ m * 2 ^ (i - c).toNat) := by
  rcases Nat.le_total (m * 2 ^ (i - min i j).toNat) (n * 2 ^ (j - min i j).toNat) with h | h
  · exact .inl ⟨min i j, by omega, by omega, h⟩
  · exact .inr ⟨min i j, by omega, by omega, h⟩
theorem r64 : rawRung f64 1 64 < 4899916394579099648 := by decide +kernel
theorem r65 : rawRung f64 1 65 = 4899916394579099648 := by decide +kernel
theorem r65N : rawRung f32 1 65 < 0x7f800000 := by decide +kernel

theorem fin_narrow {r : Nat} (h : r < 0x7f800000) : (f32.read (f32.word false r)).isInfinity = false := by
  have hw : f32.word false r = r := by unfold Format.word; rw [if_neg (by decide)]
  rw [hw]
  simp only [Format.read, f32_sw, f32_bin, f32_inf]
  rw [show r % 2 ^ 31 = r by omega]
  split
  · rfl
  · first | rfl | (rw [if_pos h]; rfl)
theorem num32 {r : Nat} (h : r < 0x7f800000) : ∃ m i, FloatKind.f32.format.read r = .number false m i := by
  have h2 : (r / 2 ^ 31 % 2 == 1) = false := by
    rw [show r / 2 ^ 31 = 0 by omega]; rfl
  show ∃ m i, f32.read r = .number false m i
  simp only [Format.read, f32_sw, f32_bin, f32_inf, h2]
  rw [show r % 2 ^ 31 = r by omega]
  split
  · exact ⟨_, _, rfl⟩
  · first | exact ⟨_, _, rfl⟩ | (rw [if_pos h]; exact ⟨_, _, rfl⟩)
/-- A float64 of at most 2^64, made narrow. -/
theorem narrow_some {a : Nat} {q : Int} (h : rawRung f64 a q ≤ rawRung f64 1 64) : ∃ y, floatToFloatBits .f64 (fw false a q) .f32 = some y ∧ y < 0x7f800000 := by
  have h64 := r64
  have hlt : rawRung f64 a q < 0x7ff0000000000000 := by omega
  obtain ⟨M, j, hC, hM⟩ := rung_number hlt
  have hfw : fw false a q = f64.word false (rawRung f64 M j) := by
    unfold fw rungOf
    rw [hM, Nat.min_eq_left (by omega)]
  have hrd : f64.read (fw false a q) = .number false M j := by
    rw [hfw]
    exact read_word hC (by rw [hM]; exact hlt)
  have hN : rawRung f32 M j < 0x7f800000 := by
    rcases rung_total f64 M 1 j 65 with ⟨c, c1, c2, c3⟩ | ⟨c, c1, c2, c3⟩
    · have := rawRung_mono f32 c1 c2 c3
      have := r65N
      omega
    · have := rawRung_mono f64 c2 c1 c3
      have := r65
      omega
  have he : FloatKind.f32.encode (.number false M j) = f32.word false (rawRung f32 M j) := by
    show f32.nearest false M j = _
    rw [nearest_eq, f32_inf, Nat.min_eq_left (by omega)]
  refine ⟨f32.word false (rawRung f32 M j), ?_, ?_⟩
  · unfold floatToFloatBits
    rw [if_neg (by decide)]
    have h4 : FloatKind.f64.decode (fw false a q) = _ := hrd
    rw [h4]
    simp only
    rw [he]
    have h5 : (FloatKind.f32.decode (f32.word false (rawRung f32 M j))).isInfinity = false := fin_narrow hN
    rw [h5]
    rfl
  · unfold Format.word
    rw [if_neg (by decide)]
    exact hN
theorem narrow_zero (s : Bool) (i : Int) : ∃ y, floatToFloatBits .f64 (fw s 0 i) .f32 = some y ∧ ∃ t m j, FloatKind.f32.format.read y = .number t m j := by
  rw [fw_zero]
  cases s
  · exact ⟨0, by decide +kernel, false, 0, -149, by decide +kernel⟩
  · exact ⟨2 ^ 31, by decide +kernel, true, 0, -149, by decide +kernel⟩

/-- A float32 made wide: a number as it is, and what is not finite not finite. -/
theorem conv_wide (t : TypeId) (ht : (Try.prog.underlying t).isSome = true) (x : Nat) (W : World) : ∃ y n : Nat, (convert t 42 (.float .f32 x)).run Try.prog W = .ok (.float .f64 y) (W.drewN n) ∧ y < 2 ^ 64 ∧
    ((∃ s m i, FloatKind.f32.format.read x = .number s m i ∧ m < 2 ^ 24 ∧ -149 ≤ i ∧ i ≤ 104 ∧ y = fw s m i ∧ n = 0) ∨ ((∀ s m i, FloatKind.f32.format.read x ≠ .number s m i) ∧ isF .f64 y = false)) := by
  cases e : FloatKind.f32.format.read x with
  | number s m i =>
    obtain ⟨h1, h2, h3⟩ := read_fin_f32 e
    have hF : Fit m i := Fit.of (by omega) (by omega) (by omega)
    have he : FloatKind.f64.encode (.number s m i) = fw s m i := by
      show f64.nearest s m i = _
      rw [nearest_rung]; rfl
    have hni : (FloatKind.f64.decode (fw s m i)).isInfinity = false := by
      obtain ⟨k, hr, _⟩ := read_fw s hF
      have h2 : FloatKind.f64.decode (fw s m i) = _ := hr
      rw [h2]; rfl
    refine ⟨fw s m i, 0, ?_, fw_lt s m i, .inl ⟨s, m, i, rfl, h1, h2, h3, rfl, rfl⟩⟩
    refine run_convert_float_float W _ _ _ _ _ _ ht Try.underlying42 ?_
    unfold floatToFloatBits
    rw [if_neg (by decide)]
    have h2 : FloatKind.f32.decode x = _ := e
    rw [h2]
    simp only
    rw [he, hni]
    rfl
  | infinity s =>
    have he : FloatKind.f64.encode (.infinity s) = f64.word s 0x7ff0000000000000 := by
      show f64.word s f64.infRung = _
      rw [f64_inf]
    refine ⟨f64.word s 0x7ff0000000000000, 0, ?_, by cases s <;> decide +kernel, .inr ⟨(fun _ _ _ h => by cases h), ?_⟩⟩
    · refine run_convert_float_float W _ _ _ _ _ _ ht Try.underlying42 ?_
      unfold floatToFloatBits
      rw [if_neg (by decide)]
      have h2 : FloatKind.f32.decode x = _ := e
      rw [h2]
      simp only
      rw [he]
    · unfold isF
      have h2 : FloatKind.f64.format.read (f64.word s 0x7ff0000000000000) = _ := read_inf s
      rw [h2]
  | nan s f =>
    obtain ⟨u, hu⟩ := Option.isSome_iff_exists.1 ht
    have h2 : FloatKind.f32.decode x = .nan s f := e
    refine ⟨(Question.nanConv .f64 x).cut (W.tape W.drawn (.nanConv .f64 x)), 1, ?_, ?_, .inr ⟨(fun _ _ _ h => by cases h), ?_⟩⟩
    · cases u <;> simp [convert, run_underlying hu, run_underlying Try.underlying42, Conv.floatToFloat, h2, Question.forced, World.drew_is_drewN]
    · exact nan_cut_wf x x _
    · exact isN_not_isF (nan_cut_f64 x x _)

/-- The narrow float next to a wide one. -/
def nr (v : Nat) : Nat := (floatToFloatBits .f64 v .f32).getD 0
theorem nr_eq {v y : Nat} (h : floatToFloatBits .f64 v .f32 = some y) (hn : ∃ t m j, FloatKind.f32.format.read y = .number t m j) : floatToFloatBits .f64 v .f32 = some (nr v) ∧ ∃ t m j, FloatKind.f32.format.read (nr v) = .number t m j := by
  have e : nr v = y := by unfold nr; rw [h]; rfl
  rw [e]
  exact ⟨h, hn⟩
/-- The narrow root of a narrow number is drawn nowhere. -/
theorem nr_root {s : Bool} {m : Nat} {i : Int} (h1 : m < 2 ^ 24) (h2 : -149 ≤ i) (h3 : i ≤ 104) : floatToFloatBits .f64 (rtF (fw s m i)).1 .f32 = some (nr (rtF (fw s m i)).1) ∧ ∃ t m' j, FloatKind.f32.format.read (nr (rtF (fw s m i)).1) = .number t m' j := by
  have hF : Fit m i := Fit.of (by omega) (by omega) (by omega)
  by_cases hm : m = 0
  · subst hm
    have hl := lt0_fw s hF
    rw [show (s && decide ((0 : Nat) ≠ 0)) = false by simp] at hl
    rw [rtF_yes (isF_fw s hF) hl]
    have h4 : sq (fw s 0 i) = fw s 0 i := by unfold sq; rw [sqrt_zero]; rfl
    simp only [h4]
    obtain ⟨y, hy, hn⟩ := narrow_zero s i
    exact nr_eq hy hn
  · cases s
    · rw [rtF_yes (isF_fw false hF) (by rw [lt0_fw false hF]; rfl)]
      obtain ⟨c, r, e, e1, e2, e3, e4⟩ := sqrt_fw hF hm
      have h4 : sq (fw false m i) = fw false (stk (m * 2 ^ c) r) (e - 1) := by unfold sq; rw [e1]; rfl
      simp only [h4]
      have hc : (64 : Int) ≥ e := by
        rcases Int.lt_or_le 64 e with hgt | hle
        · exfalso
          have : i > 128 := by omega
          omega
        · exact hle
      have hlt : m * 2 ^ c < 2 ^ (2 * ((64 : Nat) - e).toNat) := by
        refine Nat.lt_of_lt_of_le (Nat.mul_lt_mul_of_pos_right h1 (Nat.pow_pos (by omega))) ?_
        rw [← Nat.pow_add]
        exact Nat.pow_le_pow_right (by omega) (by omega)
      have hs := stk_lt (B := 64) e3 (by omega) hlt
      obtain ⟨y, hy, hn⟩ := narrow_some (rungs_lt f64 (B := 64) (q := e - 1) (by omega) hs)
      obtain ⟨m', j, hm'⟩ := num32 hn
      exact nr_eq hy ⟨false, m', j, hm'⟩
    · have hl := lt0_fw true hF
      rw [show (true && decide (m ≠ 0)) = true by simp [hm]] at hl
      rw [rtF_lt (isF_fw true hF) hl]
      exact nr_eq (y := 0) (by decide +kernel) ⟨false, 0, -149, by decide +kernel⟩

/-- The narrow root, and the code. -/
def rtN (x : Nat) : Nat × Int := match FloatKind.f32.format.read x with
  | .number s m i => (nr (rtF (fw s m i)).1, (rtF (fw s m i)).2)
  | _ => (0, 1)
theorem rtN_num {x : Nat} {s : Bool} {m : Nat} {i : Int} (h : FloatKind.f32.format.read x = .number s m i) : rtN x = (nr (rtF (fw s m i)).1, (rtF (fw s m i)).2) := by unfold rtN; rw [h]
theorem rtN_no {x : Nat} (h : ∀ s m i, FloatKind.f32.format.read x ≠ .number s m i) : rtN x = (0, 1) := by
  unfold rtN
  split
  · rename_i s m i e; exact absurd e (h s m i)
  · rfl

set_option maxHeartbeats 800000 in
theorem iRootOfFloatNarrow (x : Nat) (w : World) : Calls Try.prog 41 #[.float .f32 x] w fun e w' => ∃ n, e = .returned (.tuple #[.float .f32 (rtN x).1, .int .i64 (rtN x).2]) ∧ w' = w.drewN n := by
  obtain ⟨y, n, h1, h2, h3⟩ := conv_wide 53 (by rw [Try.underlying53]; rfl) x w
  have HR := Lib.hid (iRootOfFloat y h2)
  have hcv : ∀ W : World, (convert 42 53 (.float .f64 (rtF y).1)).run Try.prog W = .ok (.float .f32 (rtN x).1) W := fun W => by
    rcases h3 with ⟨s, m, i, e1, e2, e3, e4, e5, _⟩ | ⟨e1, e2⟩
    · rw [rtN_num e1, e5]
      exact run_convert_float_float W _ _ _ _ _ _ (by rw [Try.underlying42]; rfl) Try.underlying53 (nr_root e2 e3 e4).1
    · rw [rtN_no e1, rtF_no e2]
      exact run_convert_float_float W _ _ _ _ _ _ (by rw [Try.underlying42]; rfl) Try.underlying53 (by decide +kernel)
  have hc : (rtF y).2 = (rtN x).2 := by
    rcases h3 with ⟨s, m, i, e1, e2, e3, e4, e5, _⟩ | ⟨e1, e2⟩
    · rw [rtN_num e1, e5]
    · rw [rtN_no e1, rtF_no e2]
  obtain ⟨⟨a, b⟩, hab⟩ : ∃ r, rtF y = r := ⟨_, rfl⟩
  obtain ⟨⟨c, d⟩, hcd⟩ : ∃ r, rtN x = r := ⟨_, rfl⟩
  rw [hab] at HR hcv hc
  rw [hcd] at hcv hc ⊢
  simp only at hcv hc
  subst hc
  clear hab hcd h3 h2
  go_enter Try.func41, Try.ntmps41
  go_wp2_with (go_at_call 38; refine (HR.out _).mono ?_; rintro e w' ⟨rfl, rfl⟩)
  go_ret2
  exact ⟨_, rfl, rfl⟩
end Go.Proofs.Ytiohacnkiikmcaa
