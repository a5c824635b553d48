/-
  Contracts: square roots of floats by the model; the walks of laws.FnExactRootOfFloat and laws.FnExactRootOfFloatNarrow. Conditions: none.
-/
import Derived.Test.YtiohacnkiikmcaaKc
import Derived.Test.YtiohacnkiikmcaaKd
namespace Go.Proofs.Ytiohacnkiikmcaa
set_option linter.unusedVariables false
open Go Go.RowKit Ieee

theorem r512 : rawRung f64 1 ((512 : Nat) : Int) < 0x7ff0000000000000 := by decide +kernel
theorem fit_lt {m : Nat} {i : Int} (h : Fit m i) (hm : m ≠ 0) : i < 1024 ∧ m < 2 ^ (1024 - i).toNat := by
  obtain ⟨h1, h2, h3⟩ := h
  have hi : i < 1024 := by
    rcases Int.lt_or_le i 1024 with h | h
    · exact h
    · exfalso
      have h4 : 2 ^ 53 ≤ 2 ^ (i - 971).toNat := Nat.pow_le_pow_right (by omega) (by omega)
      have h5 := Nat.mul_le_mul (show 1 ≤ m by omega) h4
      omega
  refine ⟨hi, ?_⟩
  rcases Int.lt_or_le i 971 with h | h
  · exact Nat.lt_of_lt_of_le h1 (Nat.pow_le_pow_right (by omega) (by omega))
  · have e : (53 : Nat) = (1024 - i).toNat + (i - 971).toNat := by omega
    have h4 : m * 2 ^ (i - 971).toNat < 2 ^ (1024 - i).toNat * 2 ^ (i - 971).toNat := by
      rw [← Nat.pow_add, ← e]
      exact h3
    exact Nat.lt_of_mul_lt_mul_right h4
theorem isF_sq {s : Bool} {m : Nat} {i : Int} (h : Fit m i) (hs : (s && decide (m ≠ 0)) = false) : isF .f64 (sq (fw s m i)) = true := by
  by_cases hm : m = 0
  · subst hm
    have h4 : sq (fw s 0 i) = fw s 0 i := by unfold sq; rw [sqrt_zero]; rfl
    rw [h4]
    exact isF_fw s h
  · obtain rfl : s = false := by cases s <;> simp_all
    obtain ⟨c, r, e, e1, e2, e3, e4⟩ := sqrt_fw h hm
    have h4 : sq (fw false m i) = fw false (stk (m * 2 ^ c) r) (e - 1) := by unfold sq; rw [e1]; rfl
    obtain ⟨h5, h6⟩ := fit_lt h hm
    have hlt : m * 2 ^ c < 2 ^ (2 * ((512 : Nat) - e).toNat) := by
      rw [show 2 * (((512 : Nat) : Int) - e).toNat = (1024 - i).toNat + c by omega, Nat.pow_add]
      exact Nat.mul_lt_mul_of_pos_right h6 (Nat.pow_pos (by omega))
    have hs := stk_lt (B := 512) e3 (by omega) hlt
    have hr := rungs_lt f64 (B := 512) (q := e - 1) (by omega) hs
    rw [h4, isF_rung]
    have := r512
    exact decide_eq_true (by omega)
theorem isF_rtF {x : Nat} (hx : x < 2 ^ 64) : isF .f64 (rtF x).1 = true := by
  cases hf : isF .f64 x
  · rw [rtF_no hf]; decide +kernel
  · cases hl : (FloatKind.f64.format.order x 0 == some .lt)
    · rw [rtF_yes hf hl]
      obtain ⟨s, m, i, he, hF, hC⟩ := fin_fw hx hf
      rw [he]
      refine isF_sq hF ?_
      rw [← lt0_fw s hF, ← he]
      exact hl
    · rw [rtF_lt hf hl]; decide +kernel

set_option maxHeartbeats 1000000 in
theorem sL08Float (x : Nat) (hx : x < 2 ^ 64) (hf : isF .f64 x = true) (hl : (FloatKind.f64.format.order x 0 == some .lt) = false) (w : World) : Calls Try.prog 85 #[.float .f64 x] w fun e w' => e = .returned (.float .f64 (sq x)) ∧ Below w.heap.size w w' := by
  have hT : Below w.heap.size w w := Below.refl _ _
  obtain ⟨s, m, i, he, hF, hC⟩ := fin_fw hx hf
  have hz := zero_fw s hF
  by_cases hm : m = 0
  · subst hm
    rw [decide_eq_true rfl, ← he] at hz
    have h4 : sq x = x := by rw [he]; unfold sq; rw [sqrt_zero]; rfl
    rw [h4]
    clear he hF hC h4 hl hf hx
    go_enter Try.func85, Try.ntmps85
    go_wp2_with fail
    go_ret
    exact ⟨rfl, hT⟩
  · rw [decide_eq_false hm, ← he] at hz
    obtain rfl : s = false := by
      rw [he, lt0_fw s hF] at hl
      cases s
      · rfl
      · simp [hm] at hl
    have htw : tw m ≤ 53 := by
      have h1 : 2 ^ tw m ≤ m := by
        have := od_twk hm
        have h3 : 1 ≤ od m := by
          rcases Nat.eq_zero_or_pos (od m) with h | h
          · rw [h, Nat.zero_mul] at this; omega
          · exact h
        have h2 := Nat.mul_le_mul_right (2 ^ tw m) h3
        omega
      have := hF.1
      have h2 : tw m < 53 := (Nat.pow_lt_pow_iff_right (a := 2) (by omega)).1 (by omega)
      omega
    obtain ⟨u, hu⟩ : ∃ u, u = od m := ⟨_, rfl⟩
    obtain ⟨ue, hue⟩ : ∃ ue : Int, ue = i + (tw m : Int) := ⟨_, rfl⟩
    have hot := od_twk hm
    rw [← hu] at hot
    have hu0 : u ≠ 0 := by
      rintro rfl
      rw [Nat.zero_mul] at hot
      exact hm hot.symm
    have hlu : (lim u).length ≤ 3 := by
      have := redZ_lenF false (m := m) i hF.1
      unfold redZ at this
      rw [show (sg false m).natAbs = m from sgf_abs false m, redS_pos hm, ← hu] at this
      exact this
    have hfb := fit_lt hF hm
    have hfl := hF.2.1
    have HOF := Lib.hid (show Calls Try.prog 101 #[.float .f64 x] w fun e w' => ∃ a c, e = .returned (.agg #[.int .i64 1, .slice a (lim u).length c, .int .i64 ue]) ∧ Own w' w.heap.size a (lim u) ∧ Below w.heap.size w w' from by
      have := sL03Of false m i hF hC w
      rw [← he] at this
      unfold redZ at this
      have hsg : (sg false m).sign = 1 := by
        show ((m : Int)).sign = 1
        exact Int.sign_eq_one_of_pos (by omega)
      rw [show (sg false m).natAbs = m from sgf_abs false m, hsg, redS_pos hm, ← hu, ← hue] at this
      exact this.mono fun e w' ⟨a, c, he, _, ho, hb⟩ => ⟨a, c, he, ho, hb⟩)
    have HRT := Lib.hid (show ∀ (a : Option Addr) (c : Nat) W, Below w.heap.size w W → Own W w.heap.size a (lim u) → Calls Try.prog 100 #[.agg #[.int .i64 1, .slice a (lim u).length c, .int .i64 ue]] W fun e w' => ∃ ok, e = .returned (.tuple #[.float .f64 (sq x), .bool ok]) ∧ Below w.heap.size w w' from
      fun a c W hW ho => (sRt8 a u c ue W _ (Nat.le_refl _) ho.ints hu0 (by omega) (by omega) (by omega)).mono fun e w' ⟨K, r, ex, ok, g1, g2, g3, _, g5, g6⟩ => by
        refine ⟨ok, ?_, hW.trans (g6.mono hW.size)⟩
        rw [g5]
        obtain ⟨c', r', e', e1, e2, e3, e4⟩ := sqrt_fw hF hm
        have h4 : sq x = fw false (stk (m * 2 ^ c') r') (e' - 1) := by rw [he]; unfold sq; rw [e1]; rfl
        have h5 : m * 2 ^ c' = u * 2 ^ (tw m + c') := by rw [Nat.pow_add, ← Nat.mul_assoc, hot]
        rw [h5] at h4 e3
        have h6 := root_same (x := ue) (a1 := K) (a2 := tw m + c') (e1 := ex) (e2 := e') g1 (by omega) g2 e3 g3 e4
        rw [h4]
        unfold fw rungOf
        rw [h6])
    obtain ⟨y, hy⟩ : ∃ y, sq x = y := ⟨_, rfl⟩
    rw [hy] at HRT ⊢
    clear he hF hC hl hf hx hy hm htw hu hue hot hu0 hlu hfb hfl
    go_enter Try.func85, Try.ntmps85
    go_wp2_with fail
    refine HOF.out.mono ?_
    rintro e w1 ⟨a1, c1, rfl, ho1, hb1⟩
    go_wp2_with fail
    refine (HRT.out _ _ _ hb1 ho1).mono ?_
    rintro e w2 ⟨ok, rfl, hb2⟩
    go_wp2_with fail
    go_ret
    exact ⟨rfl, hb2⟩

set_option maxHeartbeats 1000000 in
theorem sRootOfFloat (x : Nat) (hx : x < 2 ^ 64) (w : World) : Calls Try.prog 37 #[.float .f64 x] w fun e w' => e = .returned (.tuple #[.float .f64 (rtF x).1, .int .i64 (rtF x).2]) ∧ Below w.heap.size w w' := by
  have hT : Below w.heap.size w w := Below.refl _ _
  have HRE := Lib.hid fun W => sReal_any x W
  cases hf : isF .f64 x
  · rw [hf] at HRE
    rw [rtF_no hf]
    clear hx hf
    go_enter Try.func37, Try.ntmps37
    go_wp2_with fail
    refine (HRE.out _).mono ?_
    rintro e w1 ⟨n, rfl, rfl⟩
    go_wp2_with fail
    go_ret2
    exact ⟨rfl, below_drewN hT n⟩
  · rw [hf] at HRE
    cases hl : (FloatKind.f64.format.order x 0 == some .lt)
    · rw [rtF_yes hf hl]
      have HL := Lib.hid fun W => sL08Float x hx hf hl W
      obtain ⟨y, hy⟩ : ∃ y, sq x = y := ⟨_, rfl⟩
      rw [hy] at HL ⊢
      clear hx hf hy
      go_enter Try.func37, Try.ntmps37
      go_wp2_with fail
      refine (HRE.out _).mono ?_
      rintro e w1 ⟨n, rfl, rfl⟩
      go_wp2_with fail
      refine (HL.out _).mono ?_
      rintro e w2 ⟨rfl, hb⟩
      have hb2 := (below_drewN hT n).trans hb
      clear hb
      go_wp2_with fail
      go_ret2
      exact ⟨rfl, hb2⟩
    · rw [rtF_lt hf hl]
      clear hx hf
      go_enter Try.func37, Try.ntmps37
      go_wp2_with fail
      refine (HRE.out _).mono ?_
      rintro e w1 ⟨n, rfl, rfl⟩
      go_wp2_with fail
      go_ret2
      exact ⟨rfl, below_drewN hT n⟩

theorem lt0N {x : Nat} {s : Bool} {m : Nat} {i : Int} (h : FloatKind.f32.format.read x = .number s m i) : (FloatKind.f32.format.order x 0 == some .lt) = (s && decide (m ≠ 0)) := by
  have h0 : FloatKind.f32.format.read 0 = .number false 0 (-149) := by decide +kernel
  have h1 : FloatKind.f32.format.order x 0 = some (compare (signed s m (i - min i (-149)).toNat) (signed false 0 (-149 - min i (-149)).toNat)) := by
    unfold Format.order
    rw [h, h0]
    rfl
  rw [h1, signed_false, Nat.zero_mul, compare_int]
  have h2 := vz_sign (s := s) (m := m) (i := i) (d := min i (-149))
  unfold vz at h2
  by_cases hl : signed s m (i - min i (-149)).toNat < 0
  · obtain ⟨a, b⟩ := h2.1 hl
    rw [if_pos (by omega), a]; simp [b]
  · rw [if_neg (by omega)]
    have h3 : (s && decide (m ≠ 0)) = false := by
      cases s
      · rfl
      · by_cases hm : m = 0
        · simp [hm]
        · exact absurd (h2.2 ⟨rfl, hm⟩) hl
    rw [h3]
    split <;> rfl
theorem rtN_fin (x : Nat) : ∃ s m i, FloatKind.f32.format.read (rtN x).1 = .number s m i := by
  cases e : FloatKind.f32.format.read x with
  | number s m i =>
    obtain ⟨h1, h2, h3⟩ := read_fin_f32 e
    rw [rtN_num e]
    exact (nr_root h1 h2 h3).2
  | infinity s => rw [rtN_no (fun _ _ _ h => by rw [e] at h; cases h)]; exact ⟨false, 0, -149, by decide +kernel⟩
  | nan s f => rw [rtN_no (fun _ _ _ h => by rw [e] at h; cases h)]; exact ⟨false, 0, -149, by decide +kernel⟩
theorem conv_num (t : TypeId) (ht : (Try.prog.underlying t).isSome = true) {x : Nat} {s : Bool} {m : Nat} {i : Int} (h : FloatKind.f32.format.read x = .number s m i) (W : World) : (convert t 42 (.float .f32 x)).run Try.prog W = .ok (.float .f64 (fw s m i)) W := by
  obtain ⟨y, n, h1, h2, h3⟩ := conv_wide t ht x W
  rcases h3 with ⟨s', m', i', e1, _, _, _, e5, e6⟩ | ⟨e1, _⟩
  · rw [h] at e1
    cases e1
    rw [h1, e5, e6]
    rfl
  · exact absurd h (e1 s m i)

set_option maxHeartbeats 1000000 in
theorem sRootOfFloatNarrow (x : Nat) (w : World) : Calls Try.prog 40 #[.float .f32 x] w fun e w' => e = .returned (.tuple #[.float .f32 (rtN x).1, .int .i64 (rtN x).2]) ∧ Below w.heap.size w w' := by
  have hT : Below w.heap.size w w := Below.refl _ _
  have ht : (Try.prog.underlying 53).isSome = true := by rw [Try.underlying53]; rfl
  by_cases hnum : ∃ s m i, FloatKind.f32.format.read x = .number s m i
  · obtain ⟨s, m, i, e⟩ := hnum
    obtain ⟨g1, g2, g3⟩ := read_fin_f32 e
    have hF : Fit m i := Fit.of (by omega) (by omega) (by omega)
    have hc := conv_num 53 ht e
    have hlN := lt0N e
    have hl := lt0_fw s hF
    have hfx := isF_fw s hF
    have hlt := fw_lt s m i
    have hrt := nr_root (s := s) g1 g2 g3
    have hcv : ∀ W : World, (convert 42 53 (.float .f64 (rtF (fw s m i)).1)).run Try.prog W = .ok (.float .f32 (nr (rtF (fw s m i)).1)) W := fun W =>
      run_convert_float_float W _ _ _ _ _ _ (by rw [Try.underlying42]; rfl) Try.underlying53 hrt.1
    rw [rtN_num e]
    obtain ⟨y, hy⟩ : ∃ y, fw s m i = y := ⟨_, rfl⟩
    rw [hy] at hc hl hfx hlt hcv ⊢
    rw [← hl] at hlN
    have HRE := Lib.hid fun W => sReal_any y W
    rw [hfx] at HRE
    cases h : (FloatKind.f64.format.order y 0 == some .lt)
    · rw [h] at hlN
      rw [rtF_yes hfx h] at hcv ⊢
      have HL := Lib.hid fun W => sL08Float y hlt hfx h W
      obtain ⟨z, hz⟩ : ∃ z, sq y = z := ⟨_, rfl⟩
      rw [hz] at HL hcv ⊢
      simp only at hcv ⊢
      obtain ⟨v, hv⟩ : ∃ v, nr z = v := ⟨_, rfl⟩
      rw [hv] at hcv ⊢
      clear hz hv hrt hl hfx hlt hF g1 g2 g3 e hy h ht
      go_enter Try.func40, Try.ntmps40
      go_wp2_with fail
      refine (HRE.out _).mono ?_
      rintro e w1 ⟨n, rfl, rfl⟩
      go_wp2_with fail
      refine (HL.out _).mono ?_
      rintro e w2 ⟨rfl, hb⟩
      have hb2 := (below_drewN hT n).trans hb
      clear hb
      go_wp2_with fail
      go_ret2
      exact ⟨rfl, hb2⟩
    · rw [h] at hlN
      rw [rtF_lt hfx h] at hcv ⊢
      have h0 : nr 0 = 0 := by decide +kernel
      simp only [h0] at hcv ⊢
      clear h0 hrt hl hfx hlt hF g1 g2 g3 e hy h ht
      go_enter Try.func40, Try.ntmps40
      go_wp2_with fail
      refine (HRE.out _).mono ?_
      rintro e w1 ⟨n, rfl, rfl⟩
      go_wp2_with fail
      go_ret2
      exact ⟨rfl, below_drewN hT n⟩
  · have hno : ∀ s m i, FloatKind.f32.format.read x ≠ .number s m i := fun s m i h => hnum ⟨s, m, i, h⟩
    obtain ⟨y, n, h1, h2, h3⟩ := conv_wide 53 ht x w
    have hfy : isF .f64 y = false := by
      rcases h3 with ⟨s, m, i, e1, _⟩ | ⟨_, e2⟩
      · exact absurd e1 (hno s m i)
      · exact e2
    have HRE := Lib.hid fun W => sReal_any y W
    rw [hfy] at HRE
    rw [rtN_no hno]
    clear hno hnum h3 hfy h2 ht
    go_enter Try.func40, Try.ntmps40
    go_wp2_with fail
    refine (HRE.out _).mono ?_
    rintro e w1 ⟨k, rfl, rfl⟩
    have hb := below_drewN hT (n + k)
    go_wp2_with fail
    go_ret2
    exact ⟨rfl, hb⟩

set_option maxHeartbeats 1000000 in
theorem RootOfFloat_walk (x : Nat) (w : World) (hx : x < 2 ^ 64) : Calls Try.prog 5 #[.float .f64 x] w (LawDone w) := by
  have HS := Lib.hid (sRootOfFloat x hx w)
  have HI := Lib.hid (iRootOfFloat x hx)
  have HF := Lib.hid (sameFloat_fin (rtF x).1 (isF_rtF hx))
  obtain ⟨⟨a, b⟩, hab⟩ : ∃ r, rtF x = r := ⟨_, rfl⟩
  rw [hab] at HS HI HF
  have hbb : (b != b) = false := by simp
  clear hab hx
  go_enter Try.func5, Try.ntmps5
  go_wp2_with fail
  refine HS.out.mono ?_
  rintro e w1 ⟨rfl, hb⟩
  go_wp2_with fail
  refine (HI.out _).mono ?_
  rintro e w2 ⟨rfl, rfl⟩
  go_wp2_with fail
  refine (HF.out _).mono ?_
  rintro e w3 ⟨rfl, rfl⟩
  go_wp2_with fail
  go_ret
  exact ⟨rfl, hb⟩

set_option maxHeartbeats 1000000 in
theorem RootOfFloatNarrow_walk (x : Nat) (w : World) (hx : x < 2 ^ 32) : Calls Try.prog 6 #[.float .f32 x] w (LawDone w) := by
  have HS := Lib.hid (sRootOfFloatNarrow x w)
  have HI := Lib.hid (iRootOfFloatNarrow x)
  obtain ⟨s, m, i, e⟩ := rtN_fin x
  obtain ⟨g1, g2, g3⟩ := read_fin_f32 e
  have hF : Fit m i := Fit.of (by omega) (by omega) (by omega)
  have hc := conv_num 53 (by rw [Try.underlying53]; rfl) e
  have HF := Lib.hid (sameFloat_fin (fw s m i) (isF_fw s hF))
  obtain ⟨y, hy⟩ : ∃ y, fw s m i = y := ⟨_, rfl⟩
  rw [hy] at hc HF
  clear hy hF g1 g2 g3 e
  obtain ⟨⟨a, b⟩, hab⟩ : ∃ r, rtN x = r := ⟨_, rfl⟩
  rw [hab] at HS HI hc
  simp only at hc
  have hbb : (b != b) = false := by simp
  clear hab hx
  go_enter Try.func6, Try.ntmps6
  go_wp2_with fail
  refine HS.out.mono ?_
  rintro e w1 ⟨rfl, hb⟩
  go_wp2_with fail
  refine (HI.out _).mono ?_
  rintro e w2 ⟨n, rfl, rfl⟩
  have hb2 := below_drewN hb n
  clear hb
  go_wp2_with fail
  refine (HF.out _).mono ?_
  rintro e w3 ⟨rfl, rfl⟩
  go_wp2_with fail
  go_ret
  exact ⟨rfl, hb2⟩
end Go.Proofs.Ytiohacnkiikmcaa
