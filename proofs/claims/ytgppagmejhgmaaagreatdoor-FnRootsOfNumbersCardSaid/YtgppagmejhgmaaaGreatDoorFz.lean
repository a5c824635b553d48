/-
  Facts of the laws of floats: a float comes back from its exact value. No conditions: plain facts.
-/
import Derived.Test.YtgppagmejhgmaaaGreatDoorGc
import Derived.Test.YtgppagmejhgmaaaGreatDoorGn
import Derived.Test.YtgppagmejhgmaaaGreatDoorQi
namespace Go.Proofs.YtgppagmejhgmaaaGreatDoor
set_option linter.unusedVariables false
open Go Go.RowKit

theorem raw_zero (i : Int) : rawRung f64 0 i = 0 := by
  have h1 := rungOf_zero i
  unfold rungOf at h1
  omega
theorem sg_sign (s : Bool) {m : Nat} (h : m ≠ 0) : (sg s m).sign = (if s then -1 else 1) ∧ (sg s m).natAbs = m := by
  unfold sg
  cases s
  · exact ⟨by simp; omega, by simp⟩
  · exact ⟨by simp; omega, by simp⟩
/-- A number in lowest form is an exact number, and rounds as the number itself. -/
theorem fl_red {z e : Int} (hl : (lim z.natAbs).length ≤ 200) (h1 : -4000 ≤ e) (h2 : e + z.natAbs.log2 ≤ 5000) :
    dyB (redZ z e).1 (redZ z e).2.1 (redZ z e).2.2 = true ∧ (flR (redZ z e).1 (redZ z e).2.1 (redZ z e).2.2 = flt z.sign z.natAbs e ∨ z = 0 ∧ flR (redZ z e).1 (redZ z e).2.1 (redZ z e).2.2 = (fw false 0 0, 0)) := by
  by_cases h0 : z = 0
  · subst h0
    have hr : redZ 0 e = (0, [], 0) := by unfold redZ; exact redS_zero _ _
    rw [hr]
    have hd : IsDy 0 (lim 0) 0 := ⟨isWh_lim (by rw [lim_zero]; simp) (.inl ⟨rfl, rfl⟩), by omega, by omega, .inl ⟨rfl, rfl⟩⟩
    rw [lim_zero] at hd
    refine ⟨dyB_yes hd, .inr ⟨rfl, ?_⟩⟩
    have := flR_yes (dyB_yes (by rw [lim_zero]; exact hd) : dyB 0 (lim 0) 0 = true)
    rw [lim_zero] at this
    rw [this]
    unfold flt
    rw [raw_zero, if_pos (by decide)]
    rfl
  · have hm : z.natAbs ≠ 0 := by omega
    have hr : redZ z e = (z.sign, lim (od z.natAbs), e + (tw z.natAbs : Int)) := by unfold redZ; exact redS_pos hm
    obtain ⟨ho, hp⟩ := od_mul hm
    have hod : od z.natAbs ≠ 0 := fun h => by rw [h] at hp; omega
    have hle : od z.natAbs ≤ z.natAbs := by
      have h3 := Nat.mul_le_mul_right (od z.natAbs) (Nat.pow_pos (n := tw z.natAbs) (show 0 < 2 by omega))
      rw [← ho] at h3
      omega
    have htw : tw z.natAbs ≤ z.natAbs.log2 := by
      refine log2_ge ?_
      have h3 := Nat.mul_le_mul_left (2 ^ tw z.natAbs) (Nat.pos_of_ne_zero hod)
      rw [← ho] at h3
      omega
    have hs : z.sign = 1 ∨ z.sign = -1 := by
      rcases Int.lt_trichotomy z 0 with h | h | h
      · exact .inr (Int.sign_eq_neg_one_of_neg h)
      · exact absurd h h0
      · exact .inl (Int.sign_eq_one_of_pos h)
    have hd : IsDy z.sign (lim (od z.natAbs)) (e + (tw z.natAbs : Int)) := by
      refine ⟨isWh_lim (Nat.le_trans (lim_le_of_le hle) hl) (.inr ⟨hod, hs⟩), by omega, by omega, .inr ⟨by omega, ?_⟩⟩
      rw [lim_getD]
      omega
    rw [hr]
    refine ⟨dyB_yes hd, .inl ?_⟩
    show flR z.sign (lim (od z.natAbs)) (e + (tw z.natAbs : Int)) = _
    rw [flR_yes (dyB_yes hd)]
    unfold flt
    have e1 : rawRung f64 (od z.natAbs) (e + (tw z.natAbs : Int)) = rawRung f64 z.natAbs e := by
      have := rawRung_shift (f := f64) (od z.natAbs) (e + (tw z.natAbs : Int)) (tw z.natAbs)
      rw [show e + (tw z.natAbs : Int) - (tw z.natAbs : Int) = e by omega, Nat.mul_comm, ← ho] at this
      exact this.symm
    have e2 : fw (decide (z.sign < 0)) (od z.natAbs) (e + (tw z.natAbs : Int)) = fw (decide (z.sign < 0)) z.natAbs e := by
      have := fw_shift (decide (z.sign < 0)) (od z.natAbs) (e + (tw z.natAbs : Int)) (tw z.natAbs)
      rw [show e + (tw z.natAbs : Int) - (tw z.natAbs : Int) = e by omega, Nat.mul_comm, ← ho] at this
      exact this.symm
    rw [e1, e2]
/-- A float comes back from its exact value. -/
theorem float_back {x : Nat} (hx : x < 2 ^ 64) (h : isF .f64 x = true) : ∃ s l e, dyF x = (s, l, e, 0) ∧ ∃ y, flR s l e = (y, 0) ∧ (FloatKind.f64.format.order y x == some .eq) = true := by
  obtain ⟨s, m, i, rfl, hf, hc⟩ := fin_fw hx h
  refine ⟨_, _, _, dyF_fw s hf, ?_⟩
  obtain ⟨k1, k2, k3⟩ := hc
  rw [f64_low] at k1
  rw [f64_bin] at k2
  have hz : (sg s m).natAbs = m := by unfold sg; cases s <;> simp
  have hlog : m.log2 ≤ 53 := by
    by_cases h0 : m = 0
    · subst h0; decide
    · have := Nat.log2_self_le h0
      have h53 : 2 ^ m.log2 < 2 ^ 54 := by omega
      have := (Nat.pow_lt_pow_iff_right (by omega : 1 < 2)).1 h53
      omega
  have hi : i ≤ 1024 := by
    rcases Int.lt_or_le 971 i with h9 | h9
    · exfalso
      have := hf.2.2
      rcases k3 with k3 | k3
      · rw [f64_low] at k3; omega
      · rw [f64_bin] at k3
        have h3 : 2 ^ 1 ≤ 2 ^ (i - 971).toNat := Nat.pow_le_pow_right (by omega) (by omega)
        have h4 := Nat.mul_le_mul k3 h3
        omega
    · omega
  have hl3 : (lim (sg s m).natAbs).length ≤ 200 := by
    rw [hz, lim_length]
    have := dig_small (n := m) (by omega)
    omega
  rcases (fl_red (e := i) hl3 (by omega) (by rw [hz]; omega)).2 with h2 | ⟨h0, h2⟩
  · rw [h2, hz]
    by_cases h0 : m = 0
    · subst h0
      unfold flt
      rw [raw_zero, if_pos (by decide)]
      refine ⟨_, rfl, ?_⟩
      have hi2 : i = -1074 := by
        rcases k3 with k3 | k3
        · rw [f64_low] at k3; exact k3
        · rw [f64_bin] at k3; omega
      rw [order_fw _ s (Fit.of (by omega) k1 (by omega)) hf (Int.le_refl i) (Int.le_refl i)]
      rw [(vz_zero (d := i)).2 rfl, (vz_zero (d := i)).2 rfl]
      rfl
    · unfold flt
      rw [if_pos (canon_fin ⟨by rw [f64_low]; exact k1, by rw [f64_bin]; exact k2, k3⟩ (by
        rcases Int.lt_or_le 971 i with h9 | h9
        · exfalso
          have := hf.2.2
          rcases k3 with k3 | k3
          · rw [f64_low] at k3; omega
          · rw [f64_bin] at k3
            have h3 : 2 ^ 1 ≤ 2 ^ (i - 971).toNat := Nat.pow_le_pow_right (by omega) (by omega)
            have h4 := Nat.mul_le_mul k3 h3
            omega
        · exact h9))]
      refine ⟨_, rfl, ?_⟩
      have hs : decide ((sg s m).sign < 0) = s := by rw [(sg_sign s h0).1]; cases s <;> rfl
      rw [hs, order_fw s s hf hf (Int.le_refl i) (Int.le_refl i)]
      simp [compare_int]
  · have hm : m = 0 := by omega
    subst hm
    rw [h2]
    refine ⟨_, rfl, ?_⟩
    rw [order_fw false s (d := min 0 i) (Fit.of (by omega) (by omega) (by omega)) hf (by omega) (by omega)]
    rw [(vz_zero (d := min 0 i)).2 rfl, (vz_zero (d := min 0 i)).2 rfl]
    rfl

theorem order_same {x : Nat} (hx : x < 2 ^ 64) (h : isF .f64 x = true) : (FloatKind.f64.format.order x x == some .eq) = true := by
  obtain ⟨s, m, i, rfl, hf, _⟩ := fin_fw hx h
  rw [order_fw s s hf hf (Int.le_refl i) (Int.le_refl i)]
  simp [compare_int]
/-- An exact number S 2^d, rounded, is the float that is nearest, up to the sign of 0. -/
theorem fl_near {S d : Int} {b : Bool} (hb : S ≠ 0 → b = decide (S < 0)) (hl : (lim S.natAbs).length ≤ 200) (h1 : -4000 ≤ d) (h2 : d + S.natAbs.log2 ≤ 5000) :
    ∃ s l e, fitY (redZ S d) = (s, l, e, 0) ∧ ∃ z c, flR s l e = (z, c) ∧ (c == 0) = isF .f64 (fw b S.natAbs d) ∧ (c = 0 → (FloatKind.f64.format.order z (fw b S.natAbs d) == some .eq) = true) := by
  obtain ⟨k1, k2⟩ := fl_red hl h1 h2
  refine ⟨(redZ S d).1, (redZ S d).2.1, (redZ S d).2.2, fitY_yes k1, ?_⟩
  rw [isF_rung]
  by_cases h0 : S = 0
  · subst h0
    have hr : flR (redZ 0 d).1 (redZ 0 d).2.1 (redZ 0 d).2.2 = (fw false 0 0, 0) := by
      rcases k2 with k2 | ⟨_, k2⟩
      · rw [k2]; unfold flt; rw [show (0 : Int).natAbs = 0 from rfl, raw_zero, if_pos (by decide), fw_zero]
        rw [fw_zero]; rfl
      · exact k2
    rw [hr]
    refine ⟨_, _, rfl, ?_, fun _ => ?_⟩
    · rw [show (0 : Int).natAbs = 0 from rfl, raw_zero]; rfl
    · rw [show (0 : Int).natAbs = 0 from rfl, fw_zero b d, ← fw_zero b 0]
      rw [order_fw false b (Fit.of (by omega) (by omega) (by omega)) (Fit.of (by omega) (by omega) (by omega)) (Int.le_refl 0) (Int.le_refl 0)]
      rw [(vz_zero (d := 0)).2 rfl, (vz_zero (d := 0)).2 rfl]
      rfl
  · have hr : flR (redZ S d).1 (redZ S d).2.1 (redZ S d).2.2 = flt S.sign S.natAbs d := by
      rcases k2 with k2 | ⟨k2, _⟩
      · exact k2
      · exact absurd k2 h0
    have hs : decide (S.sign < 0) = b := by
      rw [hb h0]
      rcases Int.lt_trichotomy S 0 with h | h | h
      · rw [Int.sign_eq_neg_one_of_neg h, decide_eq_true h]; rfl
      · exact absurd h h0
      · rw [Int.sign_eq_one_of_pos h, decide_eq_false (show ¬ S < 0 by omega)]; rfl
    rw [hr]
    unfold flt
    by_cases hi : rawRung f64 S.natAbs d < 0x7ff0000000000000
    · rw [if_pos hi, hs, decide_eq_true hi]
      exact ⟨_, _, rfl, rfl, fun _ => order_same (fw_lt _ _ _) (by rw [isF_rung, decide_eq_true hi])⟩
    · rw [if_neg hi, decide_eq_false hi]
      exact ⟨_, _, rfl, rfl, fun h => absurd h (by decide)⟩
/-- Sums at any place below. -/
theorem addW_at {z1 x z2 y d : Int} (hx : d ≤ x) (hy : d ≤ y) : addW z1 x z2 y = redZ (z1 * 2 ^ (x - d).toNat + z2 * 2 ^ (y - d).toNat) d := by
  unfold addW
  obtain ⟨K, hK⟩ : ∃ K : Nat, min x y = d + (K : Int) := ⟨(min x y - d).toNat, by omega⟩
  rw [shZ_nn (by omega), shZ_nn (by omega), hK, ← redZ_pow]
  congr 1
  rw [Int.add_mul, Int.mul_assoc, Int.mul_assoc, ← Int.pow_add, ← Int.pow_add]
  rw [show (x - (d + (K : Int))).toNat + K = (x - d).toNat by omega, show (y - (d + (K : Int))).toNat + K = (y - d).toNat by omega]
/-- What the exact value of a float is. -/
theorem dy_val (s : Bool) {m : Nat} {i : Int} (hf : Fit m i) : ∃ (a : Int) (u : Nat) (e : Int), dyF (fw s m i) = (a, lim u, e, 0) ∧ IsDy a (lim u) e ∧ u ≤ m ∧ (a = 0 ∨ a = 1 ∨ a = -1) ∧ ((m = 0 ∧ a = 0 ∧ e = 0) ∨ ∃ K : Nat, e = i + (K : Int) ∧ sg s m = a * (u : Int) * 2 ^ K) := by
  have h53 := hf.1
  have hi1 := hf.2.1
  by_cases h0 : m = 0
  · subst h0
    refine ⟨0, 0, 0, ?_, ⟨isWh_lim (by rw [lim_zero]; simp) (.inl ⟨rfl, rfl⟩), by omega, by omega, .inl ⟨rfl, rfl⟩⟩, Nat.le_refl _, .inl rfl, .inl ⟨rfl, rfl, rfl⟩⟩
    rw [dyF_fw s hf]
    have : sg s 0 = 0 := by unfold sg; cases s <;> rfl
    rw [this, show redZ 0 i = (0, [], 0) from by unfold redZ; exact redS_zero _ _, lim_zero]
  · have hz : (sg s m).natAbs = m := by unfold sg; cases s <;> simp
    have hsz : sg s m ≠ 0 := by intro h; rw [h] at hz; exact h0 hz.symm
    have hl3 : (lim (sg s m).natAbs).length ≤ 200 := by
      rw [hz, lim_length]
      have := dig_small (n := m) (by omega)
      omega
    have hlog : m.log2 < 54 := by
      have := Nat.log2_self_le h0
      exact (Nat.pow_lt_pow_iff_right (by omega : 1 < 2)).1 (show 2 ^ m.log2 < 2 ^ 54 by omega)
    have hi2 : i ≤ 1024 := by
      rcases Int.lt_or_le 1024 i with h9 | h9
      · exfalso
        have h1 := hf.2.2
        have h3 : 2 ^ 53 ≤ 2 ^ (i - 971).toNat := Nat.pow_le_pow_right (by omega) (by omega)
        have h4 := Nat.mul_le_mul (Nat.pos_of_ne_zero h0) h3
        omega
      · exact h9
    have hd := (fl_red (e := i) hl3 (by omega) (by rw [hz]; omega)).1
    have hr : redZ (sg s m) i = ((sg s m).sign, lim (od m), i + (tw m : Int)) := by unfold redZ; rw [hz]; exact redS_pos h0
    rw [hr] at hd
    obtain ⟨ho, hp⟩ := od_mul h0
    refine ⟨(sg s m).sign, od m, i + (tw m : Int), by rw [dyF_fw s hf, hr], dyB_iff.1 hd, ?_, ?_, .inr ⟨tw m, rfl, ?_⟩⟩
    · have h3 := Nat.mul_le_mul_right (od m) (Nat.pow_pos (n := tw m) (show 0 < 2 by omega))
      rw [← ho] at h3
      omega
    · rw [(sg_sign s h0).1]; cases s <;> simp
    · rw [(sg_sign s h0).1, Int.mul_assoc]
      have h3 : (od m : Int) * 2 ^ tw m = (m : Int) := by
        have h4 : ((2 ^ tw m * od m : Nat) : Int) = (m : Int) := by rw [← ho]
        rw [Int.natCast_mul, Int.natCast_pow, Int.mul_comm] at h4
        exact h4
      rw [h3]
      unfold sg
      cases s <;> simp
theorem vz_sg (s : Bool) (m : Nat) (i d : Int) : vz s m i d = sg s m * 2 ^ (i - d).toNat := by
  unfold vz
  have := signed_mul s m 0 (i - d).toNat
  rw [Nat.zero_add, signed_sg] at this
  exact this
/-- The exact value at any place below. -/
theorem dy_at {s : Bool} {m u K : Nat} {i e a d : Int} (h : (m = 0 ∧ a = 0 ∧ e = 0) ∨ ∃ K : Nat, e = i + (K : Int) ∧ sg s m = a * (u : Int) * 2 ^ K) (h1 : d ≤ i) (h2 : d ≤ 0) : d ≤ e ∧ a * (u : Int) * 2 ^ (e - d).toNat = vz s m i d := by
  rw [vz_sg]
  rcases h with ⟨rfl, rfl, rfl⟩ | ⟨K, rfl, h3⟩
  · refine ⟨h2, ?_⟩
    rw [Int.zero_mul, Int.zero_mul]
    unfold sg
    cases s <;> simp
  · refine ⟨by omega, ?_⟩
    rw [h3, Int.mul_assoc (a * (u : Int)), ← Int.pow_add, show (i + (K : Int) - d).toNat = K + (i - d).toNat by omega]
theorem big_200 {n K : Nat} (h : n < 2 ^ K) (hK : K ≤ 4800) : (lim n).length ≤ 200 := by
  obtain ⟨L, hL⟩ : ∃ L : Nat, L = 200 := ⟨_, rfl⟩
  rw [lim_length, ← hL]
  refine dig_length_le ?_
  have e : ∀ q : Nat, (16777216 : Nat) ^ q = 2 ^ (24 * q) := fun q => by rw [show (16777216 : Nat) = 2 ^ 24 by decide, ← Nat.pow_mul]
  rw [e]
  exact Nat.lt_of_lt_of_le h (Nat.pow_le_pow_right (by omega) (by omega))
theorem big_log {n k : Nat} (h : n < 2 ^ (k + 1)) : n.log2 ≤ k := by
  by_cases h0 : n = 0
  · subst h0; simp
  · have h1 := Nat.log2_self_le h0
    have h2 := (Nat.pow_lt_pow_iff_right (by omega : 1 < 2)).1 (Nat.lt_of_le_of_lt h1 h)
    omega
theorem vz_abs (s : Bool) (m : Nat) (i d : Int) : (vz s m i d).natAbs = m * 2 ^ (i - d).toNat := by
  rw [vz_sg, Int.natAbs_mul]
  have h1 : (sg s m).natAbs = m := by unfold sg; cases s <;> simp
  have h2 : ((2 : Int) ^ (i - d).toNat).natAbs = 2 ^ (i - d).toNat := by rw [show (2 : Int) ^ (i - d).toNat = ((2 ^ (i - d).toNat : Nat) : Int) by simp]; exact Int.natAbs_natCast _
  rw [h1, h2]
theorem fit_big {m B : Nat} {i d : Int} (h : Fit m i) (hd : -1074 ≤ d) (hB : B = 2098) : m * 2 ^ (i - d).toNat < 2 ^ B := by
  obtain ⟨C, hC⟩ : ∃ C : Nat, C = 2045 := ⟨_, rfl⟩
  have h1 : (i - d).toNat ≤ (i - 971).toNat + C := by omega
  have h2 : m * 2 ^ (i - d).toNat ≤ m * 2 ^ ((i - 971).toNat + C) := Nat.mul_le_mul_left _ (Nat.pow_le_pow_right (by omega) h1)
  rw [Nat.pow_add, ← Nat.mul_assoc] at h2
  refine Nat.lt_of_le_of_lt h2 ?_
  rw [show B = 53 + C by omega, Nat.pow_add]
  exact Nat.mul_lt_mul_of_pos_right h.2.2 (Nat.pow_pos (by omega))
theorem two_big {a b n B : Nat} (ha : a < 2 ^ B) (hb : b < 2 ^ B) (hn : n ≤ a + b) : n < 2 ^ (B + 1) := by
  rw [Nat.pow_succ]
  generalize (2 : Nat) ^ B = P at *
  omega
/-- The sum of two floats is the exact one rounded. -/
theorem sum_facts {x y : Nat} (hx : x < 2 ^ 64) (hy : y < 2 ^ 64) (fx : isF .f64 x = true) (fy : isF .f64 y = true) {s e t f : Int} {l k : List Int} (h1 : dyF x = (s, l, e, 0)) (h2 : dyF y = (t, k, f, 0)) :
    ∃ v, floatBits .add .f64 x y = some v ∧ ∃ r l' e', binY addW s l e t k f = (r, l', e', 0) ∧ ∃ z c, flR r l' e' = (z, c) ∧ (c == 0) = isF .f64 v ∧ (c = 0 → (FloatKind.f64.format.order z v == some .eq) = true) := by
  obtain ⟨bs, m, i, rfl, fm, _⟩ := fin_fw hx fx
  obtain ⟨bt, n, j, rfl, fn, _⟩ := fin_fw hy fy
  obtain ⟨a1, u1, e1, d1, y1, _, _, g1⟩ := dy_val bs fm
  obtain ⟨a2, u2, e2, d2, y2, _, _, g2⟩ := dy_val bt fn
  rw [d1] at h1
  rw [d2] at h2
  simp only [Prod.mk.injEq] at h1 h2
  obtain ⟨rfl, rfl, rfl, _⟩ := h1
  obtain ⟨rfl, rfl, rfl, _⟩ := h2
  obtain ⟨d, hd, hdi, hdj, hd0, hdl⟩ : ∃ d : Int, d = min (min i j) 0 ∧ d ≤ i ∧ d ≤ j ∧ d ≤ 0 ∧ -1074 ≤ d := ⟨min (min i j) 0, rfl, by omega, by omega, by omega, by have := fm.2.1; have := fn.2.1; omega⟩
  obtain ⟨p1, p2⟩ := dy_at (K := 0) g1 hdi hd0
  obtain ⟨p3, p4⟩ := dy_at (K := 0) g2 hdj hd0
  obtain ⟨S, hS⟩ : ∃ S, S = vz bs m i d + vz bt n j d := ⟨_, rfl⟩
  obtain ⟨B, hB⟩ : ∃ B : Nat, B = 2098 := ⟨_, rfl⟩
  have hb : S.natAbs < 2 ^ (B + 1) := by
    refine two_big (fit_big fm hdl hB) (fit_big fn hdl hB) ?_
    rw [← vz_abs bs m i d, ← vz_abs bt n j d, hS]
    exact Int.natAbs_add_le _ _
  refine ⟨_, add_fw bs bt fm fn hdi hdj S hS, ?_⟩
  have hlog := big_log hb
  obtain ⟨r, l', e', hr, z, c, hz, hc, ho⟩ := fl_near (S := S) (d := d) (b := if S = 0 then bs && bt else decide (S < 0)) (fun h => by rw [if_neg h]) (big_200 hb (by omega)) (by omega) (by omega)
  refine ⟨r, l', e', ?_, z, c, hz, hc, ho⟩
  rw [binY_yes y1 y2, addW_at p1 p3, p2, p4, ← hS]
  exact hr
/-- The product of two floats is the exact one rounded. -/
theorem product_facts {x y : Nat} (hx : x < 2 ^ 64) (hy : y < 2 ^ 64) (fx : isF .f64 x = true) (fy : isF .f64 y = true) {s e t f : Int} {l k : List Int} (h1 : dyF x = (s, l, e, 0)) (h2 : dyF y = (t, k, f, 0)) :
    ∃ v, floatBits .mul .f64 x y = some v ∧ ∃ r l' e', binY mulW s l e t k f = (r, l', e', 0) ∧ ∃ z c, flR r l' e' = (z, c) ∧ (c == 0) = isF .f64 v ∧ (c = 0 → (FloatKind.f64.format.order z v == some .eq) = true) := by
  obtain ⟨bs, m, i, rfl, fm, cm⟩ := fin_fw hx fx
  obtain ⟨bt, n, j, rfl, fn, cn⟩ := fin_fw hy fy
  obtain ⟨a1, u1, e1, d1, y1, _, _, g1⟩ := dy_val bs fm
  obtain ⟨a2, u2, e2, d2, y2, _, _, g2⟩ := dy_val bt fn
  rw [d1] at h1
  rw [d2] at h2
  simp only [Prod.mk.injEq] at h1 h2
  obtain ⟨rfl, rfl, rfl, _⟩ := h1
  obtain ⟨rfl, rfl, rfl, _⟩ := h2
  refine ⟨_, mul_fw bs bt fm fn, ?_⟩
  obtain ⟨S, hS⟩ : ∃ S, S = sg bs m * sg bt n := ⟨_, rfl⟩
  have ha : ∀ (b : Bool) (q : Nat), (sg b q).natAbs = q := fun b q => by unfold sg; cases b <;> simp
  have hSa : S.natAbs = m * n := by rw [hS, Int.natAbs_mul, ha, ha]
  have hmn : m * n < 2 ^ 106 := by
    have h3 := fm.1
    have h4 := fn.1
    have h5 : m * n ≤ m * 2 ^ 53 := Nat.mul_le_mul_left _ (by omega)
    omega
  have hi : ∀ {q : Nat} {g : Int}, Fit q g → Canon f64 q g → -1074 ≤ g ∧ g ≤ 1024 := fun {q g} hf hc => by
    obtain ⟨k1, k2, k3⟩ := hc
    rw [f64_low] at k1 k3
    rw [f64_bin] at k3
    refine ⟨k1, ?_⟩
    rcases Int.lt_or_le 1024 g with h9 | h9
    · exfalso
      have h1 := hf.2.2
      have h0 : 0 < q := by omega
      have h3 : 2 ^ 53 ≤ 2 ^ (g - 971).toNat := Nat.pow_le_pow_right (by omega) (by omega)
      have h4 := Nat.mul_le_mul h0 h3
      omega
    · exact h9
  have b1 := hi fm cm
  have b2 := hi fn cn
  have hlog : S.natAbs.log2 ≤ 105 := big_log (by rw [hSa]; exact hmn)
  have hsgn : S ≠ 0 → (bs ^^ bt) = decide (S < 0) := by
    intro h
    have h0 : m ≠ 0 := fun h3 => h (by rw [hS, h3]; unfold sg; cases bs <;> simp)
    have h0' : n ≠ 0 := fun h3 => h (by rw [hS, h3]; unfold sg; cases bt <;> simp)
    have h1 : (S < 0) ↔ S.sign = -1 := by
      rcases Int.lt_trichotomy S 0 with h | h | h
      · rw [Int.sign_eq_neg_one_of_neg h]; omega
      · rw [h]; decide
      · rw [Int.sign_eq_one_of_pos h]; omega
    have h2 : S.sign = (if bs then -1 else 1) * (if bt then -1 else 1) := by rw [hS, Int.sign_mul, (sg_sign bs h0).1, (sg_sign bt h0').1]
    have h3 : decide (S < 0) = decide (S.sign = -1) := decide_eq_decide.2 h1
    rw [h3, h2]
    cases bs <;> cases bt <;> rfl
  obtain ⟨r, l', e', hr, z, c, hz, hc, ho⟩ := fl_near (S := S) (d := i + j) (b := bs ^^ bt) hsgn (big_200 (K := 106) (by rw [hSa]; exact hmn) (by omega)) (by omega) (by omega)
  rw [hSa] at hc ho
  refine ⟨r, l', e', ?_, z, c, hz, hc, ho⟩
  rw [binY_yes y1 y2, ← hr]
  congr 1
  unfold mulW
  rw [hS]
  rcases g1 with ⟨rfl, rfl, rfl⟩ | ⟨K, rfl, q1⟩
  · have : sg bs 0 = 0 := by unfold sg; cases bs <;> rfl
    rw [this, Int.zero_mul, Int.zero_mul, Int.zero_mul]
    simp [redZ, redS]
  · rcases g2 with ⟨rfl, rfl, rfl⟩ | ⟨M, rfl, q2⟩
    · have : sg bt 0 = 0 := by unfold sg; cases bt <;> rfl
      rw [this, Int.zero_mul, Int.mul_zero, Int.mul_zero]
      simp [redZ, redS]
    · rw [q1, q2]
      rw [show i + (K : Int) + (j + (M : Int)) = i + j + ((K + M : Nat) : Int) by omega, ← redZ_pow]
      congr 1
      rw [Int.pow_add]
      ac_rfl
theorem sub_add (x y : Nat) : floatBits .sub .f64 x y = floatBits .add .f64 x (Op.negFloat .f64 y) := by
  simp only [floatBits, Ieee.Format.sub, Ieee.Format.add, read_neg]
theorem neg_lt {x : Nat} (h : x < 2 ^ 64) : Op.negFloat .f64 x < 2 ^ 64 := by
  have e2 : (2 : Nat) ^ (FloatKind.f64.format.exponentBits + FloatKind.f64.format.fractionBits) = 2 ^ 63 := by decide
  unfold Op.negFloat
  rw [e2]
  exact Nat.xor_lt_two_pow h (by decide)
theorem redZ_neg (z e : Int) : redZ (-z) e = (-(redZ z e).1, (redZ z e).2.1, (redZ z e).2.2) := by
  unfold redZ
  rw [Int.sign_neg, Int.natAbs_neg]
  by_cases h : z.natAbs = 0
  · rw [h, redS_zero, redS_zero]; rfl
  · rw [redS_pos h, redS_pos h]
theorem dyF_neg {x : Nat} (fx : isF .f64 x = true) {s e : Int} {l : List Int} (h : dyF x = (s, l, e, 0)) : dyF (Op.negFloat .f64 x) = (-s, l, e, 0) := by
  unfold isF at fx
  unfold dyF at h ⊢
  rw [read_neg]
  cases hr : FloatKind.f64.format.read x with
  | number b m i =>
    rw [hr] at h
    simp only [Ieee.Datum.opposite] at h ⊢
    have hz : sg (!b) m = -(sg b m) := by unfold sg; cases b <;> simp
    simp only [Prod.mk.injEq] at h
    obtain ⟨rfl, rfl, rfl, _⟩ := h
    rw [hz, redZ_neg]
  | _ => rw [hr] at fx; simp at fx
/-- The difference of two floats is the exact one rounded. -/
theorem diff_facts {x y : Nat} (hx : x < 2 ^ 64) (hy : y < 2 ^ 64) (fx : isF .f64 x = true) (fy : isF .f64 y = true) {s e t f : Int} {l k : List Int} (h1 : dyF x = (s, l, e, 0)) (h2 : dyF y = (t, k, f, 0)) :
    ∃ v, floatBits .sub .f64 x y = some v ∧ ∃ r l' e', binY subW s l e t k f = (r, l', e', 0) ∧ ∃ z c, flR r l' e' = (z, c) ∧ (c == 0) = isF .f64 v ∧ (c = 0 → (FloatKind.f64.format.order z v == some .eq) = true) := by
  have h3 := dyF_neg fy h2
  obtain ⟨v, hv, r, l', e', hr, hz⟩ := sum_facts hx (neg_lt hy) fx (by rw [isF_neg]; exact fy) h1 h3
  refine ⟨v, by rw [sub_add]; exact hv, r, l', e', ?_, hz⟩
  rw [← hr]
  obtain ⟨bs, m, i, rfl, fm, _⟩ := fin_fw hx fx
  obtain ⟨bt, n, j, hy2, fn, _⟩ := fin_fw hy fy
  obtain ⟨bu, n', j', hy3, fn', _⟩ := fin_fw (neg_lt hy) (by rw [isF_neg]; exact fy)
  obtain ⟨a1, u1, e1, d1, y1, _⟩ := dy_val bs fm
  obtain ⟨a2, u2, e2, d2, y2, _⟩ := dy_val bt fn
  obtain ⟨a3, u3, e3, d3, y3, _⟩ := dy_val bu fn'
  rw [← hy2] at d2
  rw [← hy3] at d3
  rw [d1] at h1
  rw [d2] at h2
  rw [d3] at h3
  simp only [Prod.mk.injEq] at h1 h2 h3
  obtain ⟨rfl, rfl, rfl, _⟩ := h1
  obtain ⟨rfl, rfl, rfl, _⟩ := h2
  obtain ⟨q1, q2, q3, _⟩ := h3
  rw [q1, q2, q3] at y3
  rw [binY_yes y1 y2, binY_yes y1 y3]
  unfold subW
  rw [Int.neg_mul]
end Go.Proofs.YtgppagmejhgmaaaGreatDoor
