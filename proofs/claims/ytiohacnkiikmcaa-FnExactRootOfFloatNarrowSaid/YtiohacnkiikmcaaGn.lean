/-
  Contracts: an exact number that a float32 holds, rounded to a float32 by the program. Conditions: the limbs can be read; the library's table is as its initialiser lays it.
-/
import Derived.Test.YtiohacnkiikmcaaGc
import Derived.Test.YtiohacnkiikmcaaFw
namespace Go.Proofs.Ytiohacnkiikmcaa
set_option linter.unusedVariables false
open Go Go.RowKit Ieee

def f32 : Format := FloatKind.f32.format
theorem f32_sw : f32.signWeight = 2 ^ 31 := by decide
theorem f32_bin : f32.binade = 2 ^ 23 := by decide
theorem f32_inf : f32.infRung = 0x7f800000 := by decide
theorem f32_low : f32.leastPlace = -149 := by decide
/-- What reading tells of a word: its rung is that of the number. -/
theorem read_canonN {x : Nat} {s : Bool} {m : Nat} {i : Int} (h : f32.read x = .number s m i) :
    x % 2 ^ 31 = rawRung f32 m i ∧ x % 2 ^ 31 < 0x7f800000 ∧ s = (x / 2 ^ 31 % 2 == 1) := by
  have hc : Canon f32 m i ∧ x % 2 ^ 31 = (i - f32.leastPlace).toNat * f32.binade + m ∧ x % 2 ^ 31 < 0x7f800000 ∧ s = (x / 2 ^ 31 % 2 == 1) := by
    simp only [Format.read, f32_sw, f32_bin, f32_inf, f32_low] at h
    unfold Canon
    rw [f32_bin, f32_low]
    split at h
    · simp only [Datum.number.injEq] at h
      obtain ⟨h1, h2, h3⟩ := h
      refine ⟨⟨by omega, by omega, by omega⟩, ?_, by omega, h1.symm⟩
      rw [show (i - -149).toNat = 0 by omega]; omega
    · split at h
      · simp only [Datum.number.injEq] at h
        obtain ⟨h1, h2, h3⟩ := h
        refine ⟨⟨by omega, by omega, by omega⟩, ?_, by omega, h1.symm⟩
        have h4 : (i - -149).toNat = x % 2 ^ 31 / 2 ^ 23 - 1 := by omega
        rw [h4, ← h2]
        omega
      · split at h <;> cases h
  exact ⟨by rw [rawRung_canon f32 hc.1]; exact hc.2.1, hc.2.2⟩
theorem word_partsN {x : Nat} (hx : x < 2 ^ 32) : x = f32.word (x / 2 ^ 31 % 2 == 1) (x % 2 ^ 31) := by
  unfold Format.word
  rw [f32_sw]
  by_cases h : x / 2 ^ 31 % 2 = 1
  · rw [if_pos (by simpa using h)]; omega
  · rw [if_neg (by simpa using h)]; omega
/-- A float64 that holds a float32's value, made narrow, is this float32. -/
theorem narrow_back {x : Nat} (hx : x < 2 ^ 32) {s : Bool} {m : Nat} {i : Int} (h : FloatKind.f32.format.read x = .number s m i) : floatToFloatBits .f64 (fw s m i) .f32 = some x := by
  obtain ⟨h1, h2, h3⟩ := read_fin_f32 h
  obtain ⟨k, hr, _⟩ := read_fw s (Fit.of (m := m) (i := i) (by omega) (by omega) (by omega))
  obtain ⟨g1, g2, g3⟩ := read_canonN h
  have he : FloatKind.f32.encode (.number s (m * 2 ^ k) (i - k)) = x := by
    show f32.nearest s (m * 2 ^ k) (i - k) = x
    rw [nearest_eq, f32_inf, rawRung_shift, ← g1, Nat.min_eq_left (by omega), g3]
    exact (word_partsN hx).symm
  unfold floatToFloatBits
  rw [if_neg (by decide)]
  have h4 : FloatKind.f64.decode (fw s m i) = _ := hr
  rw [h4]
  simp only
  rw [he]
  have h5 : FloatKind.f32.decode x = _ := h
  rw [h5]
  rfl
theorem order_zeroN {x : Nat} {s : Bool} {i : Int} (h : FloatKind.f32.format.read x = .number s 0 i) : (FloatKind.f32.format.order 0 x == some .eq) = true := by
  have h0 : FloatKind.f32.format.read 0 = .number false 0 (-149) := by decide +kernel
  unfold Format.order
  rw [h, h0]
  simp only [Datum.order]
  have e1 : ∀ k, signed false 0 k = 0 := fun k => by rw [signed_false]; simp
  have e2 : ∀ k, signed s 0 k = 0 := fun k => by cases s; exact e1 k; rw [signed_true]; simp
  rw [e1, e2]
  rfl
theorem order_sameN {x : Nat} {s : Bool} {m : Nat} {i : Int} (h : FloatKind.f32.format.read x = .number s m i) : (FloatKind.f32.format.order x x == some .eq) = true := by
  unfold Format.order
  rw [h]
  simp only [Datum.order]
  rw [compare_int]
  simp

/-- How a float32's exact value is rounded back. -/
structure RoundedN (s : Int) (m : Nat) (x q : Int) (r x0 y : Nat) : Prop where
  place : max (blen m + x - 24) (-149) = q
  mult : nsh m (x - q) = r
  least : -149 ≤ q
  high : q ≤ 104
  most : r < 2 ^ 24
  ok : m ≠ 0 ∨ 0 ≤ x - q
  over : blen r + q ≤ 128
  back : floatToFloatBits .f64 (fw (decide (s < 0)) r q) .f32 = some y
  same : (FloatKind.f32.format.order y x0 == some .eq) = true
theorem narrow_held {x0 : Nat} (hx : x0 < 2 ^ 32) {s e : Int} {l : List Int} (h : dyN x0 = (s, l, e, 0)) : ∃ u q r y, l = lim u ∧ IsDy s (lim u) e ∧ RoundedN s u e q r x0 y := by
  unfold dyN at h
  split at h
  · rename_i b m i hr
    obtain ⟨h1, h2, h3⟩ := read_fin_f32 hr
    simp only [Prod.mk.injEq] at h
    obtain ⟨e1, e2, e3, _⟩ := h
    by_cases h0 : m = 0
    · subst h0
      have e0 : sg b 0 = 0 := by unfold sg; cases b <;> rfl
      have er : redZ (sg b 0) i = (0, [], 0) := by rw [e0]; unfold redZ; exact redS_zero _ _
      rw [er] at e1 e2 e3
      simp only at e1 e2 e3
      subst e1 e2 e3
      refine ⟨0, -24, 0, 0, lim_zero.symm, ⟨isWh_lim (by rw [lim_zero]; simp) (.inl ⟨rfl, rfl⟩), by omega, by omega, .inl ⟨rfl, rfl⟩⟩, ?_, ?_, by omega, by omega, by omega, by omega, ?_, ?_, order_zeroN hr⟩
      · rw [blen_zero]; rfl
      · unfold nsh; simp
      · rw [blen_zero]; omega
      · rw [fw_zero]; decide +kernel
    · have hz : (sg b m).natAbs = m := sgf_abs b m
      have er : redZ (sg b m) i = ((sg b m).sign, lim (od m), i + (tw m : Int)) := by unfold redZ; rw [hz]; exact redS_pos h0
      rw [er] at e1 e2 e3
      simp only at e1 e2 e3
      subst e1 e2 e3
      obtain ⟨ho, hp⟩ := od_mul h0
      have hod : od m ≠ 0 := fun h => by rw [h] at hp; omega
      have ho' : m = od m * 2 ^ tw m := by rw [Nat.mul_comm]; exact ho
      have hlog : m.log2 = (od m).log2 + tw m := by
        have := log2_shift hod (tw m)
        rw [← ho'] at this
        exact this
      have hl24 : m.log2 ≤ 23 := by
        have h5 := log_le h0
        have h6 : 2 ^ m.log2 < 2 ^ 24 := by omega
        have := (Nat.pow_lt_pow_iff_right (by omega : 1 < 2)).1 h6
        omega
      have hle : od m ≤ m := by
        have h3 := Nat.mul_le_mul_right (od m) (Nat.pow_pos (n := tw m) (show 0 < 2 by omega))
        rw [← ho] at h3
        omega
      have hlen : (lim (od m)).length ≤ 200 := by
        rw [lim_length]
        have := dig_small (n := od m) (by omega)
        omega
      have hs : (sg b m).sign = 1 ∨ (sg b m).sign = -1 := by
        have hne : sg b m ≠ 0 := fun hh => by rw [hh] at hz; exact h0 hz.symm
        rcases Int.lt_trichotomy (sg b m) 0 with hh | hh | hh
        · exact .inr (Int.sign_eq_neg_one_of_neg hh)
        · exact absurd hh hne
        · exact .inl (Int.sign_eq_one_of_pos hh)
      have hb : decide ((sg b m).sign < 0) = b := by
        have h7 := (sg_neg (s := b) h0).1
        refine Eq.trans (decide_eq_decide.2 ?_) h7
        rcases Int.lt_trichotomy (sg b m) 0 with hh | hh | hh
        · rw [Int.sign_eq_neg_one_of_neg hh]; omega
        · rw [hh]; decide
        · rw [Int.sign_eq_one_of_pos hh]; omega
      obtain ⟨q, hq⟩ : ∃ q : Int, q = max ((m.log2 : Int) + 1 + i - 24) (-149) := ⟨_, rfl⟩
      obtain ⟨K, hK⟩ : ∃ K : Nat, i - q = (K : Int) := ⟨(i - q).toNat, by omega⟩
      have hr2 : (m * 2 ^ K).log2 = m.log2 + K := log2_shift h0 K
      have hrp : m * 2 ^ K ≠ 0 := by
        have := Nat.mul_pos (Nat.pos_of_ne_zero h0) (Nat.two_pow_pos K)
        omega
      have hr24 : m * 2 ^ K < 2 ^ 24 := by
        have h8 := lt_two_log (m * 2 ^ K)
        rw [hr2] at h8
        exact Nat.lt_of_lt_of_le h8 (Nat.pow_le_pow_right (by omega) (by omega))
      refine ⟨od m, q, m * 2 ^ K, x0, rfl, ⟨isWh_lim hlen (.inr ⟨hod, hs⟩), by omega, by omega, .inr ⟨by omega, ?_⟩⟩, ?_, ?_, by omega, by omega, hr24, .inl hod, ?_, ?_, order_sameN hr⟩
      · rw [lim_getD]
        omega
      · rw [blen_log hod, hq]
        omega
      · unfold nsh
        rw [if_pos (by omega), show (i + (tw m : Int) - q).toNat = tw m + K by omega, Nat.pow_add, ← Nat.mul_assoc, ← ho']
      · rw [blen_log hrp, hr2]
        omega
      · rw [hb]
        have h9 := fw_shift b m i K
        rw [show i - (K : Int) = q by omega] at h9
        rw [h9]
        exact narrow_back hx hr
  · simp at h

end Go.Proofs.Ytiohacnkiikmcaa
