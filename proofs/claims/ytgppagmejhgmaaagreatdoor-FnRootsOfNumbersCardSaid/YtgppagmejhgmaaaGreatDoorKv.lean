/-
  Roots of narrow complex numbers are small enough to be made narrow: maths. Conditions: none. Roots of narrow complex numbers are made narrow without a draw: maths. Conditions: none. Roots of narrow complex numbers are made narrow without a draw. Conditions: none. Contracts: roots of narrow complex numbers, by the program and by the model. Conditions: the library's table is as its initialiser lays it. Contracts: roots of narrow complex numbers, by the program and by the model. Conditions: the library's table is as its initialiser lays it.
-/
import Derived.Test.YtgppagmejhgmaaaGreatDoorKq
namespace Go.Proofs.YtgppagmejhgmaaaGreatDoor
set_option linter.unusedVariables false
open Go Go.RowKit

open Go Go.RowKit Ieee

theorem word_f (r : Nat) : f64.word false r = r := by unfold Format.word; rw [if_neg (by decide)]
theorem fw_f (m : Nat) (i : Int) : fw false m i = rungOf m i := word_f _
theorem nn_form {x : Nat} (hx : NN x) (fx : isF .f64 x = true) : ∃ m i, x = fw false m i ∧ Fit m i ∧ Canon f64 m i ∧ mg x = m * 2 ^ (i + 1074).toNat := by
  obtain ⟨s, m, i, he, hF, hC⟩ := fin_fw hx.lt fx
  have hs : s = false := by
    cases s
    · rfl
    · exfalso
      have := sign_fw true m i
      rw [← he] at this
      have h4 : true.toNat = 1 := rfl
      unfold NN at hx
      omega
  subst hs
  exact ⟨m, i, he, hF, hC, by rw [he, mg_fw false hF]⟩
theorem nn_units {x : Nat} (hx : NN x) (fx : isF .f64 x = true) : x = rungOf (mg x) (-1074) := by
  obtain ⟨m, i, he, hF, _, _⟩ := nn_form hx fx
  have h := fw_mg false hF
  rw [← he, fw_f] at h
  exact h.symm
/-- Words of at least 0 are in the order of their sizes. -/
theorem mg_le {x y : Nat} (hx : NN x) (hy : NN y) (fx : isF .f64 x = true) (fy : isF .f64 y = true) (h : x ≤ y) : mg x ≤ mg y := by
  have h1 := order_word (r := x) (t := y) hx hy
  rw [word_f, word_f] at h1
  obtain ⟨m, i, e1, hF, _, m1⟩ := nn_form hx fx
  obtain ⟨n, j, e2, hG, _, m2⟩ := nn_form hy fy
  have h2 := order_fw false false hF hG (d := -1074) hF.2.1 hG.2.1
  rw [← e1, ← e2, compare_int] at h2
  have v1 : vz false m i (-1074) = (mg x : Int) := by
    unfold vz; rw [signed_false, m1, show (i - -1074).toNat = (i + 1074).toNat by omega]
  have v2 : vz false n j (-1074) = (mg y : Int) := by
    unfold vz; rw [signed_false, m2, show (j - -1074).toNat = (j + 1074).toNat by omega]
  rw [v1, v2] at h2
  have h3 : f64.order x y = _ := h2
  rw [h1] at h3
  rcases Nat.lt_or_ge (mg y) (mg x) with h4 | h4
  · exfalso
    rw [if_neg (show ¬ ((mg x : Nat) : Int) < ((mg y : Nat) : Int) by omega), if_neg (show ¬ ((mg x : Nat) : Int) = ((mg y : Nat) : Int) by omega)] at h3
    by_cases hl : x < y
    · rw [if_pos hl] at h3; cases h3
    · rw [if_neg hl, if_pos (by omega)] at h3; cases h3
  · exact h4
/-- The word of 2^b units. -/
def pw (b : Nat) : Nat := rungOf (2 ^ b) (-1074)
theorem pw_fw (b : Nat) : pw b = fw false 1 ((b : Int) - 1074) := by
  rw [fw_f]
  unfold pw
  have := rungOf_shift 1 ((b : Int) - 1074) b
  rw [Nat.one_mul, show (b : Int) - 1074 - (b : Int) = -1074 by omega] at this
  exact this
theorem pw_nn (b : Nat) : NN (pw b) := rungOf_le _ _
theorem pw_fit {b : Nat} (h : b ≤ 2045) : Fit 1 ((b : Int) - 1074) := Fit.of (by omega) (by omega) (by omega)
theorem pw_mg {b : Nat} (h : b ≤ 2045) : isF .f64 (pw b) = true ∧ mg (pw b) = 2 ^ b := by
  rw [pw_fw]
  refine ⟨isF_fw false (pw_fit h), ?_⟩
  rw [mg_fw false (pw_fit h), Nat.one_mul, show ((b : Int) - 1074 + 1074).toNat = b by omega]
theorem of_pw {x b : Nat} (hx : NN x) (fx : isF .f64 x = true) (hb : b ≤ 2045) (h : pw b ≤ x) : 2 ^ b ≤ mg x := by
  have := mg_le (pw_nn b) hx (pw_mg hb).1 fx h
  rw [(pw_mg hb).2] at this
  exact this
theorem of_pw_le {x b : Nat} (hx : NN x) (fx : isF .f64 x = true) (hb : b ≤ 2045) (h : x ≤ pw b) : mg x ≤ 2 ^ b := by
  have := mg_le hx (pw_nn b) fx (pw_mg hb).1 h
  rw [(pw_mg hb).2] at this
  exact this

/-- A sum's word. -/
theorem add_units {a b r : Nat} (ha : NN a) (hb : NN b) (fa : isF .f64 a = true) (fb : isF .f64 b = true) (h : floatBits .add .f64 a b = some r) : r = rungOf (mg a + mg b) (-1074) := by
  obtain ⟨m, i, e1, hF, _, m1⟩ := nn_form ha fa
  obtain ⟨n, j, e2, hG, _, m2⟩ := nn_form hb fb
  have v1 : vz false m i (-1074) = (mg a : Int) := by
    unfold vz; rw [signed_false, m1, show (i - -1074).toNat = (i + 1074).toNat by omega]
  have v2 : vz false n j (-1074) = (mg b : Int) := by
    unfold vz; rw [signed_false, m2, show (j - -1074).toNat = (j + 1074).toNat by omega]
  have h1 := add_fw false false hF hG hF.2.1 hG.2.1 ((mg a + mg b : Nat) : Int) (by rw [v1, v2]; simp)
  rw [← e1, ← e2, h] at h1
  have h2 := Option.some.inj h1
  rw [h2, Int.natAbs_natCast]
  have hs : (if ((mg a + mg b : Nat) : Int) = 0 then (false && false) else decide (((mg a + mg b : Nat) : Int) < 0)) = false := by
    split
    · rfl
    · exact decide_eq_false (by omega)
  rw [hs, fw_f]
/-- Half of a float, between powers of 2. -/
theorem half_units {a r : Nat} (ha : NN a) (fa : isF .f64 a = true) (h : floatBits .quo .f64 a 4611686018427387904 = some r) :
    (∀ b, 1 ≤ b → 2 ^ b ≤ mg a → pw (b - 1) ≤ r) ∧ (∀ b, mg a ≤ 2 ^ (b + 1) → r ≤ pw b) := by
  obtain ⟨m, i, e1, hF, _, m1⟩ := nn_form ha fa
  have h1 := half_fw false hF
  rw [← e1, h] at h1
  have h2 := Option.some.inj h1
  rw [fw_f] at h2
  have hi := hF.2.1
  refine ⟨fun b hb hm => ?_, fun b hm => ?_⟩
  · rw [h2]
    refine rungOf_mono ⟨-1075, by omega, by omega, ?_⟩
    rw [show ((-1074 : Int) - -1075).toNat = 1 by omega, show (i - 1 - -1075).toNat = (i + 1074).toNat by omega, ← m1, ← Nat.pow_add, show b - 1 + 1 = b by omega]
    exact hm
  · rw [h2]
    refine rungOf_mono ⟨-1075, by omega, by omega, ?_⟩
    rw [show ((-1074 : Int) - -1075).toNat = 1 by omega, show (i - 1 - -1075).toNat = (i + 1074).toNat by omega, ← m1, ← Nat.pow_add]
    exact hm
/-- A root, between powers of 2. -/
theorem sq_units {a : Nat} (ha : NN a) (fa : isF .f64 a = true) :
    (∀ b k : Nat, 2 ^ k ≤ mg a → 2 * b ≤ k + 1074 → pw b ≤ sq a) ∧ (∀ k Z : Nat, Z = 1074 + 2 * k → mg a < 2 ^ Z → sq a ≤ fw false 1 (k : Int)) := by
  obtain ⟨m, i, e1, hF, _, m1⟩ := nn_form ha fa
  have hi := hF.2.1
  by_cases hm : m = 0
  · subst hm
    have h4 : sq a = 0 := by rw [e1]; unfold sq; rw [sqrt_zero]; show fw false 0 i = 0; exact fw_0 _
    rw [Nat.zero_mul] at m1
    refine ⟨fun b k h1 _ => ?_, fun k Z _ _ => ?_⟩
    · have : 0 < 2 ^ k := Nat.pow_pos (by omega)
      omega
    · rw [h4]; omega
  · obtain ⟨c, r, e, g1, g2, g3, g4⟩ := sqrt_fw hF hm
    have h4 : sq a = rungOf (stk (m * 2 ^ c) r) (e - 1) := by rw [e1]; unfold sq; rw [g1]; show fw false _ _ = _; exact fw_f _ _
    rw [h4]
    refine ⟨fun b k h1 h2 => ?_, fun k Z hZ h1 => ?_⟩
    · rw [pw_fw, fw_f]
      have hst : 2 * r ≤ stk (m * 2 ^ c) r := by unfold stk; omega
      by_cases hbe : (b : Int) - 1074 < e
      · refine rungOf_mono ⟨(b : Int) - 1074, by omega, by omega, ?_⟩
        rw [show ((b : Int) - 1074 - ((b : Int) - 1074)).toNat = 0 by omega]
        have : 0 < 2 ^ (e - 1 - ((b : Int) - 1074)).toNat := Nat.pow_pos (by omega)
        have := Nat.mul_le_mul (show 1 ≤ stk (m * 2 ^ c) r by omega) (show 1 ≤ 2 ^ (e - 1 - ((b : Int) - 1074)).toNat by omega)
        omega
      · obtain ⟨E, hE⟩ : ∃ E : Nat, (E : Int) = (b : Int) - 1074 - e := ⟨((b : Int) - 1074 - e).toNat, by omega⟩
        have h5 : 2 ^ E * 2 ^ E ≤ m * 2 ^ c := by
          have hp : 0 < 2 ^ (i + 1074).toNat := Nat.pow_pos (by omega)
          refine Nat.le_of_mul_le_mul_right ?_ hp
          rw [← Nat.pow_add, ← Nat.pow_add, Nat.mul_assoc, Nat.mul_comm (2 ^ c), ← Nat.mul_assoc, ← m1]
          refine Nat.le_trans ?_ (Nat.mul_le_mul_right _ h1)
          rw [← Nat.pow_add]
          exact Nat.pow_le_pow_right (by omega) (by omega)
        have h6 : 2 ^ E < r + 1 := sq_lt (Nat.lt_of_le_of_lt h5 g3.2)
        refine rungOf_mono ⟨e - 1, by omega, by omega, ?_⟩
        rw [show ((b : Int) - 1074 - (e - 1)).toNat = E + 1 by omega, show (e - 1 - (e - 1)).toNat = 0 by omega, Nat.pow_succ]
        omega
    · rw [fw_f]
      have hlt : m < 2 ^ (2 * (k : Int) - i).toNat ∧ i < 2 * (k : Int) + 1 := by
        rw [m1] at h1
        have hii : i ≤ 2 * (k : Int) := by
          rcases Int.lt_or_le (2 * (k : Int)) i with h7 | h7
          · exfalso
            have h8 : 2 ^ Z ≤ 2 ^ (i + 1074).toNat := Nat.pow_le_pow_right (by omega) (by omega)
            have h9 := Nat.mul_le_mul (show 1 ≤ m by omega) h8
            rw [Nat.one_mul] at h9
            exact absurd h1 (Nat.not_lt.2 h9)
          · exact h7
        refine ⟨?_, by omega⟩
        have h8 : 2 ^ Z = 2 ^ (2 * (k : Int) - i).toNat * 2 ^ (i + 1074).toNat := by
          rw [← Nat.pow_add, show (2 * (k : Int) - i).toNat + (i + 1074).toNat = Z by omega]
        rw [h8] at h1
        exact Nat.lt_of_mul_lt_mul_right h1
      have hle : e ≤ (k : Int) := by omega
      have hlt2 : m * 2 ^ c < 2 ^ (2 * ((k : Int) - e).toNat) := by
        rw [show 2 * ((k : Int) - e).toNat = (2 * (k : Int) - i).toNat + c by omega, Nat.pow_add]
        exact Nat.mul_lt_mul_of_pos_right hlt.1 (Nat.pow_pos (by omega))
      have h5 := stk_lt (B := k) g3 hle hlt2
      have h6 := rungs_lt f64 (B := k) (q := e - 1) (by omega) h5
      exact Nat.le_min.2 ⟨Nat.le_trans (Nat.min_le_left _ _) h6, Nat.min_le_right _ _⟩
/-- Twice a float. -/
theorem dbl_units {a r : Nat} (ha : NN a) (fa : isF .f64 a = true) (h : floatBits .mul .f64 4611686018427387904 a = some r) : ∀ b, 2 ^ b ≤ mg a → pw (b + 1) ≤ r := by
  obtain ⟨m, i, e1, hF, _, m1⟩ := nn_form ha fa
  have h1 := mul_fw false false two_fit hF
  rw [← fw_two, ← e1, h] at h1
  have h2 := Option.some.inj h1
  rw [Nat.one_mul] at h2
  have h3 : r = rungOf m (1 + i) := by rw [h2]; exact fw_f _ _
  intro b hb
  rw [h3]
  have hi := hF.2.1
  refine rungOf_mono ⟨-1074, by omega, by omega, ?_⟩
  rw [show ((-1074 : Int) - -1074).toNat = 0 by omega, show (1 + i - -1074).toNat = (i + 1074).toNat + 1 by omega, Nat.pow_succ, Nat.pow_succ, ← Nat.mul_assoc, ← m1]
  omega
/-- A quotient is not greater than what its divisor times is not less than the dividend. -/
theorem quo_units {a b r : Nat} (ha : NN a) (fa : isF .f64 a = true) (hb : NN b) (h0 : b ≠ 0) (h : floatBits .quo .f64 a b = some r) (C : Nat) (k : Int)
    (hC : isF .f64 b = true → ∃ m i n j, f64.read a = .number false m i ∧ f64.read b = .number false n j ∧ n ≠ 0 ∧ i - j - ((f64.fractionBits + 2 + n.log2 - m.log2 : Nat) : Int) ≤ k ∧
      m * 2 ^ (f64.fractionBits + 2 + n.log2 - m.log2) ≤ n * (C * 2 ^ (k - (i - j - ((f64.fractionBits + 2 + n.log2 - m.log2 : Nat) : Int))).toNat)) : r ≤ rungOf C k := by
  have e : floatBits .quo .f64 a b = ((f64.read a).quotient (f64.fractionBits + 2) (f64.read b)).map f64.write := rfl
  rcases nn_read hb with ⟨_, _, _, _, fb⟩ | ⟨g1, _, _⟩
  · obtain ⟨m, i, n, j, h1, h2, hn, hk, hm⟩ := hC fb
    rw [e, h1, h2] at h
    simp only [Datum.quotient, if_neg hn, Option.map_some] at h
    have h3 := Option.some.inj h
    obtain ⟨more, hmo⟩ : ∃ x, x = f64.fractionBits + 2 + n.log2 - m.log2 := ⟨_, rfl⟩
    rw [← hmo] at h3 hk hm
    obtain ⟨w1, _⟩ := nn_write (2 * (m <<< more / n) + (m <<< more % n != 0).toNat) (i - j - (more : Int) - 1)
    rw [← h3, show (false ^^ false) = false from rfl, w1]
    rw [Nat.shiftLeft_eq]
    obtain ⟨D, hD⟩ : ∃ D, D = C * 2 ^ (k - (i - j - (more : Int))).toNat := ⟨_, rfl⟩
    rw [← hD] at hm
    have hnp : 0 < n := Nat.pos_of_ne_zero hn
    have h5 : 2 * (m * 2 ^ more / n) + (m * 2 ^ more % n != 0).toNat ≤ 2 * D := by
      have hdm := Nat.div_add_mod (m * 2 ^ more) n
      have hq : m * 2 ^ more / n ≤ D := Nat.div_le_of_le_mul hm
      by_cases hr : m * 2 ^ more % n = 0
      · simp only [hr, bne_self_eq_false, Bool.toNat_false]
        omega
      · have hql : m * 2 ^ more / n < D := by
          rcases Nat.lt_or_ge (m * 2 ^ more / n) D with h6 | h6
          · exact h6
          · exfalso
            have h7 := Nat.mul_le_mul_left n h6
            omega
        have : (m * 2 ^ more % n != 0).toNat ≤ 1 := by cases (m * 2 ^ more % n != 0) <;> decide
        omega
    refine rungOf_mono ⟨i - j - (more : Int) - 1, by omega, by omega, ?_⟩
    rw [show (i - j - (more : Int) - 1 - (i - j - (more : Int) - 1)).toNat = 0 by omega, Nat.pow_zero, Nat.mul_one]
    rw [show (k - (i - j - (more : Int) - 1)).toNat = (k - (i - j - (more : Int))).toNat + 1 by omega, Nat.pow_succ, ← Nat.mul_assoc, ← hD]
    omega
  · rcases nn_read ha with ⟨m, i, h1, _, _⟩ | ⟨_, h', _⟩
    · rw [e, h1, g1] at h
      simp only [Datum.quotient, Option.map_some] at h
      have h3 := Option.some.inj h
      obtain ⟨w1, _⟩ := nn_write 0 0
      rw [← h3, show (false ^^ false) = false from rfl, w1, rungOf_zero]
      omega
    · rw [fa] at h'; cases h'

open Go Go.RowKit Ieee

theorem num32s (s : Bool) {r : Nat} (h : r < 0x7f800000) : ∃ m i, FloatKind.f32.format.read (f32.word s r) = .number s m i := by
  show ∃ m i, f32.read (f32.word s r) = .number s m i
  have hw : (f32.word s r / 2 ^ 31 % 2 == 1) = s ∧ f32.word s r % 2 ^ 31 = r := by
    unfold Format.word
    rw [f32_sw]
    cases s
    · rw [if_neg (by decide)]
      refine ⟨?_, by omega⟩
      rw [show r / 2 ^ 31 = 0 by omega]; rfl
    · rw [if_pos rfl]
      refine ⟨?_, by omega⟩
      rw [show (2 ^ 31 + r) / 2 ^ 31 = 1 by omega]; rfl
  have h2 : (f32.word s r / 2 ^ 31 % 2 == 1) = s := hw.1
  simp only [Format.read, f32_sw, f32_bin, f32_inf, h2, hw.2]
  split
  · exact ⟨_, _, rfl⟩
  · first | exact ⟨_, _, rfl⟩ | (rw [if_pos h]; exact ⟨_, _, rfl⟩)
theorem narrow_num {v : Nat} {s : Bool} {M : Nat} {j : Int} (hr : f64.read v = .number s M j) (h : rawRung f32 M j < 0x7f800000) : ∃ y, floatToFloatBits .f64 v .f32 = some y ∧ ∃ s' m' j', FloatKind.f32.format.read y = .number s' m' j' := by
  have he : FloatKind.f32.encode (.number s M j) = f32.word s (rawRung f32 M j) := by
    show f32.nearest s M j = _
    rw [nearest_eq, f32_inf, Nat.min_eq_left (by omega)]
  obtain ⟨m', j', hm⟩ := num32s s h
  refine ⟨f32.word s (rawRung f32 M j), ?_, s, m', j', hm⟩
  unfold floatToFloatBits
  rw [if_neg (by decide)]
  have h4 : FloatKind.f64.decode v = _ := hr
  rw [h4]
  simp only
  rw [he]
  have h5 : FloatKind.f32.decode (f32.word s (rawRung f32 M j)) = _ := hm
  rw [h5]
  rfl
/-- A word that is made narrow without a draw, whatever its sign. -/
def Slim (v : Nat) : Prop := ∃ s M j, f64.read v = .number s M j ∧ rawRung f32 M j < 0x7f800000
theorem Slim.neg {v : Nat} (h : Slim v) : Slim (Op.negFloat .f64 v) := by
  obtain ⟨s, M, j, h1, h2⟩ := h
  refine ⟨!s, M, j, ?_, h2⟩
  have := read_neg v
  have h3 : f64.read (Op.negFloat .f64 v) = (f64.read v).opposite := this
  rw [h3, h1]
  rfl
theorem slim_0 : Slim 0 := ⟨false, 0, -1074, by decide +kernel, by decide +kernel⟩
theorem slim_le {v m : Nat} {i : Int} (hv : NN v) (fv : isF .f64 v = true) (hF : Fit m i) (hn : rawRung f32 m i < 0x7f800000) (hle : v ≤ fw false m i) : Slim v := by
  obtain ⟨a, b, he, hG, _, hm⟩ := nn_form hv fv
  obtain ⟨k, hr, _⟩ := read_fw false hG
  have h1 := mg_le hv (nn_fw m i) fv (isF_fw false hF) hle
  rw [hm, mg_fw false hF] at h1
  refine ⟨false, a * 2 ^ k, b - k, by rw [he]; exact hr, ?_⟩
  rw [rawRung_shift]
  refine Nat.lt_of_le_of_lt (rawRung_mono f32 (c := -1074) hG.2.1 hF.2.1 ?_) hn
  rw [show (b - -1074).toNat = (b + 1074).toNat by omega, show (i - -1074).toNat = (i + 1074).toNat by omega]
  exact h1
theorem nn_canon {x : Nat} (hx : NN x) (fx : isF .f64 x = true) : ∃ m i, f64.read x = .number false m i ∧ m < 2 ^ 53 ∧ -1074 ≤ i ∧ mg x = m * 2 ^ (i + 1074).toNat := by
  obtain ⟨m, i, he, hF, _, hm⟩ := nn_form hx fx
  obtain ⟨k, hr, hC⟩ := read_fw false hF
  have c1 := hC.1
  have c2 := hC.2.1
  rw [f64_low] at c1
  rw [f64_bin] at c2
  refine ⟨m * 2 ^ k, i - k, by rw [he]; exact hr, by omega, c1, ?_⟩
  rw [hm, Nat.mul_assoc, ← Nat.pow_add, show k + (i - (k : Int) + 1074).toNat = (i + 1074).toNat by omega]
theorem log_lt {m : Nat} (h : m < 2 ^ 53) (h0 : m ≠ 0) : m.log2 ≤ 52 := by
  have h2 := log_le h0
  have h3 : m.log2 < 53 := (Nat.pow_lt_pow_iff_right (a := 2) (by omega)).1 (by omega)
  omega
/-- How far below a power of 2 a number's last place can be. -/
theorem log_units {n Y : Nat} {j : Int} (h0 : n ≠ 0) (hj : -1074 ≤ j) (h : 2 ^ Y ≤ n * 2 ^ (j + 1074).toNat) : (Y : Int) ≤ (n.log2 : Int) + (j + 1074) := by
  have h1 : n * 2 ^ (j + 1074).toNat < 2 ^ (n.log2 + 1 + (j + 1074).toNat) := by
    rw [Nat.pow_add]
    exact Nat.mul_lt_mul_of_pos_right (lt_two_log n) (Nat.pow_pos (by omega))
  have h2 : Y < n.log2 + 1 + (j + 1074).toNat := (Nat.pow_lt_pow_iff_right (a := 2) (by omega)).1 (Nat.lt_of_le_of_lt h h1)
  omega
/-- A quotient by a number of at least 1. -/
theorem quo_ge1 {a b r Z : Nat} (hZ : Z = 1074) (ha : NN a) (fa : isF .f64 a = true) (hb : NN b) (h0 : b ≠ 0) (h : floatBits .quo .f64 a b = some r) (hu : isF .f64 b = true → 2 ^ Z ≤ mg b) : r ≤ a := by
  obtain ⟨m, i, h1, hm53, hi, hma⟩ := nn_canon ha fa
  have hau : a = rungOf m i := by
    rw [nn_units ha fa, hma]
    have := rungOf_shift m i (i + 1074).toNat
    rw [show i - ((i + 1074).toNat : Int) = -1074 by omega] at this
    exact this
  by_cases hm0 : m = 0
  · have h5 : r ≤ rungOf 0 3000 := quo_units ha fa hb h0 h 0 3000 fun fb => by
      obtain ⟨n, j, h2, hn53, hj, hmb⟩ := nn_canon hb fb
      have hn0 : n ≠ 0 := by
        rintro rfl
        have := hu fb
        rw [hmb, Nat.zero_mul] at this
        have : 0 < 2 ^ Z := Nat.pow_pos (by omega)
        omega
      have hi2 : i ≤ 1000 ∨ True := .inr trivial
      refine ⟨m, i, n, j, h1, h2, hn0, ?_, by rw [hm0]; simp⟩
      have hcan : i ≤ 971 := by
        obtain ⟨m', i', he, hF, _, _⟩ := nn_form ha fa
        obtain ⟨k, hr, hC⟩ := read_fw false hF
        have h7 : f64.read a = .number false (m' * 2 ^ k) (i' - k) := by rw [he]; exact hr
        rw [h1] at h7
        cases h7
        have hc3 := hC.2.2
        rw [f64_low, f64_bin, hm0] at hc3
        rcases hc3 with h8 | h8
        · omega
        · omega
      omega
    rw [rungOf_zero] at h5
    omega
  · rw [hau]
    refine quo_units ha fa hb h0 h m i fun fb => ?_
    obtain ⟨n, j, h2, hn53, hj, hmb⟩ := nn_canon hb fb
    have hub := hu fb
    rw [hmb] at hub
    have hn0 : n ≠ 0 := by
      rintro rfl
      rw [Nat.zero_mul] at hub
      have : 0 < 2 ^ Z := Nat.pow_pos (by omega)
      omega
    have hlg := log_units hn0 hj hub
    have hlm := log_lt hm53 hm0
    obtain ⟨more, hmo⟩ : ∃ x, x = f64.fractionBits + 2 + n.log2 - m.log2 := ⟨_, rfl⟩
    have hmore : n.log2 + 2 ≤ more := by rw [hmo, f64_fb]; omega
    refine ⟨m, i, n, j, h1, h2, hn0, by rw [← hmo]; omega, ?_⟩
    rw [← hmo]
    have e1 : (i - (i - j - (more : Int))).toNat = (j + (more : Int)).toNat := by omega
    rw [e1]
    have hp : 0 < 2 ^ Z := Nat.pow_pos (by omega)
    refine Nat.le_of_mul_le_mul_right ?_ hp
    have e2 : n * (m * 2 ^ (j + (more : Int)).toNat) * 2 ^ Z = m * 2 ^ more * (n * 2 ^ (j + 1074).toNat) := by
      have e3 : 2 ^ (j + (more : Int)).toNat * 2 ^ Z = 2 ^ more * 2 ^ (j + 1074).toNat := by
        rw [← Nat.pow_add, ← Nat.pow_add, show (j + (more : Int)).toNat + Z = more + (j + 1074).toNat by omega]
      rw [Nat.mul_assoc, Nat.mul_assoc, e3, Nat.mul_left_comm, Nat.mul_assoc, Nat.mul_left_comm n]
    rw [e2]
    exact Nat.mul_le_mul_left _ hub
/-- A quotient of a number less than 1 by one that is not too small. -/
theorem quo_lt1 {a b r Z Y : Nat} (hZ : Z = 1074) (hY : Y = 1000) (ha : NN a) (fa : isF .f64 a = true) (hb : NN b) (h0 : b ≠ 0) (h : floatBits .quo .f64 a b = some r) (hu : isF .f64 b = true → 2 ^ Y ≤ mg b) (hlt : mg a < 2 ^ Z) (hpos : mg a ≠ 0) : r ≤ fw false 1 76 := by
  obtain ⟨m, i, h1, hm53, hi, hma⟩ := nn_canon ha fa
  rw [hma] at hlt hpos
  have hm0 : m ≠ 0 := by rintro rfl; rw [Nat.zero_mul] at hpos; exact hpos rfl
  have hineg : i < 0 := by
    rcases Int.lt_or_le i 0 with h5 | h5
    · exact h5
    · exfalso
      have h6 : 2 ^ Z ≤ 2 ^ (i + 1074).toNat := Nat.pow_le_pow_right (by omega) (by omega)
      have h7 := Nat.mul_le_mul (show 1 ≤ m by omega) h6
      rw [Nat.one_mul] at h7
      exact absurd hlt (Nat.not_lt.2 h7)
  rw [fw_f]
  refine quo_units ha fa hb h0 h 1 76 fun fb => ?_
  obtain ⟨n, j, h2, hn53, hj, hmb⟩ := nn_canon hb fb
  have hub := hu fb
  rw [hmb] at hub
  have hn0 : n ≠ 0 := by
    rintro rfl
    rw [Nat.zero_mul] at hub
    have : 0 < 2 ^ Y := Nat.pow_pos (by omega)
    omega
  have hlg := log_units hn0 hj hub
  have hlm := log_lt hm53 hm0
  obtain ⟨more, hmo⟩ : ∃ x, x = f64.fractionBits + 2 + n.log2 - m.log2 := ⟨_, rfl⟩
  have hmore : n.log2 + 2 ≤ more := by rw [hmo, f64_fb]; omega
  refine ⟨m, i, n, j, h1, h2, hn0, by rw [← hmo]; omega, ?_⟩
  rw [← hmo, Nat.one_mul]
  obtain ⟨E, hE⟩ : ∃ E : Nat, E = (76 - (i - j - (more : Int))).toNat := ⟨_, rfl⟩
  rw [← hE]
  have hp : 0 < 2 ^ (i + 1074).toNat := Nat.pow_pos (by omega)
  refine Nat.le_of_mul_le_mul_right ?_ hp
  have e1 : m * 2 ^ more * 2 ^ (i + 1074).toNat = m * 2 ^ (i + 1074).toNat * 2 ^ more := Nat.mul_right_comm _ _ _
  have e2 : n * 2 ^ E * 2 ^ (i + 1074).toNat = n * 2 ^ (j + 1074).toNat * 2 ^ (76 + more) := by
    rw [Nat.mul_assoc, Nat.mul_assoc, ← Nat.pow_add, ← Nat.pow_add, show E + (i + 1074).toNat = (j + 1074).toNat + (76 + more) by omega]
  rw [e1, e2]
  refine Nat.le_trans (Nat.mul_le_mul_right _ (Nat.le_of_lt hlt)) ?_
  refine Nat.le_trans ?_ (Nat.mul_le_mul_right _ hub)
  rw [← Nat.pow_add, ← Nat.pow_add]
  exact Nat.pow_le_pow_right (by omega) (by omega)

open Go Go.RowKit Ieee

theorem s66 : rawRung f32 1 66 < 0x7f800000 := by decide +kernel
theorem s76 : rawRung f32 1 76 < 0x7f800000 := by decide +kernel
theorem fit66 : Fit 1 66 := Fit.of (by omega) (by omega) (by omega)
theorem fit76 : Fit 1 76 := Fit.of (by omega) (by omega) (by omega)
theorem mono_pw {m b : Nat} (h : m ≤ 2 ^ b) : rungOf m (-1074) ≤ pw b := rungOf_mono ⟨-1074, by omega, by omega, by rw [show ((-1074 : Int) - -1074).toNat = 0 by omega, Nat.pow_zero, Nat.mul_one, Nat.mul_one]; exact h⟩
theorem pw_mono {m b : Nat} (h : 2 ^ b ≤ m) : pw b ≤ rungOf m (-1074) := rungOf_mono ⟨-1074, by omega, by omega, by rw [show ((-1074 : Int) - -1074).toNat = 0 by omega, Nat.pow_zero, Nat.mul_one, Nat.mul_one]; exact h⟩
/-- A float32's value in units of 2^-1074. -/
theorem mg_narrow {m : Nat} {i : Int} (s : Bool) (h1 : m < 2 ^ 24) (h2 : -149 ≤ i) (h3 : i ≤ 104) (G L : Nat) (hG : G = 1202) (hL : L = 925) : mg (fw s m i) < 2 ^ G ∧ (mg (fw s m i) = 0 ∨ 2 ^ L ≤ mg (fw s m i)) := by
  have hF : Fit m i := Fit.of (by omega) (by omega) (by omega)
  rw [mg_fw s hF]
  constructor
  · have h4 : m * 2 ^ (i + 1074).toNat < 2 ^ 24 * 2 ^ (i + 1074).toNat := Nat.mul_lt_mul_of_pos_right h1 (Nat.pow_pos (by omega))
    rw [← Nat.pow_add] at h4
    exact Nat.lt_of_lt_of_le h4 (Nat.pow_le_pow_right (by omega) (by omega))
  · rcases Nat.eq_zero_or_pos m with h0 | h0
    · left; rw [h0, Nat.zero_mul]
    · right
      have h4 : 2 ^ L ≤ 2 ^ (i + 1074).toNat := Nat.pow_le_pow_right (by omega) (by omega)
      have h5 := Nat.mul_le_mul (show 1 ≤ m by omega) h4
      rw [Nat.one_mul] at h5
      exact h5
theorem mg_abs {x : Nat} (hx : x < 2 ^ 64) (h : isF .f64 x = true) : mg (x % 2 ^ 63) = mg x := by
  obtain ⟨s, m, i, he, hF, _⟩ := fin_fw hx h
  rw [he, abs_fw, mg_fw false hF, mg_fw s hF]
theorem slim_parts {x y A B S h t u : Nat} (hx : x < 2 ^ 64) (hy : y < 2 ^ 64) (fx : isF .f64 x = true) (fy : isF .f64 y = true) (c : Chain x y A B (moN x y) S h t u) (hM : isF .f64 (moN x y) = true) (hS : isF .f64 S = true) (ht : t ≠ 0) (hq : isF .f64 (stQ x y) = true)
    (G L : Nat) (hG : G = 1202) (hL : L = 925) (gx : mg x < 2 ^ G) (gy : mg y < 2 ^ G ∧ (mg y = 0 ∨ 2 ^ L ≤ mg y)) (m : Nat) (i : Int) (hB : B = fw false m i) (hF : Fit m i) (hs : rawRung f32 m i < 0x7f800000) : Slim t ∧ Slim (stQ x y) := by
  obtain ⟨fh, ft⟩ := c.fin hS
  have nM : NN (moN x y) := nn_fw _ _
  have mA : mg A = mg x := by rw [← c.hA]; exact mg_abs hx fx
  have mB : mg B = mg y := by rw [← c.hB]; exact mg_abs hy fy
  have eM : moN x y = rungOf (stk ((mg x * mg x + mg y * mg y) * 2 ^ 108) (rootN ((mg x * mg x + mg y * mg y) * 2 ^ 108))) (-1129) := fw_f _ _
  obtain ⟨H, hH⟩ : ∃ H, H = G + 1 := ⟨_, rfl⟩
  have hGp : 2 ^ H = 2 ^ G + 2 ^ G := by rw [hH, Nat.pow_succ]; omega
  -- the modulus is at most twice the greatest number
  have hM1 : moN x y ≤ pw H := by
    have h1 : mg x * mg x + mg y * mg y ≤ (mg x + mg y) * (mg x + mg y) := by
      rw [Nat.add_mul, Nat.mul_add, Nat.mul_add]; omega
    have h2 := rtI_le2 h1
    have h3 : rungOf (mg x + mg y) (-1074) ≤ pw H := mono_pw (by rw [hGp]; omega)
    refine Nat.le_trans ?_ h3
    rw [eM]
    exact Nat.le_min.2 ⟨Nat.le_trans (Nat.min_le_left _ _) h2, Nat.min_le_right _ _⟩
  have hM2 : mg (moN x y) ≤ 2 ^ H := of_pw_le nM hM (by omega) hM1
  have hM3 : mg y ≤ mg (moN x y) := by
    rw [← mB]
    refine mg_le c.nB nM c.fB hM ?_
    rw [nn_units c.nB c.fB, mB, eM]
    have h1 := rtI_ge (N := mg x * mg x + mg y * mg y) (A := mg y) (by omega)
    exact Nat.le_min.2 ⟨Nat.le_trans (Nat.min_le_left _ _) h1, Nat.min_le_right _ _⟩
  have eS := add_units c.nA nM c.fA hM c.add
  rw [mA] at eS
  have hS1 : mg S ≤ 2 ^ (H + 1) := by
    refine of_pw_le c.nS hS (by omega) ?_
    rw [eS]
    refine mono_pw ?_
    rw [Nat.pow_succ]; omega
  have hS2 : ∀ b, b ≤ 2045 → 2 ^ b ≤ mg y → 2 ^ b ≤ mg S := fun b hb hm => by
    refine of_pw c.nS hS hb ?_
    rw [eS]
    exact pw_mono (by omega)
  obtain ⟨k1, k2⟩ := half_units c.nS hS c.half
  have hh1 : mg h ≤ 2 ^ H := of_pw_le c.nh fh (by omega) (k2 H hS1)
  have htq : t = sq h := by
    have := c.sqr
    rw [(sq_nn c.nh).1] at this
    exact (Option.some.inj this).symm
  obtain ⟨q1, q2⟩ := sq_units c.nh fh
  have st : Slim t := by
    refine slim_le c.nt ft fit66 s66 ?_
    rw [htq]
    obtain ⟨Z, hZ⟩ : ∃ Z, Z = 1074 + 2 * 66 := ⟨_, rfl⟩
    refine q2 66 Z (by first | exact hZ | exact hZ.symm) (Nat.lt_of_le_of_lt hh1 (Nat.pow_lt_pow_right (by omega) (by omega)))
  refine ⟨st, ?_⟩
  obtain ⟨q, e1, nq, e3⟩ := c.q0 ht
  rw [e3] at hq ⊢
  have hu0 : u ≠ 0 := by
    obtain ⟨r, d1, _, _, d4⟩ := dbl_nn c.nt
    rw [c.dbl] at d1
    rw [Option.some.inj d1]
    exact d4 ht
  -- the divisor is not too small
  have hu : ∀ b k : Nat, 1 ≤ b → b ≤ 2045 → 2 * k ≤ b - 1 + 1074 → k ≤ 2000 → 2 ^ b ≤ mg y → isF .f64 u = true → 2 ^ (k + 1) ≤ mg u := fun b k hb1 hb2 hk hk2 hm fu => by
    have g1 := hS2 b hb2 hm
    have g2 := of_pw c.nh fh (by omega) (k1 b hb1 g1)
    have g3 := q1 k (b - 1) g2 hk
    rw [← htq] at g3
    have g4 := of_pw c.nt ft (by omega) g3
    exact of_pw c.nu fu (by omega) (dbl_units c.nt ft c.dbl k g4)
  obtain ⟨Z, hZ⟩ : ∃ Z : Nat, Z = 1074 := ⟨_, rfl⟩
  rcases Nat.lt_or_ge (mg y) (2 ^ Z) with hlt | hge
  · rcases gy.2 with h0 | h0
    · -- the quotient is 0
      have hB0 : B = 0 := by
        rw [nn_units c.nB c.fB, mB, h0, rungOf_zero]
      have hq0 : floatBits .quo .f64 B u = some q := e1
      have hle : q ≤ fw false 1 76 := by
        have e : floatBits .quo .f64 B u = ((f64.read B).quotient (f64.fractionBits + 2) (f64.read u)).map f64.write := rfl
        have hr0 : f64.read B = .number false 0 (-1074) := by rw [hB0]; decide +kernel
        rw [e, hr0] at hq0
        have hz : q = 0 := by
          rcases nn_read c.nu with ⟨n, j, g1, g2, _⟩ | ⟨g1, _, _⟩
          · have hn : n ≠ 0 := fun h => hu0 (g2.2 h)
            rw [g1] at hq0
            simp only [Datum.quotient, if_neg hn, Option.map_some, Nat.zero_shiftLeft, Nat.zero_div, Nat.zero_mod] at hq0
            have h3 := Option.some.inj hq0
            rw [← h3]
            show f64.nearest false (2 * 0 + 0) _ = 0
            rw [nearest_rung, rungOf_zero]
            rfl
          · rw [g1] at hq0
            simp only [Datum.quotient, Option.map_some] at hq0
            have h3 := Option.some.inj hq0
            rw [← h3]
            show f64.nearest false 0 0 = 0
            rw [nearest_rung, rungOf_zero]
            rfl
        rw [hz]
        omega
      exact slim_le nq hq fit76 s76 hle
    · obtain ⟨Y, hY⟩ : ∃ Y : Nat, Y = 1000 := ⟨_, rfl⟩
      have hY' : Y = 999 + 1 := by omega
      refine slim_le nq hq fit76 s76 (quo_lt1 hZ hY c.nB c.fB c.nu hu0 e1 (fun fu => ?_) (by rw [mB]; exact hlt) (by
        rw [mB]
        have : 0 < 2 ^ L := Nat.pow_pos (by omega)
        omega))
      have := hu L 999 (by omega) (by omega) (by omega) (by omega) h0 fu
      rw [hY']
      exact this
  · refine slim_le nq hq hF hs ?_
    rw [← hB]
    refine quo_ge1 hZ c.nB c.fB c.nu hu0 e1 (fun fu => ?_)
    have hZ' : Z = 1073 + 1 := by omega
    have := hu Z 1073 (by omega) (by omega) (by omega) (by omega) hge fu
    rw [hZ']
    exact this
/-- The parts of the root of a narrow number. -/
theorem slim_root {s s' : Bool} {m n : Nat} {i j : Int} {a b : Nat} (h1 : m < 2 ^ 24) (h2 : -149 ≤ i) (h3 : i ≤ 104) (g1 : n < 2 ^ 24) (g2 : -149 ≤ j) (g3 : j ≤ 104) (hn : rawRung f32 n j < 0x7f800000) (hr : rcR (fw s m i) (fw s' n j) = (a, b, 0)) : Slim a ∧ Slim b := by
  have hF : Fit m i := Fit.of (by omega) (by omega) (by omega)
  have hG : Fit n j := Fit.of (by omega) (by omega) (by omega)
  have fx := isF_fw s hF
  have fy := isF_fw s' hG
  have hf : finC (fw s m i) (fw s' n j) = true := by unfold finC; rw [fx, fy]; rfl
  have hx := fw_lt s m i
  have hy := fw_lt s' n j
  obtain ⟨G, hG'⟩ : ∃ G, G = 1202 := ⟨_, rfl⟩
  obtain ⟨L, hL⟩ : ∃ L, L = 925 := ⟨_, rfl⟩
  have gx := (mg_narrow s h1 h2 h3 G L hG' hL).1
  have gy := mg_narrow s' g1 g2 g3 G L hG' hL
  have eB := abs_fw s' n j
  generalize fw s m i = x at *
  generalize fw s' n j = y at *
  unfold rcR at hr
  rw [if_pos hf] at hr
  by_cases hz : (eqz x && eqz y) = true
  · rw [if_pos hz] at hr
    cases hr
    exact ⟨slim_0, slim_0⟩
  · rw [if_neg hz] at hr
    by_cases ho : rcOk x y = true
    · rw [if_pos ho] at hr
      unfold rcOk at ho
      simp only [Bool.and_eq_true, Bool.not_eq_true', decide_eq_false_iff_not] at ho
      obtain ⟨⟨⟨o1, o2⟩, o3⟩, o4⟩ := ho
      obtain ⟨A, B, S, h, t, u, c⟩ := chain hx hy fx fy o1
      rw [c.eS] at o2
      rw [c.eT] at o3
      obtain ⟨st, sq'⟩ := slim_parts hx hy fx fy c o1 o2 o3 o4 G L hG' hL gx gy n j (by rw [← c.hB]; exact eB) hG hn
      cases hr
      unfold rcRe rcIm rcIn
      rw [c.eT]
      refine ⟨?_, ?_⟩
      · split
        · exact sq'
        · exact st
      · split
        · split
          · exact st.neg
          · exact sq'.neg
        · split
          · exact st
          · exact sq'
    · rw [if_neg ho] at hr
      cases hr

open Go Go.RowKit Ieee

theorem Slim.conv {v : Nat} (h : Slim v) : floatToFloatBits .f64 v .f32 = some (nr v) ∧ ∃ t m j, FloatKind.f32.format.read (nr v) = .number t m j := by
  obtain ⟨s, M, j, h1, h2⟩ := h
  obtain ⟨y, hy, hn⟩ := narrow_num h1 h2
  exact nr_eq hy hn
/-- Whether a float32 is a number. -/
def isN32 (x : Nat) : Bool := match FloatKind.f32.format.read x with
  | .number .. => true
  | _ => false
theorem isN32_yes {x : Nat} (h : isN32 x = true) : ∃ s m i, FloatKind.f32.format.read x = .number s m i ∧ m < 2 ^ 24 ∧ -149 ≤ i ∧ i ≤ 104 ∧ rawRung f32 m i < 0x7f800000 := by
  unfold isN32 at h
  cases e : FloatKind.f32.format.read x with
  | number s m i =>
    obtain ⟨h1, h2, h3⟩ := read_fin_f32 e
    obtain ⟨g1, g2, _⟩ := read_canonN e
    exact ⟨s, m, i, rfl, h1, h2, h3, by rw [← g1]; exact g2⟩
  | infinity s => rw [e] at h; cases h
  | nan s f => rw [e] at h; cases h
theorem isN32_no {x : Nat} (h : isN32 x = false) : ∀ s m i, FloatKind.f32.format.read x ≠ .number s m i := fun s m i e => by
  unfold isN32 at h
  rw [e] at h
  cases h
/-- A float32 that is a number, made wide. -/
def wd (x : Nat) : Nat := match FloatKind.f32.format.read x with
  | .number s m i => fw s m i
  | _ => 0
theorem wd_num {x : Nat} {s : Bool} {m : Nat} {i : Int} (h : FloatKind.f32.format.read x = .number s m i) : wd x = fw s m i := by unfold wd; rw [h]
/-- The root of a narrow complex number, and the code. -/
def rnR (x y : Nat) : Nat × Nat × Int := if (isN32 x && isN32 y) = true then (if (rcR (wd x) (wd y)).2.2 = 0 then (nr (rcR (wd x) (wd y)).1, nr (rcR (wd x) (wd y)).2.1, 0) else (0, 0, (rcR (wd x) (wd y)).2.2)) else (0, 0, 1)
theorem rnR_yes {x y a b : Nat} (h : (isN32 x && isN32 y) = true) (hr : rcR (wd x) (wd y) = (a, b, 0)) : rnR x y = (nr a, nr b, 0) ∧ Slim a ∧ Slim b := by
  obtain ⟨h1, h2⟩ := both_yes h
  obtain ⟨s, m, i, e1, a1, a2, a3, _⟩ := isN32_yes h1
  obtain ⟨t, n, j, e2, b1, b2, b3, b4⟩ := isN32_yes h2
  refine ⟨by unfold rnR; rw [if_pos h, hr, if_pos rfl], ?_⟩
  rw [wd_num e1, wd_num e2] at hr
  exact slim_root a1 a2 a3 b1 b2 b3 b4 hr
theorem rnR_code {x y : Nat} {c : Int} (h : (isN32 x && isN32 y) = true) (hr : (rcR (wd x) (wd y)).2.2 = c) (h0 : c ≠ 0) : rnR x y = (0, 0, c) := by
  unfold rnR
  rw [if_pos h, hr, if_neg h0]
theorem rnR_no {x y : Nat} (h : (isN32 x && isN32 y) = false) : rnR x y = (0, 0, 1) := by unfold rnR; rw [if_neg (by rw [h]; decide)]
theorem rcR_code (x y : Nat) : (rcR x y).2.2 = 0 ∨ ((rcR x y).1 = 0 ∧ (rcR x y).2.1 = 0 ∧ (rcR x y).2.2 ≠ 0) := by
  unfold rcR
  split
  · split
    · exact .inl rfl
    · split
      · exact .inl rfl
      · exact .inr ⟨rfl, rfl, by decide⟩
  · exact .inr ⟨rfl, rfl, by decide⟩
theorem rcR_nofin {x y : Nat} (h : finC x y = false) : rcR x y = (0, 0, 1) := by unfold rcR; rw [if_neg (by rw [h]; decide)]
/-- Both parts made wide: as they are, or not both finite. -/
theorem conv_parts (x y : Nat) (W : World) : ∃ X Y n k, (convert 29 24 (.float .f32 x)).run Tryz.prog W = .ok (.float .f64 X) (W.drewN n) ∧ (convert 29 24 (.float .f32 y)).run Tryz.prog (W.drewN n) = .ok (.float .f64 Y) ((W.drewN n).drewN k) ∧ X < 2 ^ 64 ∧ Y < 2 ^ 64 ∧
    ((isN32 x && isN32 y) = true → X = wd x ∧ Y = wd y) ∧ ((isN32 x && isN32 y) = false → finC X Y = false) := by
  have ht : (Tryz.prog.underlying 29).isSome = true := by rw [Tryz.underlying29]; rfl
  obtain ⟨X, n, h1, h2, h3⟩ := conv_wide 29 ht x W
  obtain ⟨Y, k, g1, g2, g3⟩ := conv_wide 29 ht y (W.drewN n)
  refine ⟨X, Y, n, k, h1, g1, h2, g2, fun h => ?_, fun h => ?_⟩
  · obtain ⟨a, b⟩ := both_yes h
    obtain ⟨s, m, i, e1, _⟩ := isN32_yes a
    obtain ⟨t, n, j, e2, _⟩ := isN32_yes b
    rcases h3 with ⟨s', m', i', f1, _, _, _, f2, _⟩ | ⟨f, _⟩
    · rcases g3 with ⟨t', n', j', k1, _, _, _, k2, _⟩ | ⟨f, _⟩
      · exact ⟨by rw [wd_num f1]; exact f2, by rw [wd_num k1]; exact k2⟩
      · exact absurd e2 (f t n j)
    · exact absurd e1 (f s m i)
  · unfold finC
    rcases h3 with ⟨s', m', i', f1, _⟩ | ⟨_, f⟩
    · rcases g3 with ⟨t', n', j', k1, _⟩ | ⟨_, f⟩
      · exfalso
        unfold isN32 at h
        rw [f1, k1] at h
        cases h
      · rw [f]; simp
    · rw [f]; rfl
theorem Slim.wide {v : Nat} (h : Slim v) : ∃ s m i, FloatKind.f32.format.read (nr v) = .number s m i ∧ isF .f64 (fw s m i) = true := by
  obtain ⟨s, m, i, e⟩ := h.conv.2
  obtain ⟨h1, h2, h3⟩ := read_fin_f32 e
  exact ⟨s, m, i, e, isF_fw s (Fit.of (by omega) (by omega) (by omega))⟩
/-- A complex number of two narrow numbers, made wide. -/
theorem conv_cc (t : TypeId) (ht : (Tryz.prog.underlying t).isSome = true) {x y : Nat} {s t' : Bool} {m n : Nat} {i j : Int} (h : FloatKind.f32.format.read x = .number s m i) (g : FloatKind.f32.format.read y = .number t' n j) (W : World) : (convert t 37 (.complex .f32 x y)).run Tryz.prog W = .ok (.complex .f64 (fw s m i) (fw t' n j)) W := by
  have e1 : ∀ {x : Nat} {s : Bool} {m : Nat} {i : Int}, FloatKind.f32.format.read x = .number s m i → floatToFloatBits .f32 x .f64 = some (fw s m i) := fun {x s m i} h => by
    obtain ⟨h1, h2, h3⟩ := read_fin_f32 h
    have hF : Fit m i := Fit.of (by omega) (by omega) (by omega)
    have he : FloatKind.f64.encode (.number s m i) = fw s m i := by
      show f64.nearest s m i = _
      rw [nearest_rung]; rfl
    have hni : (FloatKind.f64.decode (fw s m i)).isInfinity = false := by
      obtain ⟨k, hr, _⟩ := read_fw s hF
      have h2 : FloatKind.f64.decode (fw s m i) = _ := hr
      rw [h2]; rfl
    unfold floatToFloatBits
    rw [if_neg (by decide)]
    have h2 : FloatKind.f32.decode x = _ := h
    rw [h2]
    simp only
    rw [he, hni]
    rfl
  refine run_convert_complex W _ _ _ _ _ _ _ _ ht Tryz.underlying37 ?_
  unfold cConvBits
  rw [e1 h, e1 g]
  first | rfl | simp
theorem conv_cn (t : TypeId) (ht : (Tryz.prog.underlying t).isSome = true) {x y X Y : Nat} (h : floatToFloatBits .f64 x .f32 = some X) (g : floatToFloatBits .f64 y .f32 = some Y) (W : World) : (convert t 43 (.complex .f64 x y)).run Tryz.prog W = .ok (.complex .f32 X Y) W := by
  refine run_convert_complex W _ _ _ _ _ _ _ _ ht Tryz.underlying43 ?_
  unfold cConvBits
  rw [h, g]
  first | rfl | simp
/-- A complex number of two floats that are not both narrow numbers, made wide, is not finite. -/
theorem ff_any (x : Nat) (W : World) : ∃ X n, (Conv.floatToFloat .f32 x .f64).run Tryz.prog W = .ok (.float .f64 X) (W.drewN n) ∧ X < 2 ^ 64 ∧ (isN32 x = false → isF .f64 X = false) ∧ (isN32 x = true → X = wd x) := by
  cases e : FloatKind.f32.format.read x with
  | number s m i =>
    obtain ⟨h1, h2, h3⟩ := read_fin_f32 e
    have hF : Fit m i := Fit.of (by omega) (by omega) (by omega)
    have he : FloatKind.f64.encode (.number s m i) = fw s m i := by
      show f64.nearest s m i = _
      rw [nearest_rung]; rfl
    have hni : (FloatKind.f64.decode (fw s m i)).isInfinity = false := by
      obtain ⟨k, hr, _⟩ := read_fw s hF
      have h2 : FloatKind.f64.decode (fw s m i) = _ := hr
      rw [h2]; rfl
    refine ⟨fw s m i, 0, ?_, fw_lt _ _ _, fun h => ?_, fun _ => (wd_num e).symm⟩
    · refine run_floatToFloat W ?_
      unfold floatToFloatBits
      rw [if_neg (by decide)]
      have h2 : FloatKind.f32.decode x = _ := e
      rw [h2]
      simp only
      rw [he, hni]
      rfl
    · unfold isN32 at h
      rw [e] at h
      cases h
  | infinity s =>
    have he : FloatKind.f64.encode (.infinity s) = f64.word s 0x7ff0000000000000 := by
      show f64.word s f64.infRung = _
      rw [f64_inf]
    refine ⟨f64.word s 0x7ff0000000000000, 0, ?_, by cases s <;> decide +kernel, fun _ => ?_, fun h => ?_⟩
    · refine run_floatToFloat W ?_
      unfold floatToFloatBits
      rw [if_neg (by decide)]
      have h2 : FloatKind.f32.decode x = _ := e
      rw [h2]
      simp only
      rw [he]
    · unfold isF
      have h2 : FloatKind.f64.format.read (f64.word s 0x7ff0000000000000) = _ := read_inf s
      rw [h2]
    · unfold isN32 at h
      rw [e] at h
      cases h
  | nan s f =>
    have h2 : FloatKind.f32.decode x = .nan s f := e
    refine ⟨(Question.nanConv .f64 x).cut (W.tape W.drawn (.nanConv .f64 x)), 1, ?_, nan_cut_wf x x _, fun _ => isN_not_isF (nan_cut_f64 x x _), fun h => ?_⟩
    · simp [Conv.floatToFloat, h2, Question.forced, World.drew_is_drewN]
    · unfold isN32 at h
      rw [e] at h
      cases h
theorem conv_ccx (x y : Nat) (W : World) : ∃ X Y n, (convert 43 37 (.complex .f32 x y)).run Tryz.prog W = .ok (.complex .f64 X Y) (W.drewN n) ∧ X < 2 ^ 64 ∧ Y < 2 ^ 64 ∧ ((isN32 x && isN32 y) = true → X = wd x ∧ Y = wd y) ∧ ((isN32 x && isN32 y) = false → finC X Y = false) := by
  obtain ⟨X, n, h1, h2, h3, h4⟩ := ff_any x W
  obtain ⟨Y, k, g1, g2, g3, g4⟩ := ff_any y (W.drewN n)
  refine ⟨X, Y, n + k, ?_, h2, g2, fun h => ?_, fun h => ?_⟩
  · simp only [World.drewN_drewN] at g1
    simp [convert, run_underlying Tryz.underlying43, run_underlying Tryz.underlying37, Conv.complexToComplex, h1, g1]
  · obtain ⟨a, b⟩ := both_yes h
    exact ⟨h4 a, g4 b⟩
  · unfold finC
    cases hx : isN32 x
    · rw [h3 hx]; rfl
    · rw [hx] at h
      rw [g3 (by simpa using h)]; simp

open Go Go.RowKit Ieee

set_option maxHeartbeats 800000 in
theorem iFinN_num {x y : Nat} {s t : Bool} {m n : Nat} {i j : Int} (h : FloatKind.f32.format.read x = .number s m i) (g : FloatKind.f32.format.read y = .number t n j) (w : World) : Calls Tryz.prog 77 #[.complex .f32 x y] w fun e w' => e = .returned (.bool true) ∧ w = w' := by
  have hc := conv_cc 43 (by rw [Tryz.underlying43]; rfl) h g
  obtain ⟨h1, h2, h3⟩ := read_fin_f32 h
  obtain ⟨g1, g2, g3⟩ := read_fin_f32 g
  have HF := Lib.hid (show ∀ W, Calls Tryz.prog 43 #[.complex .f64 (fw s m i) (fw t n j)] W fun e w' => e = .returned (.bool true) ∧ W = w' from fun W => by
    have := iFinite_any (fw s m i) (fw t n j) W
    rw [isF_fw s (Fit.of (by omega) (by omega) (by omega)), isF_fw t (Fit.of (by omega) (by omega) (by omega))] at this
    exact this)
  obtain ⟨X, hX⟩ : ∃ X, fw s m i = X := ⟨_, rfl⟩
  obtain ⟨Y, hY⟩ : ∃ Y, fw t n j = Y := ⟨_, rfl⟩
  rw [hX, hY] at HF
  rw [hX, hY] at hc
  clear h g hX hY h1 h2 h3 g1 g2 g3
  go_enter Tryz.func77, Tryz.ntmps77
  go_wp2_with fail
  refine (HF.out _).mono ?_
  rintro e w1 ⟨rfl, rfl⟩
  go_wp2_with fail
  go_ret
  exact ⟨rfl, rfl⟩
set_option maxHeartbeats 800000 in
theorem iLimN_num {x y : Nat} {s t : Bool} {m n : Nat} {i j : Int} (h : FloatKind.f32.format.read x = .number s m i) (g : FloatKind.f32.format.read y = .number t n j) (w : World) : Calls Tryz.prog 49 #[.complex .f32 x y] w fun e w' => e = .returned (.tuple #[.complex .f32 x y, .int .i64 0]) ∧ w = w' := by
  have HF := Lib.hid (iFinN_num h g)
  clear h g
  go_enter Tryz.func49, Tryz.ntmps49
  go_wp2_with fail
  refine (HF.out _).mono ?_
  rintro e w1 ⟨rfl, rfl⟩
  go_wp2_with fail
  go_ret2
  exact ⟨rfl, rfl⟩

set_option maxHeartbeats 2000000 in
theorem iRootOfComplexNarrow (x y : Nat) (w : World) (hTab : Tab w) : Calls Tryz.prog 24 #[.complex .f32 x y] w fun e w' => e = .returned (.tuple #[.complex .f32 (rnR x y).1 (rnR x y).2.1, .int .i64 (rnR x y).2.2]) ∧ Below w.heap.size w w' := by
  have hT : Below w.heap.size w w := Below.refl _ _
  obtain ⟨X, Y, n, k, h1, h2, h3, h4, h5, h6⟩ := conv_parts x y w
  have hb := below_drewN hT (n + k)
  have HR := Lib.hid (iRootOfComplex X Y h3 h4 (w.drewN (n + k)) (hTab.below hb))
  have hTb := Lib.hid hb
  cases hn : (isN32 x && isN32 y)
  · rw [rcR_nofin (h6 hn)] at HR
    rw [rnR_no hn]
    clear h3 h4 h5 h6 hn hTab hb
    go_enter Tryz.func24, Tryz.ntmps24
    go_wp2_with fail
    refine HR.out.mono ?_
    rintro e w1 ⟨rfl, hb⟩
    have hb2 := hTb.out.trans (hb.mono hTb.out.size)
    clear hb
    go_wp2_with fail
    go_ret2
    exact ⟨rfl, hb2⟩
  · obtain ⟨eX, eY⟩ := h5 hn
    rcases rcR_code X Y with hc | ⟨c1, c2, c3⟩
    · obtain ⟨⟨a, b, c⟩, hr⟩ : ∃ r, rcR X Y = r := ⟨_, rfl⟩
      rw [hr] at hc HR
      simp only at hc
      subst hc
      have hr2 := hr
      rw [eX, eY] at hr2
      obtain ⟨g1, g2, g3⟩ := rnR_yes hn hr2
      rw [g1]
      have ca := fun W => run_convert_float_float W 24 29 .f64 .f32 a (nr a) (by rw [Tryz.underlying24]; rfl) Tryz.underlying29 g2.conv.1
      have cb := fun W => run_convert_float_float W 24 29 .f64 .f32 b (nr b) (by rw [Tryz.underlying24]; rfl) Tryz.underlying29 g3.conv.1
      obtain ⟨s, m, i, e1⟩ := g2.conv.2
      obtain ⟨t, q, j, e2⟩ := g3.conv.2
      have HL := Lib.hid (iLimN_num e1 e2)
      obtain ⟨na, hna⟩ : ∃ v, nr a = v := ⟨_, rfl⟩
      obtain ⟨nb, hnb⟩ : ∃ v, nr b = v := ⟨_, rfl⟩
      rw [hna, hnb] at HL ⊢
      rw [hna] at ca
      rw [hnb] at cb
      clear h3 h4 h5 h6 hn hTab hb hr hr2 g1 g2 g3 e1 e2 hna hnb eX eY
      go_enter Tryz.func24, Tryz.ntmps24
      go_wp2_with fail
      refine HR.out.mono ?_
      rintro e w1 ⟨rfl, hb⟩
      have hb2 := hTb.out.trans (hb.mono hTb.out.size)
      clear hb
      go_wp2_with fail
      refine (HL.out _).mono ?_
      rintro e w2 ⟨rfl, rfl⟩
      go_wp2_with fail
      go_ret2
      exact ⟨rfl, hb2⟩
    · obtain ⟨⟨a, b, c⟩, hr⟩ : ∃ r, rcR X Y = r := ⟨_, rfl⟩
      rw [hr] at c1 c2 c3 HR
      simp only at c1 c2 c3
      subst c1
      subst c2
      have hr2 : (rcR (wd x) (wd y)).2.2 = c := by rw [← eX, ← eY, hr]
      rw [rnR_code hn hr2 c3]
      have hcc : (c != 0) = true := by simpa using c3
      clear h3 h4 h5 h6 hn hTab hb hr hr2 eX eY c3
      go_enter Tryz.func24, Tryz.ntmps24
      go_wp2_with fail
      refine HR.out.mono ?_
      rintro e w1 ⟨rfl, hb⟩
      have hb2 := hTb.out.trans (hb.mono hTb.out.size)
      clear hb
      go_wp2_with fail
      go_ret2
      exact ⟨rfl, hb2⟩

set_option maxHeartbeats 2000000 in
theorem sRootOfComplexNarrow (x y : Nat) (w : World) : Calls Tryz.prog 25 #[.complex .f32 x y] w fun e w' => e = .returned (.tuple #[.complex .f32 (rnR x y).1 (rnR x y).2.1, .int .i64 (rnR x y).2.2]) ∧ Below w.heap.size w w' := by
  have hT : Below w.heap.size w w := Below.refl _ _
  obtain ⟨X, Y, n, h1, h3, h4, h5, h6⟩ := conv_ccx x y w
  have hTb := Lib.hid (below_drewN hT n)
  have HR := Lib.hid (sRootOfComplex X Y h3 h4 (w.drewN n))
  cases hn : (isN32 x && isN32 y)
  · rw [rcR_nofin (h6 hn)] at HR
    rw [rnR_no hn]
    clear h3 h4 h5 h6 hn
    go_enter Tryz.func25, Tryz.ntmps25
    go_wp2_with fail
    refine HR.out.mono ?_
    rintro e w1 ⟨rfl, hb⟩
    have hb2 := hTb.out.trans (hb.mono hTb.out.size)
    clear hb
    go_wp2_with fail
    go_ret2
    exact ⟨rfl, hb2⟩
  · obtain ⟨eX, eY⟩ := h5 hn
    rcases rcR_code X Y with hc | ⟨c1, c2, c3⟩
    · obtain ⟨⟨a, b, c⟩, hr⟩ : ∃ r, rcR X Y = r := ⟨_, rfl⟩
      rw [hr] at hc HR
      simp only at hc
      subst hc
      have hr2 := hr
      rw [eX, eY] at hr2
      obtain ⟨g1, g2, g3⟩ := rnR_yes hn hr2
      rw [g1]
      have ca := conv_cn 37 (by rw [Tryz.underlying37]; rfl) g2.conv.1 g3.conv.1
      clear h3 h4 h5 h6 hn hr hr2 g1 g2 g3 eX eY
      go_enter Tryz.func25, Tryz.ntmps25
      go_wp2_with fail
      refine HR.out.mono ?_
      rintro e w1 ⟨rfl, hb⟩
      have hb2 := hTb.out.trans (hb.mono hTb.out.size)
      clear hb
      go_wp2_with fail
      go_ret2
      exact ⟨rfl, hb2⟩
    · obtain ⟨⟨a, b, c⟩, hr⟩ : ∃ r, rcR X Y = r := ⟨_, rfl⟩
      rw [hr] at c1 c2 c3 HR
      simp only at c1 c2 c3
      subst c1
      subst c2
      have hr2 : (rcR (wd x) (wd y)).2.2 = c := by rw [← eX, ← eY, hr]
      rw [rnR_code hn hr2 c3]
      have hcc : (c != 0) = true := by simpa using c3
      clear h3 h4 h5 h6 hn hr hr2 eX eY c3
      go_enter Tryz.func25, Tryz.ntmps25
      go_wp2_with fail
      refine HR.out.mono ?_
      rintro e w1 ⟨rfl, hb⟩
      have hb2 := hTb.out.trans (hb.mono hTb.out.size)
      clear hb
      go_wp2_with fail
      go_ret2
      exact ⟨rfl, hb2⟩
end Go.Proofs.YtgppagmejhgmaaaGreatDoor
