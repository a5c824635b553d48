/-
  Opposites of sums and products; doubling and halving forth and back. Plain facts. No conditions.
-/
import Derived.Test.YtpchcigpppdfiaaSz
namespace Go.Proofs.Ytpchcigpppdfiaa
set_option linter.unusedVariables false
open Go Ieee

theorem word_lt63 (s : Bool) {r : Nat} (h : r ≤ 0x7ff0000000000000) : f64.word s r < 2 ^ 64 := by
  unfold Format.word; rw [f64_sw]; split <;> omega
theorem write_opp {d : Datum} (h : d.isNaN = false) : f64.write d.opposite = Op.negFloat .f64 (f64.write d) := by
  cases d with
  | nan s t => cases h
  | infinity s =>
    show f64.word (!s) f64.infRung = Op.negFloat .f64 (f64.word s f64.infRung)
    rw [neg_word (by rw [f64_inf]; decide)]
  | number s m i =>
    show f64.nearest (!s) m i = Op.negFloat .f64 (f64.nearest s m i)
    have := rungOf_le m i
    rw [nearest_rung, nearest_rung, neg_word (by omega)]

theorem read_neg' (x : Nat) : f64.read (Op.negFloat .f64 x) = (f64.read x).opposite := read_neg x

theorem product_opp_right (a b : Datum) : a.product b.opposite = (a.product b).map Datum.opposite := by
  cases a <;> cases b <;> simp only [Datum.opposite, Datum.product, Option.map_none, Option.map_some]
  · rename_i s m i t n j; cases s <;> cases t <;> rfl
  · rename_i s m i t; split <;> cases s <;> cases t <;> rfl
  · rename_i s t n j; split <;> cases s <;> cases t <;> rfl
  · rename_i s t; cases s <;> cases t <;> rfl
theorem product_not_nan {a b d : Datum} (h : a.product b = some d) : d.isNaN = false := by
  cases a <;> cases b <;> simp only [Datum.product] at h <;> first | (cases h; done) | skip
  all_goals
    first
      | (simp only [Option.some.injEq] at h; subst h; rfl)
      | (split at h
         · cases h
         · simp only [Option.some.injEq] at h; subst h; rfl)
theorem mul_neg_right (x y : Nat) : NEq .f64 (cf .mul .f64 x (Op.negFloat .f64 y)) (Op.negFloat .f64 (cf .mul .f64 x y)) := by
  have e : floatBits .mul .f64 x (Op.negFloat .f64 y) = ((f64.read x).product (f64.read y).opposite).map f64.write := by
    show ((f64.read x).product (f64.read (Op.negFloat .f64 y))).map f64.write = _
    rw [read_neg']
  have e' : floatBits .mul .f64 x y = ((f64.read x).product (f64.read y)).map f64.write := rfl
  unfold cf
  rw [e, e', product_opp_right]
  cases h : (f64.read x).product (f64.read y) with
  | none => exact .inr ⟨isN_qn _, by decide +kernel⟩
  | some d =>
    left
    show f64.write d.opposite = _
    rw [write_opp (product_not_nan h)]; rfl
theorem mul_neg_left (x y : Nat) : NEq .f64 (cf .mul .f64 (Op.negFloat .f64 x) y) (Op.negFloat .f64 (cf .mul .f64 x y)) := by
  rw [cf_mul_comm _ _ y, cf_mul_comm _ x y]; exact mul_neg_right y x
theorem opp_opp (d : Datum) : d.opposite.opposite = d := by cases d <;> simp [Datum.opposite]
theorem mul_neg_both (x y : Nat) : cf .mul .f64 (Op.negFloat .f64 x) (Op.negFloat .f64 y) = cf .mul .f64 x y := by
  have e : floatBits .mul .f64 (Op.negFloat .f64 x) (Op.negFloat .f64 y) = floatBits .mul .f64 x y := by
    show ((f64.read (Op.negFloat .f64 x)).product (f64.read (Op.negFloat .f64 y))).map f64.write = ((f64.read x).product (f64.read y)).map f64.write
    rw [read_neg', read_neg', product_opp_right, product_comm _ (f64.read y), product_opp_right, product_comm _ (f64.read x)]
    cases (f64.read x).product (f64.read y) <;> simp [opp_opp]
  unfold cf; rw [e]

theorem signed_not (s : Bool) (m k : Nat) : signed (!s) m k = -signed s m k := by
  cases s
  · rw [signed_false]; show signed true m k = _; rw [signed_true]
  · rw [signed_true]; show signed false m k = _; rw [signed_false]; omega

theorem order_refl_num {x : Nat} (h : isF .f64 x = true) : f64.order x x = some .eq := order_self (isF_not_isN h)

/-- The sum of opposites is the opposite of the sum, up to the sign of 0. -/
theorem add_neg_neg {x y : Nat} (h : isF .f64 (cf .add .f64 x y) = true) (hx : isF .f64 x = true) (hy : isF .f64 y = true) :
    isF .f64 (cf .add .f64 (Op.negFloat .f64 x) (Op.negFloat .f64 y)) = true ∧
    f64.order (cf .add .f64 (Op.negFloat .f64 x) (Op.negFloat .f64 y)) (Op.negFloat .f64 (cf .add .f64 x y)) = some .eq := by
  obtain ⟨s, m, i, e⟩ := isF_read hx
  obtain ⟨t, n, j, g⟩ := isF_read hy
  obtain ⟨T, hT⟩ : ∃ T, T = signed s m (i - min i j).toNat + signed t n (j - min i j).toNat := ⟨_, rfl⟩
  have h1 : cf .add .f64 x y = f64.nearest (if T = 0 then s && t else decide (T < 0)) T.natAbs (min i j) := by
    have : floatBits .add .f64 x y = some (f64.nearest (if T = 0 then s && t else decide (T < 0)) T.natAbs (min i j)) := by
      show ((f64.read x).sum (f64.read y)).map f64.write = _
      rw [e, g, hT]; rfl
    unfold cf; rw [this]; rfl
  have h2 : cf .add .f64 (Op.negFloat .f64 x) (Op.negFloat .f64 y) = f64.nearest (if -T = 0 then !s && !t else decide (-T < 0)) (-T).natAbs (min i j) := by
    have : floatBits .add .f64 (Op.negFloat .f64 x) (Op.negFloat .f64 y) = some (f64.nearest (if -T = 0 then !s && !t else decide (-T < 0)) (-T).natAbs (min i j)) := by
      show ((f64.read (Op.negFloat .f64 x)).sum (f64.read (Op.negFloat .f64 y))).map f64.write = _
      rw [read_neg', read_neg', e, g]
      have e3 : signed (!s) m (i - min i j).toNat + signed (!t) n (j - min i j).toNat = -T := by rw [signed_not, signed_not, hT]; omega
      show some (f64.write (Datum.number (if signed (!s) m (i - min i j).toNat + signed (!t) n (j - min i j).toNat = 0 then !s && !t else decide (signed (!s) m (i - min i j).toNat + signed (!t) n (j - min i j).toNat < 0)) (signed (!s) m (i - min i j).toNat + signed (!t) n (j - min i j).toNat).natAbs (min i j))) = _
      rw [e3]; rfl
    unfold cf; rw [this]; rfl
  rw [Int.natAbs_neg] at h2
  by_cases h0 : T = 0
  · rw [h1, h2, h0]
    rw [if_pos rfl, if_pos (by decide)]
    have z : ∀ q : Bool, f64.nearest q (0 : Int).natAbs (min i j) = f64.word q 0 := fun q => rfl
    rw [z, z]
    cases s <;> cases t <;> decide +kernel
  · have hs : (if -T = 0 then !s && !t else decide (-T < 0)) = !(if T = 0 then s && t else decide (T < 0)) := by
      rw [if_neg h0, if_neg (by omega)]
      by_cases h4 : T < 0
      · rw [decide_eq_true h4, decide_eq_false (by omega)]; rfl
      · rw [decide_eq_false h4, decide_eq_true (by omega)]; rfl
    have h3 : cf .add .f64 (Op.negFloat .f64 x) (Op.negFloat .f64 y) = Op.negFloat .f64 (cf .add .f64 x y) := by
      have := rungOf_le T.natAbs (min i j)
      rw [h2, h1, hs, nearest_rung, nearest_rung, neg_word (by omega)]
    rw [h3]
    have hf : isF .f64 (Op.negFloat .f64 (cf .add .f64 x y)) = true := by rw [isF_neg]; exact h
    exact ⟨hf, order_refl_num hf⟩

theorem nan_inf_sum {x y : Nat} (h : isF .f64 (cf .add .f64 x y) = true) : isF .f64 x = true ∧ isF .f64 y = true := by
  have e : floatBits .add .f64 x y = ((f64.read x).sum (f64.read y)).map f64.write := rfl
  unfold cf at h
  rw [e] at h
  cases hx : f64.read x <;> cases hy : f64.read y <;> rw [hx, hy] at h <;> simp only [Datum.sum] at h
  case number.number => exact ⟨isF_of hx, isF_of hy⟩
  all_goals
    exfalso
    first
      | (rw [Option.map_none, Option.getD_none, isN_not_isF (isN_qn _)] at h; cases h; done)
      | skip
  case number.infinity s m i t => revert h; cases t <;> decide +kernel
  case infinity.number s t m i => revert h; cases s <;> decide +kernel
  case infinity.infinity s t => revert h; cases s <;> cases t <;> decide +kernel

/-- x doubled, if that is finite, and halved again. -/
theorem half_double {x : Nat} (hw : Wf x) (hx : isF .f64 x = true) (h : isF .f64 (cf .mul .f64 x 4611686018427387904) = true) :
    cf .mul .f64 (cf .mul .f64 x 4611686018427387904) 4602678819172646912 = x := by
  obtain ⟨s, m, i, e⟩ := isF_read hx
  obtain ⟨hc, h2, h3, _⟩ := read_canon e
  have hb := wf_word hw e
  rw [mul_two e] at h ⊢
  have key : ∀ m' i', Canon f64 m' i' → rawRung f64 (m * 2 ^ 52) (i + -51) = rawRung f64 m' i' → rawRung f64 (m' * 2 ^ 52) (i' + -53) = rawRung f64 m i →
      cf .mul .f64 (f64.word s (rungOf (m * 2 ^ 52) (i + -51))) 4602678819172646912 = x := by
    intro m' i' hc' e1 e2
    have hlt : rawRung f64 m' i' < 0x7ff0000000000000 := by
      rcases Nat.lt_or_ge (rawRung f64 m' i') 0x7ff0000000000000 with hl | hl
      · exact hl
      · exfalso
        have : rungOf (m * 2 ^ 52) (i + -51) = 0x7ff0000000000000 := by unfold rungOf; rw [e1]; omega
        rw [this] at h
        unfold isF at h
        rw [kf, read_inf] at h
        cases h
    have e3 : rungOf (m * 2 ^ 52) (i + -51) = rawRung f64 m' i' := by unfold rungOf; omega
    rw [e3, mul_half (read_word hc' hlt)]
    have e4 : rungOf (m' * 2 ^ 52) (i' + -53) = rawRung f64 m i := by unfold rungOf; omega
    rw [e4]; exact hb.symm
  obtain ⟨c1, c2, c3⟩ := hc
  rw [f64_bin, f64_low] at *
  by_cases hm : 2 ^ 52 ≤ m
  · refine key m (i + 1) ⟨by rw [f64_low]; omega, by rw [f64_bin]; omega, .inr (by rw [f64_bin]; exact hm)⟩ ?_ ?_
    · exact rawRung_congr f64 (c := i + -51) (by omega) (by omega) (by rw [show (i + -51 - (i + -51)).toNat = 0 by omega, show (i + 1 - (i + -51)).toNat = 52 by omega]; omega)
    · exact rawRung_congr f64 (c := i + -52) (by omega) (by omega) (by rw [show (i + 1 + -53 - (i + -52)).toNat = 0 by omega, show (i - (i + -52)).toNat = 52 by omega]; omega)
  · have hi : i = -1074 := by
      rcases c3 with c3 | c3
      · exact c3
      · omega
    refine key (2 * m) i ⟨by rw [f64_low]; omega, by rw [f64_bin]; omega, .inl (by rw [f64_low]; exact hi)⟩ ?_ ?_
    · exact rawRung_congr f64 (c := i + -51) (by omega) (by omega) (by rw [show (i + -51 - (i + -51)).toNat = 0 by omega, show (i - (i + -51)).toNat = 51 by omega]; omega)
    · exact rawRung_congr f64 (c := i + -53) (by omega) (by omega) (by rw [show (i + -53 - (i + -53)).toNat = 0 by omega, show (i - (i + -53)).toNat = 53 by omega]; omega)

/-- Halving by '/ 2' is halving by '* 0.5'. -/
theorem quo_two (x : Nat) : cf .quo .f64 x 4611686018427387904 = cf .mul .f64 x 4602678819172646912 := by
  cases e : f64.read x with
  | nan s t =>
    have hn : isN .f64 x = true := by unfold isN; rw [kf, e]; rfl
    unfold cf; rw [floatBits_nan_left hn, floatBits_nan_left hn]
  | infinity s =>
    have h1 : floatBits .quo .f64 x 4611686018427387904 = some (f64.word s f64.infRung) := by
      show ((f64.read x).quotient (f64.fractionBits + 2) (f64.read 4611686018427387904)).map f64.write = _
      rw [e, read_two]
      show some (f64.write (.infinity (s ^^ false))) = _
      rw [Bool.xor_false]; rfl
    have h2 : floatBits .mul .f64 x 4602678819172646912 = some (f64.word s f64.infRung) := by
      show ((f64.read x).product (f64.read 4602678819172646912)).map f64.write = _
      rw [e, read_half]
      show (if 2 ^ 52 = 0 then none else some (Datum.infinity (s ^^ false))).map f64.write = _
      rw [if_neg (by decide), Bool.xor_false]; rfl
    unfold cf; rw [h1, h2]
  | number s m i =>
    rw [mul_half e]
    obtain ⟨hc, _⟩ := read_canon e
    have hlog : m.log2 ≤ 52 := by
      by_cases hm : m = 0
      · subst hm; decide
      · have h4 := log_le hm
        have h5 : 2 ^ m.log2 < 2 ^ (52 + 1) := by
          have := hc.2.1
          rw [f64_bin] at this
          omega
        have := (Nat.pow_lt_pow_iff_right (by omega : 1 < 2)).1 h5
        omega
    obtain ⟨k, hk⟩ : ∃ k, 54 + 52 - m.log2 = k + 54 := ⟨52 - m.log2, by omega⟩
    have h1 : floatBits .quo .f64 x 4611686018427387904 = some (f64.nearest s (m * 2 ^ (k + 3)) (i + 51 - ((k + 54 : Nat) : Int) - 1)) := by
      show ((f64.read x).quotient 54 (f64.read 4611686018427387904)).map f64.write = _
      rw [e, read_two]
      unfold Datum.quotient
      simp only []
      rw [if_neg (show ¬ (2 : Nat) ^ 52 = 0 by decide)]
      have hl2 : (2 ^ 52 : Nat).log2 = 52 := Nat.log2_two_pow
      rw [hl2, hk, Nat.shiftLeft_eq]
      have d1 : m * 2 ^ (k + 54) / 2 ^ 52 = m * 2 ^ (k + 2) := by
        rw [show k + 54 = (k + 2) + 52 by omega, Nat.pow_add, ← Nat.mul_assoc, Nat.mul_div_cancel _ (Nat.two_pow_pos 52)]
      have d2 : m * 2 ^ (k + 54) % 2 ^ 52 = 0 := by
        rw [show k + 54 = (k + 2) + 52 by omega, Nat.pow_add, ← Nat.mul_assoc, Nat.mul_mod_left]
      rw [d1, d2, Bool.xor_false]
      have d3 : 2 * (m * 2 ^ (k + 2)) + ((0 : Nat) != 0).toNat = m * 2 ^ (k + 3) := by
        rw [show k + 3 = (k + 2) + 1 by omega, Nat.pow_succ _ (k + 2), show ((0 : Nat) != 0).toNat = 0 from rfl]
        rw [Nat.add_zero, Nat.mul_comm 2, Nat.mul_assoc]
      rw [d3, show i - -51 - ((k + 54 : Nat) : Int) - 1 = i + 51 - ((k + 54 : Nat) : Int) - 1 by omega]
      rfl
    unfold cf
    rw [h1, Option.getD_some, nearest_rung]
    congr 1
    unfold rungOf
    congr 1
    refine rawRung_congr f64 (c := i - 60 - k) (by omega) (by omega) ?_
    rw [Nat.mul_assoc, Nat.mul_assoc, ← Nat.pow_add, ← Nat.pow_add]
    congr 2
    omega
end Go.Proofs.Ytpchcigpppdfiaa
