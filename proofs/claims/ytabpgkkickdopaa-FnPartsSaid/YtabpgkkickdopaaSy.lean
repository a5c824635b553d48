/-
  Sizes, conjugates, doubling and halving of floats. Plain facts. No conditions. Opposites of sums and products; doubling and halving forth and back. Plain facts. No conditions.
-/
import Derived.Test.YtabpgkkickdopaaGa
namespace Go.Proofs.Ytabpgkkickdopaa
set_option linter.unusedVariables false
open Go Go.RowKit

open Go Ieee

theorem kf : FloatKind.f64.format = f64 := rfl

/-- The absolute value. -/
def ab (x : Nat) : Nat := x % 2 ^ 63
theorem read_ab (x : Nat) {s : Bool} {m : Nat} {i : Int} (h : f64.read x = .number s m i) : f64.read (ab x) = .number false m i := by
  have := read_abs x
  rw [kf, h] at this
  exact this
theorem isF_read {x : Nat} (h : isF .f64 x = true) : ∃ s m i, f64.read x = .number s m i := by
  unfold isF at h
  rw [kf] at h
  split at h
  · rename_i s m i e; exact ⟨s, m, i, e⟩
  · cases h
theorem isF_of {x : Nat} {s : Bool} {m : Nat} {i : Int} (h : f64.read x = .number s m i) : isF .f64 x = true := by
  unfold isF; rw [kf, h]
theorem ab_word {x : Nat} {s : Bool} {m : Nat} {i : Int} (h : f64.read x = .number s m i) : ab x = f64.word false (rungOf m i) ∧ rungOf m i = rawRung f64 m i ∧ rawRung f64 m i < 0x7ff0000000000000 := by
  obtain ⟨_, h2, h3, _⟩ := read_canon h
  rw [h2] at h3
  have e : rungOf m i = rawRung f64 m i := by unfold rungOf; omega
  refine ⟨?_, e, h3⟩
  unfold ab
  rw [h2, e]
  unfold Format.word
  rw [if_neg (by decide)]

theorem wf_word {x : Nat} (hw : Wf x) {s : Bool} {m : Nat} {i : Int} (h : f64.read x = .number s m i) : x = f64.word s (rawRung f64 m i) := by
  obtain ⟨_, h2, h3, h4⟩ := read_canon h
  unfold Wf at hw
  rw [← h2]
  unfold Format.word
  rw [f64_sw]
  cases s
  · rw [if_neg (by decide)]
    have : x / 2 ^ 63 % 2 ≠ 1 := by intro hh; rw [hh] at h4; cases h4
    omega
  · rw [if_pos rfl]
    have : x / 2 ^ 63 % 2 = 1 := by
      have := h4.symm
      simpa using this
    omega

theorem neg_word {s : Bool} {r : Nat} (h : r < 2 ^ 63) : Op.negFloat .f64 (f64.word s r) = f64.word (!s) r := by
  have e2 : (2 : Nat) ^ (FloatKind.f64.format.exponentBits + FloatKind.f64.format.fractionBits) = 2 ^ 63 := by decide
  obtain ⟨h1, h2⟩ := xor_high (f64.word s r) 63
  have hlt : f64.word s r ^^^ 2 ^ 63 < 2 ^ 64 := Nat.xor_lt_two_pow (by unfold Format.word; rw [f64_sw]; split <;> omega) (by decide)
  unfold Op.negFloat
  rw [e2]
  have hw1 : f64.word s r % 2 ^ 63 = r := by unfold Format.word; rw [f64_sw]; split <;> omega
  have hw2 : f64.word s r / 2 ^ 63 % 2 = if s then 1 else 0 := by
    unfold Format.word; rw [f64_sw]; cases s
    · rw [if_neg (by decide), if_neg (by decide)]; omega
    · rw [if_pos rfl, if_pos rfl]; omega
  rw [hw1] at h1
  rw [hw2] at h2
  generalize f64.word s r ^^^ 2 ^ 63 = q at *
  unfold Format.word
  rw [f64_sw]
  cases s
  · rw [if_neg (by decide)] at h2
    rw [if_pos (by rfl)]
    omega
  · rw [if_pos (by rfl)] at h2
    rw [if_neg (by decide)]
    omega

theorem read_zero : f64.read 0 = .number false 0 (-1074) := by decide +kernel
theorem order_zero {x : Nat} {s : Bool} {m : Nat} {i : Int} (h : f64.read x = .number s m i) : f64.order x 0 = some (if m = 0 then .eq else if s then .lt else .gt) := by
  unfold Format.order
  rw [h, read_zero]
  simp only [Datum.order, compare_int]
  congr 1
  have hp : 0 < 2 ^ (i - min i (-1074)).toNat := Nat.two_pow_pos _
  have z : signed false 0 ((-1074 : Int) - min i (-1074)).toNat = 0 := by rw [signed_false]; simp
  rw [z]
  by_cases hm : m = 0
  · subst hm
    rw [if_pos rfl]
    have z2 : signed s 0 (i - min i (-1074)).toNat = 0 := by
      cases s
      · rw [signed_false]; simp
      · rw [signed_true]; simp
    rw [z2, if_neg (by omega), if_pos rfl]
  · rw [if_neg hm]
    have hq : 0 < m * 2 ^ (i - min i (-1074)).toNat := Nat.mul_pos (Nat.pos_of_ne_zero hm) hp
    cases s
    · rw [signed_false, if_neg (by omega), if_neg (by omega)]; rfl
    · rw [signed_true, if_pos (by omega)]; rfl

/-- The model's absolute value, by its three ways. -/
theorem abs_ways {x : Nat} (hw : Wf x) (h : isF .f64 x = true) :
    (f64.order x 0 = some .lt → Op.negFloat .f64 x = ab x) ∧ (f64.order x 0 = some .eq → ab x = 0) ∧ (f64.order x 0 = some .gt → x = ab x) := by
  obtain ⟨s, m, i, e⟩ := isF_read h
  rw [order_zero e]
  obtain ⟨hc, h2, h3, h4⟩ := read_canon e
  have hx := wf_word hw e
  obtain ⟨a1, a2, a3⟩ := ab_word e
  rw [a1, a2]
  refine ⟨fun q => ?_, fun q => ?_, fun q => ?_⟩
  · by_cases hm : m = 0
    · rw [if_pos hm] at q; cases q
    · cases s
      · rw [if_neg hm, if_neg (by decide)] at q; cases q
      · rw [hx, neg_word (by omega)]; rfl
  · by_cases hm : m = 0
    · subst hm
      rw [show rawRung f64 0 i = 0 from if_pos rfl]; rfl
    · rw [if_neg hm] at q; cases s <;> cases q
  · by_cases hm : m = 0
    · rw [if_pos hm] at q; cases q
    · cases s
      · exact hx
      · rw [if_neg hm, if_pos rfl] at q; cases q

theorem Le.of_canon {m n : Nat} {i j : Int} (h : Canon f64 m i) (g : Canon f64 n j) (hr : rawRung f64 m i < 0x7ff0000000000000) (gr : rawRung f64 n j < 0x7ff0000000000000) (hle : rawRung f64 m i ≤ rawRung f64 n j) : Le m i n j := by
  refine ⟨min i j, by omega, by omega, ?_⟩
  by_cases hh : m * 2 ^ (i - min i j).toNat ≤ n * 2 ^ (j - min i j).toNat
  · exact hh
  · have h1 := rawRung_mono f64 (m := n) (n := m) (i := j) (j := i) (c := min i j) (by omega) (by omega) (by omega)
    have e : rawRung f64 m i = rawRung f64 n j := by omega
    have r1 := read_word (s := false) h hr
    have r2 := read_word (s := false) g gr
    rw [e, r2] at r1
    simp only [Datum.number.injEq, true_and] at r1
    obtain ⟨rfl, rfl⟩ := r1
    exact Nat.le_refl _

/-- A sum of two numbers without a sign. -/
theorem add_abs {x y m n : Nat} {i j : Int} (hx : f64.read x = .number false m i) (hy : f64.read y = .number false n j) :
    cf .add .f64 x y = f64.word false (rungOf (m * 2 ^ (i - min i j).toNat + n * 2 ^ (j - min i j).toNat) (min i j)) := by
  simp only [cf, floatBits, Format.add]
  rw [kf, hx, hy]
  simp only [Datum.sum, signed_false]
  rw [← nearest_rung]
  have hs : (if ((m * 2 ^ (i - min i j).toNat : Nat) : Int) + ((n * 2 ^ (j - min i j).toNat : Nat) : Int) = 0 then (false && false) else decide (((m * 2 ^ (i - min i j).toNat : Nat) : Int) + ((n * 2 ^ (j - min i j).toNat : Nat) : Int) < 0)) = false := by
    split
    · rfl
    · exact decide_eq_false (by omega)
  rw [hs]
  simp only [Option.map_some, Option.getD_some, Format.write]
  congr 1

theorem read_two : f64.read 4611686018427387904 = .number false (2 ^ 52) (-51) := by decide +kernel
theorem read_half : f64.read 4602678819172646912 = .number false (2 ^ 52) (-53) := by decide +kernel
theorem product_word (s t : Bool) (m n : Nat) (i j : Int) : ((Datum.number s m i).product (.number t n j)).map f64.write = some (f64.nearest (s ^^ t) (m * n) (i + j)) := rfl
theorem mul_two {x m : Nat} {s : Bool} {i : Int} (hx : f64.read x = .number s m i) : cf .mul .f64 x 4611686018427387904 = f64.word s (rungOf (m * 2 ^ 52) (i + -51)) := by
  have h : floatBits .mul .f64 x 4611686018427387904 = some (f64.nearest (s ^^ false) (m * 2 ^ 52) (i + -51)) := by
    show ((f64.read x).product (f64.read 4611686018427387904)).map f64.write = _
    rw [hx, read_two]
    exact product_word _ _ _ _ _ _
  unfold cf
  rw [h, Bool.xor_false, nearest_rung, Option.getD_some]
theorem mul_half {x m : Nat} {s : Bool} {i : Int} (hx : f64.read x = .number s m i) : cf .mul .f64 x 4602678819172646912 = f64.word s (rungOf (m * 2 ^ 52) (i + -53)) := by
  have h : floatBits .mul .f64 x 4602678819172646912 = some (f64.nearest (s ^^ false) (m * 2 ^ 52) (i + -53)) := by
    show ((f64.read x).product (f64.read 4602678819172646912)).map f64.write = _
    rw [hx, read_half]
    exact product_word _ _ _ _ _ _
  unfold cf
  rw [h, Bool.xor_false, nearest_rung, Option.getD_some]

/-- The size is not less than the larger part, and not greater than twice it. -/
theorem size_facts {x y : Nat} (hx : isF .f64 x = true) (hy : isF .f64 y = true) :
    f64.order (cf .add .f64 (ab x) (ab y)) (max (ab x) (ab y)) ≠ some .lt ∧
    f64.order (cf .add .f64 (ab x) (ab y)) (cf .mul .f64 4611686018427387904 (max (ab x) (ab y))) ≠ some .gt := by
  obtain ⟨s, m, i, e⟩ := isF_read hx
  obtain ⟨t, n, j, g⟩ := isF_read hy
  obtain ⟨a1, a2, a3⟩ := ab_word e
  obtain ⟨b1, b2, b3⟩ := ab_word g
  obtain ⟨c1, _⟩ := read_canon e
  obtain ⟨d1, _⟩ := read_canon g
  have hs := add_abs (read_ab x e) (read_ab y g)
  have hl1 : Le m i (m * 2 ^ (i - min i j).toNat + n * 2 ^ (j - min i j).toNat) (min i j) := ⟨min i j, by omega, by omega, by rw [Int.sub_self]; simp⟩
  have hl2 : Le n j (m * 2 ^ (i - min i j).toNat + n * 2 ^ (j - min i j).toNat) (min i j) := ⟨min i j, by omega, by omega, by rw [Int.sub_self]; simp⟩
  have wf0 : ∀ r, f64.word false r = r := fun r => by unfold Format.word; rw [if_neg (by decide)]
  rw [hs]
  have two : ∀ (q : Nat) (k : Int) (z : Nat), f64.read z = .number false q k → Le m i q k → Le n j q k →
      rungOf (m * 2 ^ (i - min i j).toNat + n * 2 ^ (j - min i j).toNat) (min i j) ≤ rungOf (q * 2 ^ 52) (k + -51) := by
    intro q k z _ ⟨c, l1, l2, l3⟩ ⟨c', k1, k2, k3⟩
    refine rungOf_mono ⟨min (min c c') (min i j) - 52, by omega, by omega, ?_⟩
    obtain ⟨d, hd⟩ : ∃ d, d = min (min c c') (min i j) - 52 := ⟨_, rfl⟩
    rw [← hd]
    have f1 := Nat.mul_le_mul_right (2 ^ (c - d).toNat) l3
    have f2 := Nat.mul_le_mul_right (2 ^ (c' - d).toNat) k3
    rw [Nat.mul_assoc, Nat.mul_assoc, ← Nat.pow_add, ← Nat.pow_add] at f1 f2
    rw [show (i - c).toNat + (c - d).toNat = (i - d).toNat by omega, show (k - c).toNat + (c - d).toNat = (k - d).toNat by omega] at f1
    rw [show (j - c').toNat + (c' - d).toNat = (j - d).toNat by omega, show (k - c').toNat + (c' - d).toNat = (k - d).toNat by omega] at f2
    rw [Nat.add_mul, Nat.mul_assoc, Nat.mul_assoc, Nat.mul_assoc, ← Nat.pow_add, ← Nat.pow_add, ← Nat.pow_add]
    rw [show (i - min i j).toNat + (min i j - d).toNat = (i - d).toNat by omega, show (j - min i j).toNat + (min i j - d).toNat = (j - d).toNat by omega, show 52 + (k + -51 - d).toNat = (k - d).toNat + 1 by omega, Nat.pow_succ]
    rw [← Nat.mul_assoc]
    omega
  rcases Nat.le_total (ab x) (ab y) with hle | hle
  · rw [Nat.max_eq_right hle, cf_mul_comm, mul_two (read_ab y g), b1, order_word (rungOf_le _ _) (rungOf_le _ _), order_word (rungOf_le _ _) (rungOf_le _ _)]
    have hle' : rawRung f64 m i ≤ rawRung f64 n j := by rw [a1, b1, wf0, wf0, a2, b2] at hle; exact hle
    have L1 := Le.of_canon c1 d1 a3 b3 hle'
    have L2 : Le n j n j := ⟨j, by omega, by omega, Nat.le_refl _⟩
    have r1 := rungOf_mono hl2
    have r2 := two n j (ab y) (read_ab y g) L1 L2
    constructor
    · rw [if_neg (by omega)]; split <;> simp
    · split
      · simp
      · split
        · simp
        · omega
  · rw [Nat.max_eq_left hle, cf_mul_comm, mul_two (read_ab x e), a1, order_word (rungOf_le _ _) (rungOf_le _ _), order_word (rungOf_le _ _) (rungOf_le _ _)]
    have hle' : rawRung f64 n j ≤ rawRung f64 m i := by rw [a1, b1, wf0, wf0, a2, b2] at hle; exact hle
    have L1 := Le.of_canon d1 c1 b3 a3 hle'
    have L2 : Le m i m i := ⟨i, by omega, by omega, Nat.le_refl _⟩
    have r1 := rungOf_mono hl1
    have r2 := two m i (ab x) (read_ab x e) L2 L1
    constructor
    · rw [if_neg (by omega)]; split <;> simp
    · split
      · simp
      · split
        · simp
        · omega

open Go Ieee

theorem word_lt63 (s : Bool) {r : Nat} (h : r ≤ 0x7ff0000000000000) : f64.word s r < 2 ^ 64 := by
  unfold Format.word; rw [f64_sw]; split <;> omega
theorem write_opp {d : Datum} (h : d.isNaN = false) : f64.write d.opposite = Op.negFloat .f64 (f64.write d) := by
  cases d with
  | nan s t => cases h
  | infinity s =>
    show f64.word (!s) f64.infRung = Op.negFloat .f64 (f64.word s f64.infRung)
    rw [neg_word (by rw [f64_inf]; decide)]
  | number s m i =>
    show f64.nearest (!s) m i = Op.negFloat .f64 (f64.nearest s m i)
    have := rungOf_le m i
    rw [nearest_rung, nearest_rung, neg_word (by omega)]

theorem read_neg' (x : Nat) : f64.read (Op.negFloat .f64 x) = (f64.read x).opposite := read_neg x

theorem product_opp_right (a b : Datum) : a.product b.opposite = (a.product b).map Datum.opposite := by
  cases a <;> cases b <;> simp only [Datum.opposite, Datum.product, Option.map_none, Option.map_some]
  · rename_i s m i t n j; cases s <;> cases t <;> rfl
  · rename_i s m i t; split <;> cases s <;> cases t <;> rfl
  · rename_i s t n j; split <;> cases s <;> cases t <;> rfl
  · rename_i s t; cases s <;> cases t <;> rfl
theorem product_not_nan {a b d : Datum} (h : a.product b = some d) : d.isNaN = false := by
  cases a <;> cases b <;> simp only [Datum.product] at h <;> first | (cases h; done) | skip
  all_goals
    first
      | (simp only [Option.some.injEq] at h; subst h; rfl)
      | (split at h
         · cases h
         · simp only [Option.some.injEq] at h; subst h; rfl)
theorem mul_neg_right (x y : Nat) : NEq .f64 (cf .mul .f64 x (Op.negFloat .f64 y)) (Op.negFloat .f64 (cf .mul .f64 x y)) := by
  have e : floatBits .mul .f64 x (Op.negFloat .f64 y) = ((f64.read x).product (f64.read y).opposite).map f64.write := by
    show ((f64.read x).product (f64.read (Op.negFloat .f64 y))).map f64.write = _
    rw [read_neg']
  have e' : floatBits .mul .f64 x y = ((f64.read x).product (f64.read y)).map f64.write := rfl
  unfold cf
  rw [e, e', product_opp_right]
  cases h : (f64.read x).product (f64.read y) with
  | none => exact .inr ⟨isN_qn _, by decide +kernel⟩
  | some d =>
    left
    show f64.write d.opposite = _
    rw [write_opp (product_not_nan h)]; rfl
theorem mul_neg_left (x y : Nat) : NEq .f64 (cf .mul .f64 (Op.negFloat .f64 x) y) (Op.negFloat .f64 (cf .mul .f64 x y)) := by
  rw [cf_mul_comm _ _ y, cf_mul_comm _ x y]; exact mul_neg_right y x
theorem opp_opp (d : Datum) : d.opposite.opposite = d := by cases d <;> simp [Datum.opposite]
theorem mul_neg_both (x y : Nat) : cf .mul .f64 (Op.negFloat .f64 x) (Op.negFloat .f64 y) = cf .mul .f64 x y := by
  have e : floatBits .mul .f64 (Op.negFloat .f64 x) (Op.negFloat .f64 y) = floatBits .mul .f64 x y := by
    show ((f64.read (Op.negFloat .f64 x)).product (f64.read (Op.negFloat .f64 y))).map f64.write = ((f64.read x).product (f64.read y)).map f64.write
    rw [read_neg', read_neg', product_opp_right, product_comm _ (f64.read y), product_opp_right, product_comm _ (f64.read x)]
    cases (f64.read x).product (f64.read y) <;> simp [opp_opp]
  unfold cf; rw [e]

theorem signed_not (s : Bool) (m k : Nat) : signed (!s) m k = -signed s m k := by
  cases s
  · rw [signed_false]; show signed true m k = _; rw [signed_true]
  · rw [signed_true]; show signed false m k = _; rw [signed_false]; omega

theorem order_refl_num {x : Nat} (h : isF .f64 x = true) : f64.order x x = some .eq := order_self (isF_not_isN h)

/-- The sum of opposites is the opposite of the sum, up to the sign of 0. -/
theorem add_neg_neg {x y : Nat} (h : isF .f64 (cf .add .f64 x y) = true) (hx : isF .f64 x = true) (hy : isF .f64 y = true) :
    isF .f64 (cf .add .f64 (Op.negFloat .f64 x) (Op.negFloat .f64 y)) = true ∧
    f64.order (cf .add .f64 (Op.negFloat .f64 x) (Op.negFloat .f64 y)) (Op.negFloat .f64 (cf .add .f64 x y)) = some .eq := by
  obtain ⟨s, m, i, e⟩ := isF_read hx
  obtain ⟨t, n, j, g⟩ := isF_read hy
  obtain ⟨T, hT⟩ : ∃ T, T = signed s m (i - min i j).toNat + signed t n (j - min i j).toNat := ⟨_, rfl⟩
  have h1 : cf .add .f64 x y = f64.nearest (if T = 0 then s && t else decide (T < 0)) T.natAbs (min i j) := by
    have : floatBits .add .f64 x y = some (f64.nearest (if T = 0 then s && t else decide (T < 0)) T.natAbs (min i j)) := by
      show ((f64.read x).sum (f64.read y)).map f64.write = _
      rw [e, g, hT]; rfl
    unfold cf; rw [this]; rfl
  have h2 : cf .add .f64 (Op.negFloat .f64 x) (Op.negFloat .f64 y) = f64.nearest (if -T = 0 then !s && !t else decide (-T < 0)) (-T).natAbs (min i j) := by
    have : floatBits .add .f64 (Op.negFloat .f64 x) (Op.negFloat .f64 y) = some (f64.nearest (if -T = 0 then !s && !t else decide (-T < 0)) (-T).natAbs (min i j)) := by
      show ((f64.read (Op.negFloat .f64 x)).sum (f64.read (Op.negFloat .f64 y))).map f64.write = _
      rw [read_neg', read_neg', e, g]
      have e3 : signed (!s) m (i - min i j).toNat + signed (!t) n (j - min i j).toNat = -T := by rw [signed_not, signed_not, hT]; omega
      show some (f64.write (Datum.number (if signed (!s) m (i - min i j).toNat + signed (!t) n (j - min i j).toNat = 0 then !s && !t else decide (signed (!s) m (i - min i j).toNat + signed (!t) n (j - min i j).toNat < 0)) (signed (!s) m (i - min i j).toNat + signed (!t) n (j - min i j).toNat).natAbs (min i j))) = _
      rw [e3]; rfl
    unfold cf; rw [this]; rfl
  rw [Int.natAbs_neg] at h2
  by_cases h0 : T = 0
  · rw [h1, h2, h0]
    rw [if_pos rfl, if_pos (by decide)]
    have z : ∀ q : Bool, f64.nearest q (0 : Int).natAbs (min i j) = f64.word q 0 := fun q => rfl
    rw [z, z]
    cases s <;> cases t <;> decide +kernel
  · have hs : (if -T = 0 then !s && !t else decide (-T < 0)) = !(if T = 0 then s && t else decide (T < 0)) := by
      rw [if_neg h0, if_neg (by omega)]
      by_cases h4 : T < 0
      · rw [decide_eq_true h4, decide_eq_false (by omega)]; rfl
      · rw [decide_eq_false h4, decide_eq_true (by omega)]; rfl
    have h3 : cf .add .f64 (Op.negFloat .f64 x) (Op.negFloat .f64 y) = Op.negFloat .f64 (cf .add .f64 x y) := by
      have := rungOf_le T.natAbs (min i j)
      rw [h2, h1, hs, nearest_rung, nearest_rung, neg_word (by omega)]
    rw [h3]
    have hf : isF .f64 (Op.negFloat .f64 (cf .add .f64 x y)) = true := by rw [isF_neg]; exact h
    exact ⟨hf, order_refl_num hf⟩

theorem nan_inf_sum {x y : Nat} (h : isF .f64 (cf .add .f64 x y) = true) : isF .f64 x = true ∧ isF .f64 y = true := by
  have e : floatBits .add .f64 x y = ((f64.read x).sum (f64.read y)).map f64.write := rfl
  unfold cf at h
  rw [e] at h
  cases hx : f64.read x <;> cases hy : f64.read y <;> rw [hx, hy] at h <;> simp only [Datum.sum] at h
  case number.number => exact ⟨isF_of hx, isF_of hy⟩
  all_goals
    exfalso
    first
      | (rw [Option.map_none, Option.getD_none, isN_not_isF (isN_qn _)] at h; cases h; done)
      | skip
  case number.infinity s m i t => revert h; cases t <;> decide +kernel
  case infinity.number s t m i => revert h; cases s <;> decide +kernel
  case infinity.infinity s t => revert h; cases s <;> cases t <;> decide +kernel

/-- x doubled, if that is finite, and halved again. -/
theorem half_double {x : Nat} (hw : Wf x) (hx : isF .f64 x = true) (h : isF .f64 (cf .mul .f64 x 4611686018427387904) = true) :
    cf .mul .f64 (cf .mul .f64 x 4611686018427387904) 4602678819172646912 = x := by
  obtain ⟨s, m, i, e⟩ := isF_read hx
  obtain ⟨hc, h2, h3, _⟩ := read_canon e
  have hb := wf_word hw e
  rw [mul_two e] at h ⊢
  have key : ∀ m' i', Canon f64 m' i' → rawRung f64 (m * 2 ^ 52) (i + -51) = rawRung f64 m' i' → rawRung f64 (m' * 2 ^ 52) (i' + -53) = rawRung f64 m i →
      cf .mul .f64 (f64.word s (rungOf (m * 2 ^ 52) (i + -51))) 4602678819172646912 = x := by
    intro m' i' hc' e1 e2
    have hlt : rawRung f64 m' i' < 0x7ff0000000000000 := by
      rcases Nat.lt_or_ge (rawRung f64 m' i') 0x7ff0000000000000 with hl | hl
      · exact hl
      · exfalso
        have : rungOf (m * 2 ^ 52) (i + -51) = 0x7ff0000000000000 := by unfold rungOf; rw [e1]; omega
        rw [this] at h
        unfold isF at h
        rw [kf, read_inf] at h
        cases h
    have e3 : rungOf (m * 2 ^ 52) (i + -51) = rawRung f64 m' i' := by unfold rungOf; omega
    rw [e3, mul_half (read_word hc' hlt)]
    have e4 : rungOf (m' * 2 ^ 52) (i' + -53) = rawRung f64 m i := by unfold rungOf; omega
    rw [e4]; exact hb.symm
  obtain ⟨c1, c2, c3⟩ := hc
  rw [f64_bin, f64_low] at *
  by_cases hm : 2 ^ 52 ≤ m
  · refine key m (i + 1) ⟨by rw [f64_low]; omega, by rw [f64_bin]; omega, .inr (by rw [f64_bin]; exact hm)⟩ ?_ ?_
    · exact rawRung_congr f64 (c := i + -51) (by omega) (by omega) (by rw [show (i + -51 - (i + -51)).toNat = 0 by omega, show (i + 1 - (i + -51)).toNat = 52 by omega]; omega)
    · exact rawRung_congr f64 (c := i + -52) (by omega) (by omega) (by rw [show (i + 1 + -53 - (i + -52)).toNat = 0 by omega, show (i - (i + -52)).toNat = 52 by omega]; omega)
  · have hi : i = -1074 := by
      rcases c3 with c3 | c3
      · exact c3
      · omega
    refine key (2 * m) i ⟨by rw [f64_low]; omega, by rw [f64_bin]; omega, .inl (by rw [f64_low]; exact hi)⟩ ?_ ?_
    · exact rawRung_congr f64 (c := i + -51) (by omega) (by omega) (by rw [show (i + -51 - (i + -51)).toNat = 0 by omega, show (i - (i + -51)).toNat = 51 by omega]; omega)
    · exact rawRung_congr f64 (c := i + -53) (by omega) (by omega) (by rw [show (i + -53 - (i + -53)).toNat = 0 by omega, show (i - (i + -53)).toNat = 53 by omega]; omega)

/-- Halving by '/ 2' is halving by '* 0.5'. -/
theorem quo_two (x : Nat) : cf .quo .f64 x 4611686018427387904 = cf .mul .f64 x 4602678819172646912 := by
  cases e : f64.read x with
  | nan s t =>
    have hn : isN .f64 x = true := by unfold isN; rw [kf, e]; rfl
    unfold cf; rw [floatBits_nan_left hn, floatBits_nan_left hn]
  | infinity s =>
    have h1 : floatBits .quo .f64 x 4611686018427387904 = some (f64.word s f64.infRung) := by
      show ((f64.read x).quotient (f64.fractionBits + 2) (f64.read 4611686018427387904)).map f64.write = _
      rw [e, read_two]
      show some (f64.write (.infinity (s ^^ false))) = _
      rw [Bool.xor_false]; rfl
    have h2 : floatBits .mul .f64 x 4602678819172646912 = some (f64.word s f64.infRung) := by
      show ((f64.read x).product (f64.read 4602678819172646912)).map f64.write = _
      rw [e, read_half]
      show (if 2 ^ 52 = 0 then none else some (Datum.infinity (s ^^ false))).map f64.write = _
      rw [if_neg (by decide), Bool.xor_false]; rfl
    unfold cf; rw [h1, h2]
  | number s m i =>
    rw [mul_half e]
    obtain ⟨hc, _⟩ := read_canon e
    have hlog : m.log2 ≤ 52 := by
      by_cases hm : m = 0
      · subst hm; decide
      · have h4 := log_le hm
        have h5 : 2 ^ m.log2 < 2 ^ (52 + 1) := by
          have := hc.2.1
          rw [f64_bin] at this
          omega
        have := (Nat.pow_lt_pow_iff_right (by omega : 1 < 2)).1 h5
        omega
    obtain ⟨k, hk⟩ : ∃ k, 54 + 52 - m.log2 = k + 54 := ⟨52 - m.log2, by omega⟩
    have h1 : floatBits .quo .f64 x 4611686018427387904 = some (f64.nearest s (m * 2 ^ (k + 3)) (i + 51 - ((k + 54 : Nat) : Int) - 1)) := by
      show ((f64.read x).quotient 54 (f64.read 4611686018427387904)).map f64.write = _
      rw [e, read_two]
      unfold Datum.quotient
      simp only []
      rw [if_neg (show ¬ (2 : Nat) ^ 52 = 0 by decide)]
      have hl2 : (2 ^ 52 : Nat).log2 = 52 := Nat.log2_two_pow
      rw [hl2, hk, Nat.shiftLeft_eq]
      have d1 : m * 2 ^ (k + 54) / 2 ^ 52 = m * 2 ^ (k + 2) := by
        rw [show k + 54 = (k + 2) + 52 by omega, Nat.pow_add, ← Nat.mul_assoc, Nat.mul_div_cancel _ (Nat.two_pow_pos 52)]
      have d2 : m * 2 ^ (k + 54) % 2 ^ 52 = 0 := by
        rw [show k + 54 = (k + 2) + 52 by omega, Nat.pow_add, ← Nat.mul_assoc, Nat.mul_mod_left]
      rw [d1, d2, Bool.xor_false]
      have d3 : 2 * (m * 2 ^ (k + 2)) + ((0 : Nat) != 0).toNat = m * 2 ^ (k + 3) := by
        rw [show k + 3 = (k + 2) + 1 by omega, Nat.pow_succ _ (k + 2), show ((0 : Nat) != 0).toNat = 0 from rfl]
        rw [Nat.add_zero, Nat.mul_comm 2, Nat.mul_assoc]
      rw [d3, show i - -51 - ((k + 54 : Nat) : Int) - 1 = i + 51 - ((k + 54 : Nat) : Int) - 1 by omega]
      rfl
    unfold cf
    rw [h1, Option.getD_some, nearest_rung]
    congr 1
    unfold rungOf
    congr 1
    refine rawRung_congr f64 (c := i - 60 - k) (by omega) (by omega) ?_
    rw [Nat.mul_assoc, Nat.mul_assoc, ← Nat.pow_add, ← Nat.pow_add]
    congr 2
    omega
end Go.Proofs.Ytabpgkkickdopaa
