/-
  Square roots of floats: maths. The nearest float of a square root that is told by one more bit is the same however many digits the root was taken to. Conditions: none. Contracts: square roots of floats, by the program. Conditions: none. Contracts: narrow square roots of floats, by the program; a float64 of at most 2^64 is made narrow without a draw. Conditions: none.
-/
import Derived.Test.YtgppagmejhgmaaaGreatDoorGn
namespace Go.Proofs.YtgppagmejhgmaaaGreatDoor
set_option linter.unusedVariables false
open Go Go.RowKit

open Go Go.RowKit Ieee

/-- A root with one more bit, which tells whether it is the whole root. -/
def stk (n r : Nat) : Nat := 2 * r + (r * r != n).toNat
theorem stk_eq {n r : Nat} (h : r * r = n) : stk n r = 2 * r := by unfold stk; simp [h]
theorem stk_ne {n r : Nat} (h : r * r ≠ n) : stk n r = 2 * r + 1 := by unfold stk; simp [h]
theorem stk_le (n r : Nat) : stk n r ≤ 2 * r + 1 := by
  by_cases h : r * r = n
  · rw [stk_eq h]; omega
  · rw [stk_ne h]; omega

/-- A number strictly between two even ones, of which two bits and more are dropped, is rounded as the odd one between. -/
theorem rne_odd (r t d A : Nat) (hd : 2 ≤ d) (h1 : 2 * r * 2 ^ t < A) (h2 : A < (2 * r + 2) * 2 ^ t) : rne A (d + t) = rne (2 * r + 1) d := by
  obtain ⟨D, hD⟩ : ∃ D, 2 ^ d = 4 * D := ⟨2 ^ (d - 2), by
    have e : d = 2 + (d - 2) := by omega
    rw [e, Nat.pow_add]
    simp⟩
  have hp : 2 ^ (d + t) = 4 * D * 2 ^ t := by rw [Nat.pow_add, hD]
  have hT : 0 < 2 ^ t := Nat.pow_pos (by omega)
  have hDp : 0 < D := by have : 0 < 2 ^ d := Nat.pow_pos (by omega); omega
  unfold rne
  rw [hp, hD]
  generalize 2 ^ t = T at *
  clear hp hd hD
  have hqu := Nat.div_add_mod (2 * r + 1) (4 * D)
  have hu := Nat.mod_lt (2 * r + 1) (show 0 < 4 * D by omega)
  generalize hq : (2 * r + 1) / (4 * D) = q at *
  generalize hu' : (2 * r + 1) % (4 * D) = u at *
  rw [Nat.mul_assoc] at hqu
  obtain ⟨X, hX⟩ : ∃ X, X = D * q := ⟨_, rfl⟩
  rw [← hX] at hqu
  obtain ⟨k, rfl⟩ : ∃ k, u = 2 * k + 1 := ⟨u / 2, by omega⟩
  have hr : r = 2 * X + k := by omega
  obtain ⟨Y, hY⟩ : ∃ Y, Y = X * T := ⟨_, rfl⟩
  obtain ⟨Z, hZ⟩ : ∃ Z, Z = k * T := ⟨_, rfl⟩
  obtain ⟨E, hE⟩ : ∃ E, E = D * T := ⟨_, rfl⟩
  have e1 : 2 * r * T = 4 * Y + 2 * Z := by rw [hr, hY, hZ, show 2 * (2 * X + k) = 4 * X + 2 * k by omega, Nat.add_mul, Nat.mul_assoc, Nat.mul_assoc]
  have e2 : (2 * r + 2) * T = 4 * Y + 2 * Z + 2 * T := by rw [Nat.add_mul, e1]
  have e3 : 4 * D * T = 4 * E := by rw [hE, Nat.mul_assoc]
  have e4 : 4 * E * q = 4 * Y := by rw [hE, hY, hX, Nat.mul_assoc, Nat.mul_assoc, Nat.mul_assoc, Nat.mul_comm T q]
  rw [e1] at h1
  rw [e2] at h2
  rw [e3]
  have hkE : Z + T ≤ 2 * E := by
    rw [hZ, hE, show k * T + T = (k + 1) * T by rw [Nat.add_mul, Nat.one_mul], ← Nat.mul_assoc]
    exact Nat.mul_le_mul_right _ (by omega)
  have hA : A = (A - 4 * Y) + 4 * E * q := by rw [e4]; omega
  have hv : A - 4 * Y < 4 * E := by omega
  have hEp : 0 < 4 * E := by omega
  have g1 : A / (4 * E) = q := by
    rw [hA, Nat.add_mul_div_left _ _ hEp, Nat.div_eq_of_lt hv]; omega
  have g2 : A % (4 * E) = A - 4 * Y := by
    rw [Nat.mod_def, g1, e4]
  rw [g1, g2]
  by_cases hk : D ≤ k
  · have hZE : E ≤ Z := by rw [hZ, hE]; exact Nat.mul_le_mul_right _ hk
    rw [if_pos (.inl (by omega)), if_pos (.inl (by omega))]
  · have hZE : Z + T ≤ E := by
      rw [hZ, hE, show k * T + T = (k + 1) * T by rw [Nat.add_mul, Nat.one_mul]]
      exact Nat.mul_le_mul_right _ (by omega)
    rw [if_neg (by omega), if_neg (by omega)]

theorem log2_unique {n k : Nat} (h1 : 2 ^ k ≤ n) (h2 : n < 2 ^ (k + 1)) : n.log2 = k := by
  have h0 : n ≠ 0 := by have : 0 < 2 ^ k := Nat.pow_pos (by omega); omega
  have a1 := lt_two_log n
  have a2 := log_le h0
  have b1 : k < n.log2 + 1 := (Nat.pow_lt_pow_iff_right (by omega)).1 (Nat.lt_of_le_of_lt h1 a1)
  have b2 : n.log2 < k + 1 := (Nat.pow_lt_pow_iff_right (by omega)).1 (Nat.lt_of_le_of_lt a2 h2)
  omega

theorem between_rung (r t A : Nat) (i : Int) (h1 : 2 * r * 2 ^ t < A) (h2 : A < (2 * r + 2) * 2 ^ t) (hb : 2 ^ 53 ≤ r) : rawRung f64 A (i - t) = rawRung f64 (2 * r + 1) i := by
  have ha0 : 2 * r + 1 ≠ 0 := by omega
  have hA0 : A ≠ 0 := by omega
  obtain ⟨L, hL⟩ : ∃ L, (2 * r + 1).log2 = L := ⟨_, rfl⟩
  have l1 := lt_two_log (2 * r + 1)
  have l2 := log_le ha0
  have l3 := log2_ge (n := 2 * r + 1) (k := 54) (by omega)
  rw [hL] at l1 l2 l3
  have hev : ∃ P, 2 ^ L = 2 * P := ⟨2 ^ (L - 1), by rw [show L = 1 + (L - 1) by omega, Nat.pow_add]; simp⟩
  obtain ⟨P, hP⟩ := hev
  have hT : 0 < 2 ^ t := Nat.pow_pos (by omega)
  have hLA : A.log2 = L + t := by
    apply log2_unique
    · rw [Nat.pow_add]
      exact Nat.le_of_lt (Nat.lt_of_le_of_lt (Nat.mul_le_mul_right _ (by omega)) h1)
    · rw [show L + t + 1 = (L + 1) + t by omega, Nat.pow_add]
      refine Nat.lt_of_lt_of_le h2 (Nat.mul_le_mul_right _ ?_)
      rw [Nat.pow_succ] at l1 ⊢
      omega
  obtain ⟨f1, _, _⟩ := rnd_facts hA0 (i - t)
  obtain ⟨g1, _, _⟩ := rnd_facts ha0 i
  have hpl : plc A (i - t) = plc (2 * r + 1) i := by
    unfold plc
    rw [hLA, hL]
    congr 1
    omega
  rw [f1, g1, hpl]
  congr 1
  have hq : i + L - 52 ≤ plc (2 * r + 1) i := by
    unfold plc
    rw [hL]
    exact Int.le_max_left _ _
  generalize plc (2 * r + 1) i = q at *
  unfold rnd
  rw [show (i - (t : Int) - q).toNat = 0 by omega, show (i - q).toNat = 0 by omega, Nat.pow_zero, Nat.mul_one, Nat.mul_one]
  rw [show (q - (i - (t : Int))).toNat = (q - i).toNat + t by omega]
  exact rne_odd r t _ A (by omega) h1 h2

def IsRt (n r : Nat) : Prop := r * r ≤ n ∧ n < (r + 1) * (r + 1)

theorem sq_lt {a b : Nat} (h : a * a < b * b) : a < b := by
  rcases Nat.lt_or_ge a b with h1 | h1
  · exact h1
  · have := Nat.mul_le_mul h1 h1
    omega

/-- The same square root, to more digits. -/
theorem stk_scale (n r t r' : Nat) (e : Int) (h : IsRt n r) (h' : IsRt (n * 2 ^ (2 * t)) r') (hb : 2 ^ 53 ≤ r) : rawRung f64 (stk (n * 2 ^ (2 * t)) r') (e - t) = rawRung f64 (stk n r) e := by
  obtain ⟨h1, h2⟩ := h
  obtain ⟨h3, h4⟩ := h'
  have hT : 0 < 2 ^ t := Nat.pow_pos (by omega)
  have hTT : 2 ^ (2 * t) = 2 ^ t * 2 ^ t := by rw [show 2 * t = t + t by omega, Nat.pow_add]
  have sq1 : (r * 2 ^ t) * (r * 2 ^ t) = r * r * (2 ^ t * 2 ^ t) := by
    rw [Nat.mul_assoc, Nat.mul_assoc, ← Nat.mul_assoc (2 ^ t) r, Nat.mul_comm (2 ^ t) r, Nat.mul_assoc]
  have sq2 : ((r + 1) * 2 ^ t) * ((r + 1) * 2 ^ t) = (r + 1) * (r + 1) * (2 ^ t * 2 ^ t) := by
    rw [Nat.mul_assoc, Nat.mul_assoc (r + 1) (r + 1), ← Nat.mul_assoc (2 ^ t) (r + 1), Nat.mul_comm (2 ^ t) (r + 1), Nat.mul_assoc]
  rw [hTT] at h3 h4 ⊢
  have lo : r * 2 ^ t ≤ r' := by
    have : (r * 2 ^ t) * (r * 2 ^ t) < (r' + 1) * (r' + 1) := by
      rw [sq1]
      exact Nat.lt_of_le_of_lt (Nat.mul_le_mul_right _ h1) h4
    have := sq_lt this
    omega
  have hi : r' < (r + 1) * 2 ^ t := by
    apply sq_lt
    rw [sq2]
    exact Nat.lt_of_le_of_lt h3 (Nat.mul_lt_mul_of_pos_right h2 (Nat.mul_pos hT hT))
  by_cases he : r * r = n
  · have hr' : r' = r * 2 ^ t := by
      have : ¬ r * 2 ^ t < r' := by
        intro hlt
        have h5 : (r * 2 ^ t) * (r * 2 ^ t) < r' * r' := Nat.mul_lt_mul_of_lt_of_le hlt (Nat.le_of_lt hlt) (by omega)
        rw [sq1, he] at h5
        omega
      omega
    have he' : r' * r' = n * (2 ^ t * 2 ^ t) := by rw [hr', sq1, he]
    rw [stk_eq he, stk_eq he', hr', ← Nat.mul_assoc]
    exact rawRung_shift f64 _ _ _
  · rw [stk_ne he]
    refine between_rung r t _ e ?_ ?_ hb
    · by_cases he' : r' * r' = n * (2 ^ t * 2 ^ t)
      · rw [stk_eq he']
        have : r * 2 ^ t < r' := by
          rcases Nat.lt_or_ge (r * 2 ^ t) r' with h5 | h5
          · exact h5
          · have h6 : r' = r * 2 ^ t := by omega
            rw [h6, sq1] at he'
            exact absurd (Nat.eq_of_mul_eq_mul_right (Nat.mul_pos hT hT) he') he
        rw [Nat.mul_assoc]
        omega
      · rw [stk_ne he', Nat.mul_assoc]
        omega
    · have h5 := stk_le (n * (2 ^ t * 2 ^ t)) r'
      have h6 : (2 * r + 2) * 2 ^ t = 2 * ((r + 1) * 2 ^ t) := by
        rw [show 2 * r + 2 = 2 * (r + 1) by omega, Nat.mul_assoc]
      omega

/-- Two square roots of the same number, to any digits, are rounded alike. -/
theorem root_same {w a1 a2 r1 r2 : Nat} {x e1 e2 : Int} (h1 : 2 * e1 = x - a1) (h2 : 2 * e2 = x - a2) (i1 : IsRt (w * 2 ^ a1) r1) (i2 : IsRt (w * 2 ^ a2) r2) (b1 : 2 ^ 53 ≤ r1) (b2 : 2 ^ 53 ≤ r2) :
    rawRung f64 (stk (w * 2 ^ a1) r1) (e1 - 1) = rawRung f64 (stk (w * 2 ^ a2) r2) (e2 - 1) := by
  rcases Nat.le_total a1 a2 with h | h
  · obtain ⟨t, ht⟩ : ∃ t, a2 = a1 + 2 * t := ⟨(a2 - a1) / 2, by omega⟩
    subst ht
    rw [show e2 - 1 = (e1 - 1) - t by omega]
    rw [Nat.pow_add, ← Nat.mul_assoc] at i2 ⊢
    exact (stk_scale _ r1 t r2 (e1 - 1) i1 i2 b1).symm
  · obtain ⟨t, ht⟩ : ∃ t, a1 = a2 + 2 * t := ⟨(a1 - a2) / 2, by omega⟩
    subst ht
    rw [show e1 - 1 = (e2 - 1) - t by omega]
    rw [Nat.pow_add, ← Nat.mul_assoc] at i1 ⊢
    exact stk_scale _ r2 t r1 (e2 - 1) i2 i1 b2

theorem rootFrom_ok (n : Nat) : ∀ k r, r * r ≤ n → n < (r + 2 ^ k) * (r + 2 ^ k) → IsRt n (Datum.rootFrom n k r)
  | 0, r, h1, h2 => ⟨h1, h2⟩
  | k + 1, r, h1, h2 => by
    unfold Datum.rootFrom
    have e : (1 <<< k : Nat) = 2 ^ k := Nat.one_shiftLeft k
    simp only [e]
    split
    · refine rootFrom_ok n k _ (by assumption) ?_
      rw [show r + 2 ^ k + 2 ^ k = r + 2 ^ (k + 1) by rw [Nat.pow_succ]; omega]
      exact h2
    · exact rootFrom_ok n k _ h1 (by omega)

/-- What the library's root of a float is. -/
theorem sqrt_fw {m : Nat} {i : Int} (h : Fit m i) (hm : m ≠ 0) : ∃ (c r : Nat) (e : Int), f64.sqrt (fw false m i) = some (fw false (stk (m * 2 ^ c) r) (e - 1)) ∧ 2 * e = i - c ∧ IsRt (m * 2 ^ c) r ∧ 2 ^ 53 ≤ r := by
  obtain ⟨k, hr, hC⟩ := read_fw false h
  have hM : m * 2 ^ k ≠ 0 := by
    have : 0 < 2 ^ k := Nat.pow_pos (by omega)
    exact Nat.mul_ne_zero hm (by omega)
  obtain ⟨M, hMe⟩ : ∃ M, M = m * 2 ^ k := ⟨_, rfl⟩
  obtain ⟨j, hj⟩ : ∃ j : Int, j = i - k := ⟨_, rfl⟩
  rw [← hMe] at hM hr hC
  rw [← hj] at hr hC
  obtain ⟨more, hmo⟩ : ∃ a, a = 2 * 54 - M.log2 + ((j - ((2 * 54 - M.log2 : Nat) : Int)) % 2).toNat := ⟨_, rfl⟩
  obtain ⟨n, hn⟩ : ∃ n, n = M * 2 ^ more := ⟨_, rfl⟩
  obtain ⟨r, hrt⟩ : ∃ r, r = Datum.rootFrom n (n.log2 / 2 + 1) 0 := ⟨_, rfl⟩
  have hlog : M.log2 ≤ 52 := by
    have h1 := hC.2.1
    rw [f64_bin] at h1
    have h2 := log_le hM
    have h3 : M.log2 < 53 := (Nat.pow_lt_pow_iff_right (a := 2) (by omega)).1 (by omega)
    omega
  have hroot : f64.sqrt (fw false m i) = some (fw false (stk n r) ((j - more) / 2 - 1)) := by
    unfold Format.sqrt
    rw [hr, f64_fb]
    unfold Datum.root
    simp only
    rw [if_neg hM, if_neg (by decide)]
    simp only [Nat.shiftLeft_eq, ← hmo, ← hn, ← hrt]
    show some (f64.nearest false _ _) = _
    rw [nearest_rung]
    rfl
  have hir : IsRt n r := by
    rw [hrt]
    refine rootFrom_ok n _ 0 (by omega) ?_
    rw [Nat.zero_add, ← Nat.pow_add]
    refine Nat.lt_of_lt_of_le (lt_two_log n) (Nat.pow_le_pow_right (by omega) (by omega))
  have hbig : 2 ^ 53 ≤ r := by
    have h1 : 2 ^ 108 ≤ n := by
      rw [hn]
      refine Nat.le_trans (m := 2 ^ M.log2 * 2 ^ more) ?_ (Nat.mul_le_mul_right _ (log_le hM))
      rw [← Nat.pow_add]
      exact Nat.pow_le_pow_right (by omega) (by omega)
    have h2 : 2 ^ 54 < r + 1 := by
      apply sq_lt
      rw [← Nat.pow_add]
      exact Nat.lt_of_le_of_lt h1 hir.2
    omega
  have hne : n = m * 2 ^ (k + more) := by rw [hn, hMe, Nat.mul_assoc, ← Nat.pow_add]
  refine ⟨k + more, r, (j - more) / 2, by rw [← hne]; exact hroot, ?_, by rw [← hne]; exact hir, hbig⟩
  have : (j - (more : Int)) % 2 = 0 := by rw [hmo]; omega
  omega

/-- A root's size: less than 2^B where the number is less than 2^(2B). -/
theorem stk_lt {n r : Nat} {e : Int} {B : Nat} (h : IsRt n r) (hB : e ≤ B) (hlt : n < 2 ^ (2 * (B - e).toNat)) : stk n r < 2 ^ ((B : Int) - (e - 1)).toNat := by
  have h1 : r < 2 ^ (B - e).toNat := by
    apply sq_lt
    rw [← Nat.pow_add, show (B - e).toNat + (B - e).toNat = 2 * (B - e).toNat by omega]
    exact Nat.lt_of_le_of_lt h.1 hlt
  have h2 := stk_le n r
  rw [show ((B : Int) - (e - 1)).toNat = (B - e).toNat + 1 by omega, Nat.pow_succ]
  omega
theorem rungs_lt (f : Format) {a : Nat} {q : Int} {B : Nat} (hq : q ≤ B) (h : a < 2 ^ ((B : Int) - q).toNat) : rawRung f a q ≤ rawRung f 1 B := by
  refine rawRung_mono f (c := q) (Int.le_refl _) hq ?_
  rw [show (q - q).toNat = 0 by omega]
  omega

open Go Go.RowKit Ieee

theorem fw_0 (i : Int) : fw false 0 i = 0 := by rw [fw_zero]; rfl
theorem fit_0 : Fit 0 0 := Fit.of (by omega) (by omega) (by omega)
theorem vz_sign {s : Bool} {m : Nat} {i d : Int} : vz s m i d < 0 ↔ s = true ∧ m ≠ 0 := by
  unfold vz
  have hp : 0 < 2 ^ (i - d).toNat := Nat.pow_pos (by omega)
  cases s
  · rw [signed_false]
    constructor
    · intro h; omega
    · intro h; cases h.1
  · rw [signed_true]
    constructor
    · intro h
      refine ⟨rfl, ?_⟩
      rintro rfl
      rw [Nat.zero_mul] at h
      omega
    · intro h
      have : 0 < m * 2 ^ (i - d).toNat := Nat.mul_pos (by have := h.2; omega) hp
      omega
/-- A finite float is less than 0 just if it has this sign and is no zero. -/
theorem lt0_fw (s : Bool) {m : Nat} {i : Int} (h : Fit m i) : (FloatKind.f64.format.order (fw s m i) 0 == some .lt) = (s && decide (m ≠ 0)) := by
  obtain ⟨d, hd1, hd2⟩ : ∃ d : Int, d ≤ i ∧ d ≤ 0 := ⟨min i 0, by omega, by omega⟩
  have h1 := order_fw s false h fit_0 hd1 hd2
  rw [fw_0] at h1
  rw [h1]
  have h2 : vz false 0 0 d = 0 := vz_zero.2 rfl
  rw [h2, compare_int]
  by_cases hl : vz s m i d < 0
  · rw [if_pos hl]
    obtain ⟨a, b⟩ := vz_sign.1 hl
    rw [a]; simp [b]
  · rw [if_neg hl]
    have h3 : (s && decide (m ≠ 0)) = false := by
      cases s
      · rfl
      · by_cases hm : m = 0
        · simp [hm]
        · exact absurd (vz_sign.2 ⟨rfl, hm⟩) hl
    rw [h3]
    split <;> rfl

/-- The library's root. -/
def sq (x : Nat) : Nat := (f64.sqrt x).getD 0
theorem sqrt_zero (s : Bool) (i : Int) : f64.sqrt (fw s 0 i) = some (fw s 0 i) := by
  have h0 : Fit 0 0 := fit_0
  obtain ⟨k, hr, _⟩ := read_fw s h0
  rw [fw_zero s i, ← fw_zero s 0]
  unfold Format.sqrt
  rw [hr, Nat.zero_mul]
  unfold Datum.root
  simp only [if_true]
  show some (f64.nearest s 0 _) = _
  rw [nearest_rung, rungOf_zero, fw_zero]
theorem sqrt_some {s : Bool} {m : Nat} {i : Int} (h : Fit m i) (hs : (s && decide (m ≠ 0)) = false) : f64.sqrt (fw s m i) = some (sq (fw s m i)) := by
  by_cases hm : m = 0
  · subst hm
    have := sqrt_zero s i
    unfold sq
    rw [this]; rfl
  · obtain rfl : s = false := by cases s <;> simp_all
    obtain ⟨c, r, e, h1, _⟩ := sqrt_fw h hm
    unfold sq
    rw [h1]; rfl
/-- The root of a float, and the code. -/
def rtF (x : Nat) : Nat × Int := if isF .f64 x = false then (0, 1) else if (FloatKind.f64.format.order x 0 == some .lt) = true then (0, 2) else (sq x, 0)
theorem rtF_no {x : Nat} (h : isF .f64 x = false) : rtF x = (0, 1) := by unfold rtF; rw [if_pos h]
theorem rtF_lt {x : Nat} (h : isF .f64 x = true) (h2 : (FloatKind.f64.format.order x 0 == some .lt) = true) : rtF x = (0, 2) := by unfold rtF; rw [if_neg (by rw [h]; decide), if_pos h2]
theorem rtF_yes {x : Nat} (h : isF .f64 x = true) (h2 : (FloatKind.f64.format.order x 0 == some .lt) = false) : rtF x = (sq x, 0) := by unfold rtF; rw [if_neg (by rw [h]; decide), if_neg (by rw [h2]; decide)]

theorem call_sqrt {x y : Nat} (h : f64.sqrt x = some y) (W : World) : (callFunc 55 #[.float .f64 x]).run Tryz.prog W = .ok (.value (.float .f64 y)) W := by
  rw [run_callFunc_extern Tryz.func55 (by kernel_rfl) (by kernel_rfl) (by kernel_rfl) (e := Extern.MathSqrt.sqrt) (by kernel_rfl)]
  have h' : FloatKind.f64.format.sqrt x = some y := h
  have e : Extern.MathSqrt.sqrt #[.float .f64 x] = pure (.float .f64 y) := by
    show (match FloatKind.f64.format.sqrt x with
      | some r => pure (Value.float .f64 r)
      | none => do pure (Value.float .f64 (← choose (.nanBits .f64 x x)))) = _
    rw [h']
  rw [e]
  rfl
set_option maxHeartbeats 400000 in
theorem iSqrt {x y : Nat} (h : f64.sqrt x = some y) (w : World) : Calls Tryz.prog 33 #[.float .f64 x] w fun e w' => e = .returned (.float .f64 y) ∧ w = w' := by
  have hc := fun W => call_sqrt h W
  clear h
  go_enter Tryz.func33, Tryz.ntmps33
  go_wp2
  go_ret
  exact ⟨rfl, rfl⟩

set_option maxHeartbeats 800000 in
theorem iRootOfFloat (x : Nat) (hx : x < 2 ^ 64) (w : World) : Calls Tryz.prog 6 #[.float .f64 x] w fun e w' => e = .returned (.tuple #[.float .f64 (rtF x).1, .int .i64 (rtF x).2]) ∧ w = w' := by
  have HF := Lib.hid fun W => isFiniteFloat_any x W
  cases hf : isF .f64 x
  · rw [hf] at HF
    rw [rtF_no hf]
    clear hx hf
    go_enter Tryz.func6, Tryz.ntmps6
    go_wp2_with (go_at_call 32; refine (HF.out _).mono ?_; rintro e w' ⟨rfl, rfl⟩)
    go_ret2
    exact ⟨rfl, rfl⟩
  · rw [hf] at HF
    cases hl : (FloatKind.f64.format.order x 0 == some .lt)
    · rw [rtF_yes hf hl]
      have HS := Lib.hid (show ∀ W, Calls Tryz.prog 33 #[.float .f64 x] W fun e w' => e = .returned (.float .f64 (sq x)) ∧ W = w' from fun W => by
        obtain ⟨s, m, i, he, hF, hC⟩ := fin_fw hx hf
        refine iSqrt ?_ W
        rw [he]
        refine sqrt_some hF ?_
        rw [← lt0_fw s hF, ← he]
        exact hl)
      obtain ⟨y, hy⟩ : ∃ y, sq x = y := ⟨_, rfl⟩
      rw [hy] at HS ⊢
      clear hx hf hy
      go_enter Tryz.func6, Tryz.ntmps6
      go_wp2_with (first | (go_at_call 32; refine (HF.out _).mono ?_; rintro e w' ⟨rfl, rfl⟩) | (go_at_call 33; refine (HS.out _).mono ?_; rintro e w' ⟨rfl, rfl⟩))
      go_ret2
      exact ⟨rfl, rfl⟩
    · rw [rtF_lt hf hl]
      clear hx hf
      go_enter Tryz.func6, Tryz.ntmps6
      go_wp2_with (go_at_call 32; refine (HF.out _).mono ?_; rintro e w' ⟨rfl, rfl⟩)
      go_ret2
      exact ⟨rfl, rfl⟩

open Go Go.RowKit Ieee

theorem rung_total (f : Format) (m n : Nat) (i j : Int) : (∃ c, c ≤ i ∧ c ≤ j ∧ m * 2 ^ (i - c).toNat ≤ n * 2 ^ (j - c).toNat) ∨ (∃ c, c ≤ i ∧ c ≤ j ∧ n * 2 ^ (j - c).toNat ≤ m * 2 ^ (i - c).toNat) := by
  rcases Nat.le_total (m * 2 ^ (i - min i j).toNat) (n * 2 ^ (j - min i j).toNat) with h | h
  · exact .inl ⟨min i j, by omega, by omega, h⟩
  · exact .inr ⟨min i j, by omega, by omega, h⟩
theorem r64 : rawRung f64 1 64 < 4899916394579099648 := by decide +kernel
theorem r65 : rawRung f64 1 65 = 4899916394579099648 := by decide +kernel
theorem r65N : rawRung f32 1 65 < 0x7f800000 := by decide +kernel

theorem fin_narrow {r : Nat} (h : r < 0x7f800000) : (f32.read (f32.word false r)).isInfinity = false := by
  have hw : f32.word false r = r := by unfold Format.word; rw [if_neg (by decide)]
  rw [hw]
  simp only [Format.read, f32_sw, f32_bin, f32_inf]
  rw [show r % 2 ^ 31 = r by omega]
  split
  · rfl
  · first | rfl | (rw [if_pos h]; rfl)
theorem num32 {r : Nat} (h : r < 0x7f800000) : ∃ m i, FloatKind.f32.format.read r = .number false m i := by
  have h2 : (r / 2 ^ 31 % 2 == 1) = false := by
    rw [show r / 2 ^ 31 = 0 by omega]; rfl
  show ∃ m i, f32.read r = .number false m i
  simp only [Format.read, f32_sw, f32_bin, f32_inf, h2]
  rw [show r % 2 ^ 31 = r by omega]
  split
  · exact ⟨_, _, rfl⟩
  · first | exact ⟨_, _, rfl⟩ | (rw [if_pos h]; exact ⟨_, _, rfl⟩)
/-- A float64 of at most 2^64, made narrow. -/
theorem narrow_some {a : Nat} {q : Int} (h : rawRung f64 a q ≤ rawRung f64 1 64) : ∃ y, floatToFloatBits .f64 (fw false a q) .f32 = some y ∧ y < 0x7f800000 := by
  have h64 := r64
  have hlt : rawRung f64 a q < 0x7ff0000000000000 := by omega
  obtain ⟨M, j, hC, hM⟩ := rung_number hlt
  have hfw : fw false a q = f64.word false (rawRung f64 M j) := by
    unfold fw rungOf
    rw [hM, Nat.min_eq_left (by omega)]
  have hrd : f64.read (fw false a q) = .number false M j := by
    rw [hfw]
    exact read_word hC (by rw [hM]; exact hlt)
  have hN : rawRung f32 M j < 0x7f800000 := by
    rcases rung_total f64 M 1 j 65 with ⟨c, c1, c2, c3⟩ | ⟨c, c1, c2, c3⟩
    · have := rawRung_mono f32 c1 c2 c3
      have := r65N
      omega
    · have := rawRung_mono f64 c2 c1 c3
      have := r65
      omega
  have he : FloatKind.f32.encode (.number false M j) = f32.word false (rawRung f32 M j) := by
    show f32.nearest false M j = _
    rw [nearest_eq, f32_inf, Nat.min_eq_left (by omega)]
  refine ⟨f32.word false (rawRung f32 M j), ?_, ?_⟩
  · unfold floatToFloatBits
    rw [if_neg (by decide)]
    have h4 : FloatKind.f64.decode (fw false a q) = _ := hrd
    rw [h4]
    simp only
    rw [he]
    have h5 : (FloatKind.f32.decode (f32.word false (rawRung f32 M j))).isInfinity = false := fin_narrow hN
    rw [h5]
    rfl
  · unfold Format.word
    rw [if_neg (by decide)]
    exact hN
theorem narrow_zero (s : Bool) (i : Int) : ∃ y, floatToFloatBits .f64 (fw s 0 i) .f32 = some y ∧ ∃ t m j, FloatKind.f32.format.read y = .number t m j := by
  rw [fw_zero]
  cases s
  · exact ⟨0, by decide +kernel, false, 0, -149, by decide +kernel⟩
  · exact ⟨2 ^ 31, by decide +kernel, true, 0, -149, by decide +kernel⟩

/-- A float32 made wide: a number as it is, and what is not finite not finite. -/
theorem conv_wide (t : TypeId) (ht : (Tryz.prog.underlying t).isSome = true) (x : Nat) (W : World) : ∃ y n : Nat, (convert t 24 (.float .f32 x)).run Tryz.prog W = .ok (.float .f64 y) (W.drewN n) ∧ y < 2 ^ 64 ∧
    ((∃ s m i, FloatKind.f32.format.read x = .number s m i ∧ m < 2 ^ 24 ∧ -149 ≤ i ∧ i ≤ 104 ∧ y = fw s m i ∧ n = 0) ∨ ((∀ s m i, FloatKind.f32.format.read x ≠ .number s m i) ∧ isF .f64 y = false)) := by
  cases e : FloatKind.f32.format.read x with
  | number s m i =>
    obtain ⟨h1, h2, h3⟩ := read_fin_f32 e
    have hF : Fit m i := Fit.of (by omega) (by omega) (by omega)
    have he : FloatKind.f64.encode (.number s m i) = fw s m i := by
      show f64.nearest s m i = _
      rw [nearest_rung]; rfl
    have hni : (FloatKind.f64.decode (fw s m i)).isInfinity = false := by
      obtain ⟨k, hr, _⟩ := read_fw s hF
      have h2 : FloatKind.f64.decode (fw s m i) = _ := hr
      rw [h2]; rfl
    refine ⟨fw s m i, 0, ?_, fw_lt s m i, .inl ⟨s, m, i, rfl, h1, h2, h3, rfl, rfl⟩⟩
    refine run_convert_float_float W _ _ _ _ _ _ ht Tryz.underlying24 ?_
    unfold floatToFloatBits
    rw [if_neg (by decide)]
    have h2 : FloatKind.f32.decode x = _ := e
    rw [h2]
    simp only
    rw [he, hni]
    rfl
  | infinity s =>
    have he : FloatKind.f64.encode (.infinity s) = f64.word s 0x7ff0000000000000 := by
      show f64.word s f64.infRung = _
      rw [f64_inf]
    refine ⟨f64.word s 0x7ff0000000000000, 0, ?_, by cases s <;> decide +kernel, .inr ⟨(fun _ _ _ h => by cases h), ?_⟩⟩
    · refine run_convert_float_float W _ _ _ _ _ _ ht Tryz.underlying24 ?_
      unfold floatToFloatBits
      rw [if_neg (by decide)]
      have h2 : FloatKind.f32.decode x = _ := e
      rw [h2]
      simp only
      rw [he]
    · unfold isF
      have h2 : FloatKind.f64.format.read (f64.word s 0x7ff0000000000000) = _ := read_inf s
      rw [h2]
  | nan s f =>
    obtain ⟨u, hu⟩ := Option.isSome_iff_exists.1 ht
    have h2 : FloatKind.f32.decode x = .nan s f := e
    refine ⟨(Question.nanConv .f64 x).cut (W.tape W.drawn (.nanConv .f64 x)), 1, ?_, ?_, .inr ⟨(fun _ _ _ h => by cases h), ?_⟩⟩
    · cases u <;> simp [convert, run_underlying hu, run_underlying Tryz.underlying24, Conv.floatToFloat, h2, Question.forced, World.drew_is_drewN]
    · exact nan_cut_wf x x _
    · exact isN_not_isF (nan_cut_f64 x x _)

/-- The narrow float next to a wide one. -/
def nr (v : Nat) : Nat := (floatToFloatBits .f64 v .f32).getD 0
theorem nr_eq {v y : Nat} (h : floatToFloatBits .f64 v .f32 = some y) (hn : ∃ t m j, FloatKind.f32.format.read y = .number t m j) : floatToFloatBits .f64 v .f32 = some (nr v) ∧ ∃ t m j, FloatKind.f32.format.read (nr v) = .number t m j := by
  have e : nr v = y := by unfold nr; rw [h]; rfl
  rw [e]
  exact ⟨h, hn⟩
/-- The narrow root of a narrow number is drawn nowhere. -/
theorem nr_root {s : Bool} {m : Nat} {i : Int} (h1 : m < 2 ^ 24) (h2 : -149 ≤ i) (h3 : i ≤ 104) : floatToFloatBits .f64 (rtF (fw s m i)).1 .f32 = some (nr (rtF (fw s m i)).1) ∧ ∃ t m' j, FloatKind.f32.format.read (nr (rtF (fw s m i)).1) = .number t m' j := by
  have hF : Fit m i := Fit.of (by omega) (by omega) (by omega)
  by_cases hm : m = 0
  · subst hm
    have hl := lt0_fw s hF
    rw [show (s && decide ((0 : Nat) ≠ 0)) = false by simp] at hl
    rw [rtF_yes (isF_fw s hF) hl]
    have h4 : sq (fw s 0 i) = fw s 0 i := by unfold sq; rw [sqrt_zero]; rfl
    simp only [h4]
    obtain ⟨y, hy, hn⟩ := narrow_zero s i
    exact nr_eq hy hn
  · cases s
    · rw [rtF_yes (isF_fw false hF) (by rw [lt0_fw false hF]; rfl)]
      obtain ⟨c, r, e, e1, e2, e3, e4⟩ := sqrt_fw hF hm
      have h4 : sq (fw false m i) = fw false (stk (m * 2 ^ c) r) (e - 1) := by unfold sq; rw [e1]; rfl
      simp only [h4]
      have hc : (64 : Int) ≥ e := by
        rcases Int.lt_or_le 64 e with hgt | hle
        · exfalso
          have : i > 128 := by omega
          omega
        · exact hle
      have hlt : m * 2 ^ c < 2 ^ (2 * ((64 : Nat) - e).toNat) := by
        refine Nat.lt_of_lt_of_le (Nat.mul_lt_mul_of_pos_right h1 (Nat.pow_pos (by omega))) ?_
        rw [← Nat.pow_add]
        exact Nat.pow_le_pow_right (by omega) (by omega)
      have hs := stk_lt (B := 64) e3 (by omega) hlt
      obtain ⟨y, hy, hn⟩ := narrow_some (rungs_lt f64 (B := 64) (q := e - 1) (by omega) hs)
      obtain ⟨m', j, hm'⟩ := num32 hn
      exact nr_eq hy ⟨false, m', j, hm'⟩
    · have hl := lt0_fw true hF
      rw [show (true && decide (m ≠ 0)) = true by simp [hm]] at hl
      rw [rtF_lt (isF_fw true hF) hl]
      exact nr_eq (y := 0) (by decide +kernel) ⟨false, 0, -149, by decide +kernel⟩

/-- The narrow root, and the code. -/
def rtN (x : Nat) : Nat × Int := match FloatKind.f32.format.read x with
  | .number s m i => (nr (rtF (fw s m i)).1, (rtF (fw s m i)).2)
  | _ => (0, 1)
theorem rtN_num {x : Nat} {s : Bool} {m : Nat} {i : Int} (h : FloatKind.f32.format.read x = .number s m i) : rtN x = (nr (rtF (fw s m i)).1, (rtF (fw s m i)).2) := by unfold rtN; rw [h]
theorem rtN_no {x : Nat} (h : ∀ s m i, FloatKind.f32.format.read x ≠ .number s m i) : rtN x = (0, 1) := by
  unfold rtN
  split
  · rename_i s m i e; exact absurd e (h s m i)
  · rfl

set_option maxHeartbeats 800000 in
theorem iRootOfFloatNarrow (x : Nat) (w : World) : Calls Tryz.prog 10 #[.float .f32 x] w fun e w' => ∃ n, e = .returned (.tuple #[.float .f32 (rtN x).1, .int .i64 (rtN x).2]) ∧ w' = w.drewN n := by
  obtain ⟨y, n, h1, h2, h3⟩ := conv_wide 29 (by rw [Tryz.underlying29]; rfl) x w
  have HR := Lib.hid (iRootOfFloat y h2)
  have hcv : ∀ W : World, (convert 24 29 (.float .f64 (rtF y).1)).run Tryz.prog W = .ok (.float .f32 (rtN x).1) W := fun W => by
    rcases h3 with ⟨s, m, i, e1, e2, e3, e4, e5, _⟩ | ⟨e1, e2⟩
    · rw [rtN_num e1, e5]
      exact run_convert_float_float W _ _ _ _ _ _ (by rw [Tryz.underlying24]; rfl) Tryz.underlying29 (nr_root e2 e3 e4).1
    · rw [rtN_no e1, rtF_no e2]
      exact run_convert_float_float W _ _ _ _ _ _ (by rw [Tryz.underlying24]; rfl) Tryz.underlying29 (by decide +kernel)
  have hc : (rtF y).2 = (rtN x).2 := by
    rcases h3 with ⟨s, m, i, e1, e2, e3, e4, e5, _⟩ | ⟨e1, e2⟩
    · rw [rtN_num e1, e5]
    · rw [rtN_no e1, rtF_no e2]
  obtain ⟨⟨a, b⟩, hab⟩ : ∃ r, rtF y = r := ⟨_, rfl⟩
  obtain ⟨⟨c, d⟩, hcd⟩ : ∃ r, rtN x = r := ⟨_, rfl⟩
  rw [hab] at HR hcv hc
  rw [hcd] at hcv hc ⊢
  simp only at hcv hc
  subst hc
  clear hab hcd h3 h2
  go_enter Tryz.func10, Tryz.ntmps10
  go_wp2_with (go_at_call 6; refine (HR.out _).mono ?_; rintro e w' ⟨rfl, rfl⟩)
  go_ret2
  exact ⟨_, rfl, rfl⟩
end Go.Proofs.YtgppagmejhgmaaaGreatDoor
