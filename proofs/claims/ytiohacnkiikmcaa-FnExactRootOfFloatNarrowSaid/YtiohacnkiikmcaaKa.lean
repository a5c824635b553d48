/-
  Square roots of floats: maths. The nearest float of a square root that is told by one more bit is the same however many digits the root was taken to. Conditions: none.
-/
import Derived.Test.YtiohacnkiikmcaaGn
namespace Go.Proofs.Ytiohacnkiikmcaa
set_option linter.unusedVariables false
open Go Go.RowKit Ieee

/-- A root with one more bit, which tells whether it is the whole root. -/
def stk (n r : Nat) : Nat := 2 * r + (r * r != n).toNat
theorem stk_eq {n r : Nat} (h : r * r = n) : stk n r = 2 * r := by unfold stk; simp [h]
theorem stk_ne {n r : Nat} (h : r * r ≠ n) : stk n r = 2 * r + 1 := by unfold stk; simp [h]
theorem stk_le (n r : Nat) : stk n r ≤ 2 * r + 1 := by
  by_cases h : r * r = n
  · rw [stk_eq h]; omega
  · rw [stk_ne h]; omega

/-- A number strictly between two even ones, of which two bits and more are dropped, is rounded as the odd one between. -/
theorem rne_odd (r t d A : Nat) (hd : 2 ≤ d) (h1 : 2 * r * 2 ^ t < A) (h2 : A < (2 * r + 2) * 2 ^ t) : rne A (d + t) = rne (2 * r + 1) d := by
  obtain ⟨D, hD⟩ : ∃ D, 2 ^ d = 4 * D := ⟨2 ^ (d - 2), by
    have e : d = 2 + (d - 2) := by omega
    rw [e, Nat.pow_add]
    simp⟩
  have hp : 2 ^ (d + t) = 4 * D * 2 ^ t := by rw [Nat.pow_add, hD]
  have hT : 0 < 2 ^ t := Nat.pow_pos (by omega)
  have hDp : 0 < D := by have : 0 < 2 ^ d := Nat.pow_pos (by omega); omega
  unfold rne
  rw [hp, hD]
  generalize 2 ^ t = T at *
  clear hp hd hD
  have hqu := Nat.div_add_mod (2 * r + 1) (4 * D)
  have hu := Nat.mod_lt (2 * r + 1) (show 0 < 4 * D by omega)
  generalize hq : (2 * r + 1) / (4 * D) = q at *
  generalize hu' : (2 * r + 1) % (4 * D) = u at *
  rw [Nat.mul_assoc] at hqu
  obtain ⟨X, hX⟩ : ∃ X, X = D * q := ⟨_, rfl⟩
  rw [← hX] at hqu
  obtain ⟨k, rfl⟩ : ∃ k, u = 2 * k + 1 := ⟨u / 2, by omega⟩
  have hr : r = 2 * X + k := by omega
  obtain ⟨Y, hY⟩ : ∃ Y, Y = X * T := ⟨_, rfl⟩
  obtain ⟨Z, hZ⟩ : ∃ Z, Z = k * T := ⟨_, rfl⟩
  obtain ⟨E, hE⟩ : ∃ E, E = D * T := ⟨_, rfl⟩
  have e1 : 2 * r * T = 4 * Y + 2 * Z := by rw [hr, hY, hZ, show 2 * (2 * X + k) = 4 * X + 2 * k by omega, Nat.add_mul, Nat.mul_assoc, Nat.mul_assoc]
  have e2 : (2 * r + 2) * T = 4 * Y + 2 * Z + 2 * T := by rw [Nat.add_mul, e1]
  have e3 : 4 * D * T = 4 * E := by rw [hE, Nat.mul_assoc]
  have e4 : 4 * E * q = 4 * Y := by rw [hE, hY, hX, Nat.mul_assoc, Nat.mul_assoc, Nat.mul_assoc, Nat.mul_comm T q]
  rw [e1] at h1
  rw [e2] at h2
  rw [e3]
  have hkE : Z + T ≤ 2 * E := by
    rw [hZ, hE, show k * T + T = (k + 1) * T by rw [Nat.add_mul, Nat.one_mul], ← Nat.mul_assoc]
    exact Nat.mul_le_mul_right _ (by omega)
  have hA : A = (A - 4 * Y) + 4 * E * q := by rw [e4]; omega
  have hv : A - 4 * Y < 4 * E := by omega
  have hEp : 0 < 4 * E := by omega
  have g1 : A / (4 * E) = q := by
    rw [hA, Nat.add_mul_div_left _ _ hEp, Nat.div_eq_of_lt hv]; omega
  have g2 : A % (4 * E) = A - 4 * Y := by
    rw [Nat.mod_def, g1, e4]
  rw [g1, g2]
  by_cases hk : D ≤ k
  · have hZE : E ≤ Z := by rw [hZ, hE]; exact Nat.mul_le_mul_right _ hk
    rw [if_pos (.inl (by omega)), if_pos (.inl (by omega))]
  · have hZE : Z + T ≤ E := by
      rw [hZ, hE, show k * T + T = (k + 1) * T by rw [Nat.add_mul, Nat.one_mul]]
      exact Nat.mul_le_mul_right _ (by omega)
    rw [if_neg (by omega), if_neg (by omega)]

theorem log2_unique {n k : Nat} (h1 : 2 ^ k ≤ n) (h2 : n < 2 ^ (k + 1)) : n.log2 = k := by
  have h0 : n ≠ 0 := by have : 0 < 2 ^ k := Nat.pow_pos (by omega); omega
  have a1 := lt_two_log n
  have a2 := log_le h0
  have b1 : k < n.log2 + 1 := (Nat.pow_lt_pow_iff_right (by omega)).1 (Nat.lt_of_le_of_lt h1 a1)
  have b2 : n.log2 < k + 1 := (Nat.pow_lt_pow_iff_right (by omega)).1 (Nat.lt_of_le_of_lt a2 h2)
  omega

theorem between_rung (r t A : Nat) (i : Int) (h1 : 2 * r * 2 ^ t < A) (h2 : A < (2 * r + 2) * 2 ^ t) (hb : 2 ^ 53 ≤ r) : rawRung f64 A (i - t) = rawRung f64 (2 * r + 1) i := by
  have ha0 : 2 * r + 1 ≠ 0 := by omega
  have hA0 : A ≠ 0 := by omega
  obtain ⟨L, hL⟩ : ∃ L, (2 * r + 1).log2 = L := ⟨_, rfl⟩
  have l1 := lt_two_log (2 * r + 1)
  have l2 := log_le ha0
  have l3 := log2_ge (n := 2 * r + 1) (k := 54) (by omega)
  rw [hL] at l1 l2 l3
  have hev : ∃ P, 2 ^ L = 2 * P := ⟨2 ^ (L - 1), by rw [show L = 1 + (L - 1) by omega, Nat.pow_add]; simp⟩
  obtain ⟨P, hP⟩ := hev
  have hT : 0 < 2 ^ t := Nat.pow_pos (by omega)
  have hLA : A.log2 = L + t := by
    apply log2_unique
    · rw [Nat.pow_add]
      exact Nat.le_of_lt (Nat.lt_of_le_of_lt (Nat.mul_le_mul_right _ (by omega)) h1)
    · rw [show L + t + 1 = (L + 1) + t by omega, Nat.pow_add]
      refine Nat.lt_of_lt_of_le h2 (Nat.mul_le_mul_right _ ?_)
      rw [Nat.pow_succ] at l1 ⊢
      omega
  obtain ⟨f1, _, _⟩ := rnd_facts hA0 (i - t)
  obtain ⟨g1, _, _⟩ := rnd_facts ha0 i
  have hpl : plc A (i - t) = plc (2 * r + 1) i := by
    unfold plc
    rw [hLA, hL]
    congr 1
    omega
  rw [f1, g1, hpl]
  congr 1
  have hq : i + L - 52 ≤ plc (2 * r + 1) i := by
    unfold plc
    rw [hL]
    exact Int.le_max_left _ _
  generalize plc (2 * r + 1) i = q at *
  unfold rnd
  rw [show (i - (t : Int) - q).toNat = 0 by omega, show (i - q).toNat = 0 by omega, Nat.pow_zero, Nat.mul_one, Nat.mul_one]
  rw [show (q - (i - (t : Int))).toNat = (q - i).toNat + t by omega]
  exact rne_odd r t _ A (by omega) h1 h2

def IsRt (n r : Nat) : Prop := r * r ≤ n ∧ n < (r + 1) * (r + 1)

theorem sq_lt {a b : Nat} (h : a * a < b * b) : a < b := by
  rcases Nat.lt_or_ge a b with h1 | h1
  · exact h1
  · have := Nat.mul_le_mul h1 h1
    omega

/-- The same square root, to more digits. -/
theorem stk_scale (n r t r' : Nat) (e : Int) (h : IsRt n r) (h' : IsRt (n * 2 ^ (2 * t)) r') (hb : 2 ^ 53 ≤ r) : rawRung f64 (stk (n * 2 ^ (2 * t)) r') (e - t) = rawRung f64 (stk n r) e := by
  obtain ⟨h1, h2⟩ := h
  obtain ⟨h3, h4⟩ := h'
  have hT : 0 < 2 ^ t := Nat.pow_pos (by omega)
  have hTT : 2 ^ (2 * t) = 2 ^ t * 2 ^ t := by rw [show 2 * t = t + t by omega, Nat.pow_add]
  have sq1 : (r * 2 ^ t) * (r * 2 ^ t) = r * r * (2 ^ t * 2 ^ t) := by
    rw [Nat.mul_assoc, Nat.mul_assoc, ← Nat.mul_assoc (2 ^ t) r, Nat.mul_comm (2 ^ t) r, Nat.mul_assoc]
  have sq2 : ((r + 1) * 2 ^ t) * ((r + 1) * 2 ^ t) = (r + 1) * (r + 1) * (2 ^ t * 2 ^ t) := by
    rw [Nat.mul_assoc, Nat.mul_assoc (r + 1) (r + 1), ← Nat.mul_assoc (2 ^ t) (r + 1), Nat.mul_comm (2 ^ t) (r + 1), Nat.mul_assoc]
  rw [hTT] at h3 h4 ⊢
  have lo : r * 2 ^ t ≤ r' := by
    have : (r * 2 ^ t) * (r * 2 ^ t) < (r' + 1) * (r' + 1) := by
      rw [sq1]
      exact Nat.lt_of_le_of_lt (Nat.mul_le_mul_right _ h1) h4
    have := sq_lt this
    omega
  have hi : r' < (r + 1) * 2 ^ t := by
    apply sq_lt
    rw [sq2]
    exact Nat.lt_of_le_of_lt h3 (Nat.mul_lt_mul_of_pos_right h2 (Nat.mul_pos hT hT))
  by_cases he : r * r = n
  · have hr' : r' = r * 2 ^ t := by
      have : ¬ r * 2 ^ t < r' := by
        intro hlt
        have h5 : (r * 2 ^ t) * (r * 2 ^ t) < r' * r' := Nat.mul_lt_mul_of_lt_of_le hlt (Nat.le_of_lt hlt) (by omega)
        rw [sq1, he] at h5
        omega
      omega
    have he' : r' * r' = n * (2 ^ t * 2 ^ t) := by rw [hr', sq1, he]
    rw [stk_eq he, stk_eq he', hr', ← Nat.mul_assoc]
    exact rawRung_shift f64 _ _ _
  · rw [stk_ne he]
    refine between_rung r t _ e ?_ ?_ hb
    · by_cases he' : r' * r' = n * (2 ^ t * 2 ^ t)
      · rw [stk_eq he']
        have : r * 2 ^ t < r' := by
          rcases Nat.lt_or_ge (r * 2 ^ t) r' with h5 | h5
          · exact h5
          · have h6 : r' = r * 2 ^ t := by omega
            rw [h6, sq1] at he'
            exact absurd (Nat.eq_of_mul_eq_mul_right (Nat.mul_pos hT hT) he') he
        rw [Nat.mul_assoc]
        omega
      · rw [stk_ne he', Nat.mul_assoc]
        omega
    · have h5 := stk_le (n * (2 ^ t * 2 ^ t)) r'
      have h6 : (2 * r + 2) * 2 ^ t = 2 * ((r + 1) * 2 ^ t) := by
        rw [show 2 * r + 2 = 2 * (r + 1) by omega, Nat.mul_assoc]
      omega

/-- Two square roots of the same number, to any digits, are rounded alike. -/
theorem root_same {w a1 a2 r1 r2 : Nat} {x e1 e2 : Int} (h1 : 2 * e1 = x - a1) (h2 : 2 * e2 = x - a2) (i1 : IsRt (w * 2 ^ a1) r1) (i2 : IsRt (w * 2 ^ a2) r2) (b1 : 2 ^ 53 ≤ r1) (b2 : 2 ^ 53 ≤ r2) :
    rawRung f64 (stk (w * 2 ^ a1) r1) (e1 - 1) = rawRung f64 (stk (w * 2 ^ a2) r2) (e2 - 1) := by
  rcases Nat.le_total a1 a2 with h | h
  · obtain ⟨t, ht⟩ : ∃ t, a2 = a1 + 2 * t := ⟨(a2 - a1) / 2, by omega⟩
    subst ht
    rw [show e2 - 1 = (e1 - 1) - t by omega]
    rw [Nat.pow_add, ← Nat.mul_assoc] at i2 ⊢
    exact (stk_scale _ r1 t r2 (e1 - 1) i1 i2 b1).symm
  · obtain ⟨t, ht⟩ : ∃ t, a1 = a2 + 2 * t := ⟨(a1 - a2) / 2, by omega⟩
    subst ht
    rw [show e1 - 1 = (e2 - 1) - t by omega]
    rw [Nat.pow_add, ← Nat.mul_assoc] at i1 ⊢
    exact stk_scale _ r2 t r1 (e2 - 1) i2 i1 b2

theorem rootFrom_ok (n : Nat) : ∀ k r, r * r ≤ n → n < (r + 2 ^ k) * (r + 2 ^ k) → IsRt n (Datum.rootFrom n k r)
  | 0, r, h1, h2 => ⟨h1, h2⟩
  | k + 1, r, h1, h2 => by
    unfold Datum.rootFrom
    have e : (1 <<< k : Nat) = 2 ^ k := Nat.one_shiftLeft k
    simp only [e]
    split
    · refine rootFrom_ok n k _ (by assumption) ?_
      rw [show r + 2 ^ k + 2 ^ k = r + 2 ^ (k + 1) by rw [Nat.pow_succ]; omega]
      exact h2
    · exact rootFrom_ok n k _ h1 (by omega)

/-- What the library's root of a float is. -/
theorem sqrt_fw {m : Nat} {i : Int} (h : Fit m i) (hm : m ≠ 0) : ∃ (c r : Nat) (e : Int), f64.sqrt (fw false m i) = some (fw false (stk (m * 2 ^ c) r) (e - 1)) ∧ 2 * e = i - c ∧ IsRt (m * 2 ^ c) r ∧ 2 ^ 53 ≤ r := by
  obtain ⟨k, hr, hC⟩ := read_fw false h
  have hM : m * 2 ^ k ≠ 0 := by
    have : 0 < 2 ^ k := Nat.pow_pos (by omega)
    exact Nat.mul_ne_zero hm (by omega)
  obtain ⟨M, hMe⟩ : ∃ M, M = m * 2 ^ k := ⟨_, rfl⟩
  obtain ⟨j, hj⟩ : ∃ j : Int, j = i - k := ⟨_, rfl⟩
  rw [← hMe] at hM hr hC
  rw [← hj] at hr hC
  obtain ⟨more, hmo⟩ : ∃ a, a = 2 * 54 - M.log2 + ((j - ((2 * 54 - M.log2 : Nat) : Int)) % 2).toNat := ⟨_, rfl⟩
  obtain ⟨n, hn⟩ : ∃ n, n = M * 2 ^ more := ⟨_, rfl⟩
  obtain ⟨r, hrt⟩ : ∃ r, r = Datum.rootFrom n (n.log2 / 2 + 1) 0 := ⟨_, rfl⟩
  have hlog : M.log2 ≤ 52 := by
    have h1 := hC.2.1
    rw [f64_bin] at h1
    have h2 := log_le hM
    have h3 : M.log2 < 53 := (Nat.pow_lt_pow_iff_right (a := 2) (by omega)).1 (by omega)
    omega
  have hroot : f64.sqrt (fw false m i) = some (fw false (stk n r) ((j - more) / 2 - 1)) := by
    unfold Format.sqrt
    rw [hr, f64_fb]
    unfold Datum.root
    simp only
    rw [if_neg hM, if_neg (by decide)]
    simp only [Nat.shiftLeft_eq, ← hmo, ← hn, ← hrt]
    show some (f64.nearest false _ _) = _
    rw [nearest_rung]
    rfl
  have hir : IsRt n r := by
    rw [hrt]
    refine rootFrom_ok n _ 0 (by omega) ?_
    rw [Nat.zero_add, ← Nat.pow_add]
    refine Nat.lt_of_lt_of_le (lt_two_log n) (Nat.pow_le_pow_right (by omega) (by omega))
  have hbig : 2 ^ 53 ≤ r := by
    have h1 : 2 ^ 108 ≤ n := by
      rw [hn]
      refine Nat.le_trans (m := 2 ^ M.log2 * 2 ^ more) ?_ (Nat.mul_le_mul_right _ (log_le hM))
      rw [← Nat.pow_add]
      exact Nat.pow_le_pow_right (by omega) (by omega)
    have h2 : 2 ^ 54 < r + 1 := by
      apply sq_lt
      rw [← Nat.pow_add]
      exact Nat.lt_of_le_of_lt h1 hir.2
    omega
  have hne : n = m * 2 ^ (k + more) := by rw [hn, hMe, Nat.mul_assoc, ← Nat.pow_add]
  refine ⟨k + more, r, (j - more) / 2, by rw [← hne]; exact hroot, ?_, by rw [← hne]; exact hir, hbig⟩
  have : (j - (more : Int)) % 2 = 0 := by rw [hmo]; omega
  omega

/-- A root's size: less than 2^B where the number is less than 2^(2B). -/
theorem stk_lt {n r : Nat} {e : Int} {B : Nat} (h : IsRt n r) (hB : e ≤ B) (hlt : n < 2 ^ (2 * (B - e).toNat)) : stk n r < 2 ^ ((B : Int) - (e - 1)).toNat := by
  have h1 : r < 2 ^ (B - e).toNat := by
    apply sq_lt
    rw [← Nat.pow_add, show (B - e).toNat + (B - e).toNat = 2 * (B - e).toNat by omega]
    exact Nat.lt_of_le_of_lt h.1 hlt
  have h2 := stk_le n r
  rw [show ((B : Int) - (e - 1)).toNat = (B - e).toNat + 1 by omega, Nat.pow_succ]
  omega
theorem rungs_lt (f : Format) {a : Nat} {q : Int} {B : Nat} (hq : q ≤ B) (h : a < 2 ^ ((B : Int) - q).toNat) : rawRung f a q ≤ rawRung f 1 B := by
  refine rawRung_mono f (c := q) (Int.le_refl _) hq ?_
  rw [show (q - q).toNat = 0 by omega]
  omega
end Go.Proofs.Ytiohacnkiikmcaa
