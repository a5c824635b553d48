/-
  The nearest float of the square root of a sum of squares: maths. Conditions: none. The square of a complex number by exact numbers, and the number beside its root: maths. Conditions: none. A part that is far greater than the other one is the modulus: maths. Conditions: none. What the program's steps to the number beside a root give: maths. Conditions: none. Comparing a part with a multiple of the other one; the modulus is between the larger part and the size: maths. Conditions: none. What ModulusOf of the program leads to: maths. Conditions: none.
-/
import Derived.Test.YtgppagmejhgmaaaGreatDoorKe
import Derived.Test.YtgppagmejhgmaaaGreatDoorRc
import Derived.Test.YtgppagmejhgmaaaGreatDoorFz
import Derived.Test.YtgppagmejhgmaaaGreatDoorEa
import Derived.Test.YtgppagmejhgmaaaGreatDoorQi
namespace Go.Proofs.YtgppagmejhgmaaaGreatDoor
set_option linter.unusedVariables false
open Go Go.RowKit

open Go Go.RowKit Ieee

/-- A float's size in units of 2^-1074. -/
def mg (x : Nat) : Nat := match f64.read x with
  | .number _ m i => m * 2 ^ (i + 1074).toNat
  | _ => 0
theorem mg_fw (s : Bool) {m : Nat} {i : Int} (h : Fit m i) : mg (fw s m i) = m * 2 ^ (i + 1074).toNat := by
  obtain ⟨k, hr, hC⟩ := read_fw s h
  have h1 := hC.1
  rw [f64_low] at h1
  unfold mg
  rw [hr]
  simp only
  rw [Nat.mul_assoc, ← Nat.pow_add, show k + (i - (k : Int) + 1074).toNat = (i + 1074).toNat by omega]
theorem fw_mg (s : Bool) {m : Nat} {i : Int} (h : Fit m i) : fw s (mg (fw s m i)) (-1074) = fw s m i := by
  rw [mg_fw s h]
  have := fw_shift s m i (i + 1074).toNat
  rw [show i - ((i + 1074).toNat : Int) = -1074 by have := h.2.1; omega] at this
  exact this
/-- The nearest float of the square root of N units of 2^-2148. -/
def rtI (N : Nat) : Nat := fw false (stk (N * 2 ^ 108) (rootN (N * 2 ^ 108))) (-1129)
theorem rtI_zero : rtI 0 = 0 := by
  unfold rtI
  rw [Nat.zero_mul, stk_eq (n := 0) (r := rootN 0) (by rfl)]
  show fw false 0 (-1129) = 0
  exact fw_0 _
theorem rt_big {n r : Nat} (h : IsRt n r) (hn : 2 ^ 108 ≤ n) : 2 ^ 53 ≤ r := by
  have h2 : 2 ^ 54 < r + 1 := by
    apply sq_lt
    rw [← Nat.pow_add]
    exact Nat.lt_of_le_of_lt hn h.2
  omega
theorem fw_rung {m n : Nat} {i j : Int} (h : rawRung f64 m i = rawRung f64 n j) : fw false m i = fw false n j := by
  unfold fw rungOf
  rw [h]
theorem rtI_eq {N u t K r : Nat} {ex : Int} (hN : N = u * 2 ^ t) (h0 : N ≠ 0) (h : 2 * ex = (t : Int) - 2148 - K) (hr : IsRt (u * 2 ^ K) r) (hb : 2 ^ 53 ≤ r) : fw false (stk (u * 2 ^ K) r) (ex - 1) = rtI N := by
  unfold rtI
  have h1 : N * 2 ^ 108 = u * 2 ^ (t + 108) := by rw [hN, Nat.mul_assoc, ← Nat.pow_add]
  have hbig : 2 ^ 108 ≤ u * 2 ^ (t + 108) := by
    rw [← h1]
    exact Nat.le_mul_of_pos_left _ (Nat.pos_of_ne_zero h0)
  rw [h1]
  clear h1 h0 hN
  have h2 : IsRt (u * 2 ^ (t + 108)) (rootN (u * 2 ^ (t + 108))) := rootN_spec _
  generalize rootN (u * 2 ^ (t + 108)) = r2 at h2 ⊢
  have h3 : 2 ^ 53 ≤ r2 := rt_big h2 hbig
  have he : 2 * (-1128 : Int) = (t : Int) - 2148 - ((t + 108 : Nat) : Int) := by omega
  have hf := root_same (x := (t : Int) - 2148) (e1 := ex) (e2 := -1128) h he hr h2 hb h3
  rw [show (-1129 : Int) = -1128 - 1 by omega]
  exact fw_rung hf

theorem sq_pow (r t : Nat) : (r * 2 ^ t) * (r * 2 ^ t) = r * r * 2 ^ (2 * t) := by
  rw [show 2 * t = t + t by omega, Nat.pow_add, Nat.mul_assoc, Nat.mul_assoc, ← Nat.mul_assoc (2 ^ t) r, Nat.mul_comm (2 ^ t) r, Nat.mul_assoc]
theorem stk_between {n r r' t : Nat} (h1 : r * r * 2 ^ (2 * t) < n) (h2 : n < (r + 1) * (r + 1) * 2 ^ (2 * t)) (h : IsRt n r') : 2 * r * 2 ^ t < stk n r' ∧ stk n r' < (2 * r + 2) * 2 ^ t := by
  obtain ⟨h3, h4⟩ := h
  have lo : r * 2 ^ t ≤ r' := by
    have : (r * 2 ^ t) * (r * 2 ^ t) < (r' + 1) * (r' + 1) := by
      rw [sq_pow]; omega
    have := sq_lt this
    omega
  have hi : r' < (r + 1) * 2 ^ t := by
    apply sq_lt
    rw [sq_pow]
    omega
  constructor
  · by_cases he : r' * r' = n
    · rw [stk_eq he]
      have : r * 2 ^ t ≠ r' := by
        intro h5
        rw [← h5, sq_pow] at he
        omega
      rw [Nat.mul_assoc]
      omega
    · rw [stk_ne he, Nat.mul_assoc]
      omega
  · have h5 := stk_le n r'
    have h6 : (2 * r + 2) * 2 ^ t = 2 * ((r + 1) * 2 ^ t) := by
      rw [show 2 * r + 2 = 2 * (r + 1) by omega, Nat.mul_assoc]
    omega

/-- The program's number beside a root is rounded as the root. -/
theorem beside_rt {N u t T K q Q : Nat} {half : Int} (hN : N = u * 2 ^ t) (h0 : N ≠ 0) (hK : (K : Int) = (t : Int) - 2148 - 2 * half + 128 + 2 * (T : Int)) (hq : 2 ^ 54 ≤ q)
    (h : (q * q * 2 ^ (2 * T) = u * 2 ^ K ∧ Q = 2 * q) ∨ ((q - 1) * (q - 1) * 2 ^ (2 * T) < u * 2 ^ K ∧ u * 2 ^ K < q * q * 2 ^ (2 * T) ∧ Q = 2 * q - 1)) :
    fw false Q (half - 65) = rtI N := by
  have hr : IsRt (u * 2 ^ K) (rootN (u * 2 ^ K)) := rootN_spec _
  generalize hr' : rootN (u * 2 ^ K) = r' at hr
  have hT : 0 < 2 ^ T := Nat.pow_pos (by omega)
  have hex : 2 * (half - 64 - (T : Int)) = (t : Int) - 2148 - K := by omega
  rcases h with ⟨h1, h2⟩ | ⟨h1, h2, h3⟩
  · have e : r' = q * 2 ^ T := by
      rw [← h1, ← sq_pow] at hr
      have a := sq_lt (Nat.lt_of_le_of_lt (Nat.le_refl _) hr.2)
      have b : ¬ q * 2 ^ T < r' := fun hl => by
        have := Nat.mul_lt_mul_of_lt_of_le hl (Nat.le_of_lt hl) (by omega)
        have := hr.1
        omega
      omega
    have hb : 2 ^ 53 ≤ r' := by
      rw [e]
      have := Nat.mul_le_mul hq (show 1 ≤ 2 ^ T by omega)
      omega
    rw [← rtI_eq hN h0 hex hr hb]
    have he : r' * r' = u * 2 ^ K := by rw [e, sq_pow, h1]
    rw [stk_eq he, h2, e, ← Nat.mul_assoc]
    have := fw_shift false (2 * q) (half - 65) T
    rw [show half - 64 - (T : Int) - 1 = half - 65 - (T : Int) by omega]
    exact this.symm
  · obtain ⟨p, rfl⟩ : ∃ p, q = p + 1 := ⟨q - 1, by omega⟩
    rw [show p + 1 - 1 = p by omega] at h1
    obtain ⟨b1, b2⟩ := stk_between h1 h2 hr
    have hb : 2 ^ 53 ≤ r' := by
      have h5 := stk_le (u * 2 ^ K) r'
      have h6 := Nat.mul_le_mul (show 2 * (2 ^ 54 - 1) ≤ 2 * p by omega) (show 1 ≤ 2 ^ T by omega)
      omega
    rw [← rtI_eq hN h0 hex hr hb]
    refine (fw_rung ?_).symm
    have := between_rung p T _ (half - 65) b1 b2 (by omega)
    rw [show half - 64 - (T : Int) - 1 = half - 65 - (T : Int) by omega, this, h3]
    congr 1

theorem ceil_le {u D z : Nat} (hD : 0 < D) : (-((-(u : Int)) / (D : Int))).natAbs ≤ z ↔ u ≤ z * D := by
  have h0 : 0 ≤ -((-(u : Int)) / (D : Int)) := by rw [neg_ediv u _ hD]; omega
  have h1 : (-((-(u : Int)) / (D : Int))).natAbs ≤ z ↔ -((-(u : Int)) / (D : Int)) ≤ (z : Int) := by omega
  rw [h1]
  have h2 : -((-(u : Int)) / (D : Int)) ≤ (z : Int) ↔ -(z : Int) ≤ (-(u : Int)) / (D : Int) := by omega
  rw [h2, Int.le_ediv_iff_mul_le (by omega)]
  have h3 : -(z : Int) * (D : Int) = -((z * D : Nat) : Int) := by rw [Int.neg_mul]; simp
  rw [h3]
  omega
/-- Rounding up before a square root changes nothing. -/
theorem up_le {u T K z : Nat} {y : Int} (hT : T = (-(y + 128)).toNat) (hK : (K : Int) = y + 128 + 2 * (T : Int)) : upN 1 u y 64 ≤ z ↔ u * 2 ^ K ≤ z * 2 ^ (2 * T) := by
  unfold upN
  rw [Int.one_mul, show y + 2 * 64 = y + 128 by omega]
  by_cases hc : 0 ≤ y + 128
  · obtain rfl : T = 0 := by omega
    rw [shZ_nn' hc, show (y + 128).toNat = K by omega]
    have e : (-(-(u : Int) * 2 ^ K)).natAbs = u * 2 ^ K := by
      rw [Int.neg_mul, Int.neg_neg]
      exact_mod_cast rfl
    rw [e]
    simp
  · obtain rfl : K = T := by omega
    have e : y + 128 = -(K : Int) := by omega
    rw [e, shZ_down _ _ (by omega)]
    have hP : (2 : Int) ^ K = ((2 ^ K : Nat) : Int) := by simp
    have hp : 0 < 2 ^ K := Nat.pow_pos (by omega)
    rw [hP, ceil_le hp, show 2 * K = K + K by omega, Nat.pow_add, ← Nat.mul_assoc]
    exact (Nat.mul_le_mul_right_iff hp).symm
theorem raN_spec (n : Nat) : n ≤ raN n * raN n ∧ (raN n = 0 ∨ (raN n - 1) * (raN n - 1) < n) := by
  have h := rootN_spec n
  by_cases hl : rootN n * rootN n < n
  · rw [raN_up hl]
    exact ⟨by omega, .inr (by rw [Nat.add_sub_cancel]; exact hl)⟩
  · rw [raN_eq hl]
    refine ⟨by omega, ?_⟩
    rcases Nat.eq_zero_or_pos (rootN n) with h0 | h0
    · exact .inl h0
    · right
      have := Nat.mul_lt_mul_of_lt_of_le (show rootN n - 1 < rootN n by omega) (show rootN n - 1 ≤ rootN n by omega) h0
      omega
/-- Half of a number's places, and the number beside its root. -/
def bsH (u : Nat) (ue : Int) : Int := (blen u + ue + 1) / 2
def bsR (u : Nat) (ue : Int) : Nat := raN (upN 1 u (ue - 2 * bsH u ue) 64)
theorem beside_facts {N u t : Nat} {ue : Int} (hN : N = u * 2 ^ t) (h0 : N ≠ 0) (hue : ue = (t : Int) - 2148) :
    ∃ (T K : Nat), (K : Int) = (ue - 2 * bsH u ue) + 128 + 2 * (T : Int) ∧ 2 ^ 54 ≤ bsR u ue ∧ bsR u ue ≤ 2 ^ 64 ∧
      (bsR u ue * bsR u ue * 2 ^ (2 * T) = u * 2 ^ K → fw false (2 * bsR u ue) (bsH u ue - 65) = rtI N) ∧
      (bsR u ue * bsR u ue * 2 ^ (2 * T) ≠ u * 2 ^ K → u * 2 ^ K < bsR u ue * bsR u ue * 2 ^ (2 * T) ∧ fw false (2 * bsR u ue - 1) (bsH u ue - 65) = rtI N) := by
  have hu : u ≠ 0 := by rintro rfl; rw [Nat.zero_mul] at hN; exact h0 hN
  have hb := blen_log hu
  obtain ⟨half, hh⟩ : ∃ h, h = bsH u ue := ⟨_, rfl⟩
  have hh2 : 2 * half ≤ blen u + ue + 1 ∧ blen u + ue ≤ 2 * half := by rw [hh]; unfold bsH; omega
  obtain ⟨y, hy⟩ : ∃ y, y = ue - 2 * half := ⟨_, rfl⟩
  obtain ⟨T, hT⟩ : ∃ T : Nat, T = (-(y + 128)).toNat := ⟨_, rfl⟩
  obtain ⟨K, hK⟩ : ∃ K : Nat, (K : Int) = y + 128 + 2 * (T : Int) := ⟨(y + 128 + 2 * (T : Int)).toNat, by omega⟩
  obtain ⟨q, hq⟩ : ∃ q, q = bsR u ue := ⟨_, rfl⟩
  have hq' : q = raN (upN 1 u y 64) := by rw [hq, hy, hh]; rfl
  have hup := fun z => up_le (u := u) (z := z) hT hK
  obtain ⟨s1, s2⟩ := raN_spec (upN 1 u y 64)
  rw [← hq'] at s1 s2
  have g1 := (hup _).1 s1
  have hlo : 2 ^ (126 + 2 * T) ≤ u * 2 ^ K := by
    refine Nat.le_trans (m := 2 ^ u.log2 * 2 ^ K) ?_ (Nat.mul_le_mul_right _ (log_le hu))
    rw [← Nat.pow_add]
    exact Nat.pow_le_pow_right (by omega) (by omega)
  have hhi : u * 2 ^ K ≤ 2 ^ (128 + 2 * T) := by
    refine Nat.le_trans (Nat.mul_le_mul_right _ (Nat.le_of_lt (lt_two_log u))) ?_
    rw [← Nat.pow_add]
    exact Nat.pow_le_pow_right (by omega) (by omega)
  have hTT : 0 < 2 ^ (2 * T) := Nat.pow_pos (by omega)
  have hq1 : 2 ^ 54 ≤ q := by
    have h1 : 2 ^ 126 ≤ q * q := by
      have h2 : 2 ^ 126 * 2 ^ (2 * T) ≤ q * q * 2 ^ (2 * T) := by
        rw [← Nat.pow_add]; omega
      exact Nat.le_of_mul_le_mul_right h2 hTT
    have h2 : 2 ^ 62 < q := by
      apply sq_lt
      rw [← Nat.pow_add]
      exact Nat.lt_of_lt_of_le (Nat.pow_lt_pow_right (by omega) (by omega)) h1
    omega
  have hq2 : q ≤ 2 ^ 64 := by
    rcases Nat.lt_or_ge (2 ^ 64) q with h | h
    · exfalso
      have h1 : ¬ upN 1 u y 64 ≤ (q - 1) * (q - 1) := by omega
      have h2 := mt (hup _).2 h1
      have h3 : 2 ^ 64 * 2 ^ 64 ≤ (q - 1) * (q - 1) := Nat.mul_le_mul (by omega) (by omega)
      have h4 := Nat.mul_le_mul_right (2 ^ (2 * T)) h3
      rw [← Nat.pow_add, ← Nat.pow_add] at h4
      rw [show 64 + 64 + 2 * T = 128 + 2 * T by omega] at h4
      omega
    · exact h
  have hl : (q - 1) * (q - 1) * 2 ^ (2 * T) < u * 2 ^ K := by
    have h1 : ¬ upN 1 u y 64 ≤ (q - 1) * (q - 1) := by
      rcases s2 with h | h
      · omega
      · omega
    have := mt (hup _).2 h1
    omega
  rw [← hh, ← hq]
  refine ⟨T, K, by rw [hK, hy], hq1, hq2, fun he => ?_, fun he => ⟨by omega, ?_⟩⟩
  · exact beside_rt hN h0 (by omega) hq1 (.inl ⟨he, rfl⟩)
  · exact beside_rt hN h0 (by omega) hq1 (.inr ⟨hl, by omega, rfl⟩)

open Go Go.RowKit Ieee

theorem redZ_at {Z X d : Int} (h1 : d ≤ X) (h2 : d ≤ 0) : d ≤ (redZ Z X).2.2 ∧ zv (redZ Z X) * 2 ^ ((redZ Z X).2.2 - d).toNat = Z * 2 ^ (X - d).toNat := by
  by_cases h0 : Z = 0
  · subst h0
    have e : redZ 0 X = (0, [], 0) := by unfold redZ; rw [show (0 : Int).natAbs = 0 from rfl, redS_zero]
    rw [e]
    refine ⟨h2, ?_⟩
    unfold zv
    simp
  · have hn : Z.natAbs ≠ 0 := by omega
    have e : redZ Z X = (Z.sign, lim (od Z.natAbs), X + (tw Z.natAbs : Int)) := by unfold redZ; rw [redS_pos hn]
    rw [e]
    refine ⟨by show d ≤ X + (tw Z.natAbs : Int); omega, ?_⟩
    rw [zv_lim]
    show Z.sign * (od Z.natAbs : Int) * 2 ^ (X + (tw Z.natAbs : Int) - d).toNat = _
    rw [show (X + (tw Z.natAbs : Int) - d).toNat = tw Z.natAbs + (X - d).toNat by omega, Int.pow_add, ← Int.mul_assoc]
    congr 1
    have h3 := od_twk hn
    have h4 : ((od Z.natAbs : Nat) : Int) * 2 ^ tw Z.natAbs = (Z.natAbs : Int) := by
      have h5 := congrArg (fun n : Nat => (n : Int)) h3
      simpa using h5
    rw [Int.mul_assoc, h4, Int.sign_mul_natAbs]
theorem mg_lt {x B : Nat} (hx : x < 2 ^ 64) (h : isF .f64 x = true) (hB : B = 2098) : mg x < 2 ^ B := by
  obtain ⟨s, m, i, rfl, hF, hC⟩ := fin_fw hx h
  rw [mg_fw s hF]
  have := fit_big (B := B) (d := -1074) hF (by omega) hB
  rw [show (i - -1074).toNat = (i + 1074).toNat by omega] at this
  exact this
/-- The square of a float's exact value. -/
theorem sq_at {x : Nat} (hx : x < 2 ^ 64) (h : isF .f64 x = true) {s e : Int} {l : List Int} (hd : dyF x = (s, l, e, 0)) :
    dyB s l e = true ∧ dyB (mulW (zv (s, l, e)) e (zv (s, l, e)) e).1 (mulW (zv (s, l, e)) e (zv (s, l, e)) e).2.1 (mulW (zv (s, l, e)) e (zv (s, l, e)) e).2.2 = true ∧
      -2148 ≤ (mulW (zv (s, l, e)) e (zv (s, l, e)) e).2.2 ∧ zv (mulW (zv (s, l, e)) e (zv (s, l, e)) e) * 2 ^ ((mulW (zv (s, l, e)) e (zv (s, l, e)) e).2.2 - -2148).toNat = ((mg x * mg x : Nat) : Int) := by
  obtain ⟨b, m, i, rfl, hF, hC⟩ := fin_fw hx h
  obtain ⟨a, u, e', h1, h2, h3, h4, h5⟩ := dy_val b hF
  rw [hd] at h1
  cases h1
  have hz : zv (s, lim u, e) = s * (u : Int) := zv_lim _ _ _
  rw [hz]
  obtain ⟨g1, g2⟩ := dy_at (d := -1074) (K := 0) h5 hF.2.1 (by omega)
  have hmg : ((mg (fw b m i) : Nat) : Int) * (mg (fw b m i) : Int) = (s * (u : Int) * 2 ^ (e - -1074).toNat) * (s * (u : Int) * 2 ^ (e - -1074).toNat) := by
    have e0 := Int.natAbs_mul_self (a := vz b m i (-1074))
    rw [vz_abs, show (i - -1074).toNat = (i + 1074).toNat by omega] at e0
    rw [g2, ← e0, mg_fw b hF]
    exact (Int.natCast_mul _ _).symm
  have hu53 : u < 2 ^ 53 := by have := hF.1; omega
  have he : e ≤ 5000 := h2.2.2.1
  have hsq : mulW (s * (u : Int)) e (s * (u : Int)) e = redZ (s * (u : Int) * (s * (u : Int))) (e + e) := rfl
  rw [hsq]
  obtain ⟨r1, r2⟩ := redZ_at (Z := s * (u : Int) * (s * (u : Int))) (X := e + e) (d := -2148) (by omega) (by omega)
  have hab : (s * (u : Int) * (s * (u : Int))).natAbs < 2 ^ 106 := by
    have h6 : (s * (u : Int)).natAbs ≤ u := by
      rcases h4 with rfl | rfl | rfl
      · simp
      · rw [Int.one_mul, Int.natAbs_natCast]; exact Nat.le_refl _
      · rw [Int.neg_mul, Int.one_mul, Int.natAbs_neg, Int.natAbs_natCast]; exact Nat.le_refl _
    rw [Int.natAbs_mul]
    refine Nat.lt_of_le_of_lt (Nat.mul_le_mul h6 h6) ?_
    have h7 : u * u < 2 ^ 53 * 2 ^ 53 := Nat.mul_lt_mul_of_lt_of_le hu53 (by omega) (by omega)
    rw [← Nat.pow_add] at h7
    exact h7
  have heh : e ≤ 2200 := by
    rcases h5 with ⟨_, _, rfl⟩ | ⟨K, rfl, h6⟩
    · omega
    · by_cases hm : m = 0
      · subst hm
        have := h2.2.2.2
        rw [show sg b 0 = 0 by unfold sg; cases b <;> rfl] at h6
        rcases this with ⟨_, h7⟩ | ⟨h7, h8⟩
        · omega
        · have hu0 : u ≠ 0 := by
            rintro rfl
            rw [lim_zero] at h8
            simp at h8
          have hp : (0 : Int) < 2 ^ K := Int.pow_pos (by omega)
          have h9 : s * (u : Int) ≠ 0 := Int.mul_ne_zero h7 (by omega)
          exact absurd h6.symm (Int.mul_ne_zero h9 (by omega))
      · have h7 := fit_lt hF hm
        have h8 : 2 ^ K ≤ m := by
          have h9 : (sg b m).natAbs = m := sgf_abs b m
          rw [h6, Int.natAbs_mul] at h9
          have h10 : ((2 : Int) ^ K).natAbs = 2 ^ K := by rw [show (2 : Int) ^ K = ((2 ^ K : Nat) : Int) by simp]; exact Int.natAbs_natCast _
          rw [h10] at h9
          have h11 : 1 ≤ (s * (u : Int)).natAbs := by
            rcases Nat.eq_zero_or_pos (s * (u : Int)).natAbs with h | h
            · rw [h, Nat.zero_mul] at h9; omega
            · exact h
          have := Nat.mul_le_mul_right (2 ^ K) h11
          omega
        have h12 : K < 53 := (Nat.pow_lt_pow_iff_right (a := 2) (by omega)).1 (by have := hF.1; omega)
        omega
  refine ⟨dyB_yes h2, (fl_red (big_200 hab (by omega)) (by omega) (by have := big_log (k := 105) hab; omega)).1, r1, ?_⟩
  rw [r2, show (e + e - -2148).toNat = (e - -1074).toNat + (e - -1074).toNat by omega, Int.pow_add]
  push_cast
  rw [hmg]
  simp only [Int.mul_assoc, Int.mul_comm, Int.mul_left_comm]
/-- The square of both parts. -/
theorem sqY_red {x y : Nat} (hx : x < 2 ^ 64) (hy : y < 2 ^ 64) (fx : isF .f64 x = true) (fy : isF .f64 y = true) {s e t f : Int} {l k : List Int} (h1 : dyF x = (s, l, e, 0)) (h2 : dyF y = (t, k, f, 0)) :
    sqY s l e t k f = fitY (redZ ((mg x * mg x + mg y * mg y : Nat) : Int) (-2148)) := by
  obtain ⟨a1, a2, a3, a4⟩ := sq_at hx fx h1
  obtain ⟨b1, b2, b3, b4⟩ := sq_at hy fy h2
  rw [sqY_yes a1 b1, sqF_yes a2 b2, addW_at a3 b3, a4, b4]
  simp
theorem N_lt {x y C : Nat} (hx : x < 2 ^ 64) (hy : y < 2 ^ 64) (fx : isF .f64 x = true) (fy : isF .f64 y = true) (hC : C = 4197) : mg x * mg x + mg y * mg y < 2 ^ C := by
  obtain ⟨B, hB⟩ : ∃ B, B = 2098 := ⟨_, rfl⟩
  have h1 := mg_lt hx fx hB
  have h2 := mg_lt hy fy hB
  have hCB : C = B + B + 1 := by omega
  clear hB hC
  generalize mg x = a at *
  generalize mg y = b at *
  have hP0 : 0 < 2 ^ B := Nat.pow_pos (by omega)
  have h5 : 2 ^ C = 2 ^ B * 2 ^ B * 2 := by rw [hCB, Nat.pow_succ, Nat.pow_add]
  rw [h5]
  clear h5 hCB
  generalize 2 ^ B = P at *
  have h3 : a * a < P * P := Nat.mul_lt_mul_of_lt_of_le h1 (Nat.le_of_lt h1) hP0
  have h4 : b * b < P * P := Nat.mul_lt_mul_of_lt_of_le h2 (Nat.le_of_lt h2) hP0
  omega

open Go Go.RowKit Ieee

theorem rne_next {M k : Nat} (hk : 2 ≤ k) : rne (M * 2 ^ k + 1) k = M := by
  obtain ⟨D, hD⟩ : ∃ D, 2 ^ k = 4 * D := ⟨2 ^ (k - 2), by
    have e : k = 2 + (k - 2) := by omega
    rw [e, Nat.pow_add]
    simp⟩
  have hp : 0 < 2 ^ k := Nat.pow_pos (by omega)
  unfold rne
  have h1 : (M * 2 ^ k + 1) / 2 ^ k = M := by
    rw [Nat.add_comm, Nat.add_mul_div_right _ _ hp, Nat.div_eq_of_lt (by omega)]; omega
  have h2 : (M * 2 ^ k + 1) % 2 ^ k = 1 := by
    rw [Nat.add_comm, Nat.add_mul_mod_self_right, Nat.mod_eq_of_lt (by omega)]
  rw [h1, h2, if_neg (by omega)]
  rfl
/-- A number a little greater than a float is rounded to it. -/
theorem rung_next {M : Nat} {j : Int} (h1 : 2 ^ 52 ≤ M) (h2 : M < 2 ^ 53) (hj : -1074 ≤ j) : rawRung f64 (M * 4 + 1) (j - 2) = rawRung f64 M j := by
  have hM0 : M ≠ 0 := by omega
  have l1 : M.log2 = 52 := log2_unique h1 h2
  have l2 : (M * 4 + 1).log2 = 54 := log2_unique (by omega) (by omega)
  obtain ⟨f1, _, _⟩ := rnd_facts (a := M * 4 + 1) (by omega) (j - 2)
  obtain ⟨g1, _, _⟩ := rnd_facts hM0 j
  have e1 : plc (M * 4 + 1) (j - 2) = j := by unfold plc; rw [l2]; omega
  have e2 : plc M j = j := by unfold plc; rw [l1]; omega
  rw [f1, g1, e1, e2]
  congr 1
  unfold rnd
  rw [show (j - 2 - j).toNat = 0 by omega, show (j - (j - 2)).toNat = 2 by omega, show (j - j).toNat = 0 by omega]
  have h3 := rne_next (M := M) (k := 2) (by omega)
  have h4 : rne (M * 2 ^ 0) 0 = M := rne_exact M 0
  simp only [Nat.pow_zero, Nat.mul_one] at h4 ⊢
  rw [h4]
  exact h3

theorem rtI_ge {N A : Nat} (h : A * A ≤ N) : rawRung f64 A (-1074) ≤ rawRung f64 (stk (N * 2 ^ 108) (rootN (N * 2 ^ 108))) (-1129) := by
  obtain ⟨W, hW⟩ : ∃ W : Nat, W = 54 := ⟨_, rfl⟩
  have h0 : A * A * 2 ^ (2 * W) ≤ N * 2 ^ (2 * W) := Nat.mul_le_mul_right _ h
  rw [show 108 = 2 * W by omega]
  have hr := rootN_spec (N * 2 ^ (2 * W))
  generalize N * 2 ^ (2 * W) = n at hr h0 ⊢
  generalize rootN n = r at hr ⊢
  have h1 : A * 2 ^ W ≤ r := by
    have h2 : (A * 2 ^ W) * (A * 2 ^ W) < (r + 1) * (r + 1) := by
      rw [sq_pow]
      exact Nat.lt_of_le_of_lt h0 hr.2
    have := sq_lt h2
    omega
  have h3 : 2 * r ≤ stk n r := by unfold stk; omega
  have h5 : A * 2 ^ (W + 1) = A * 2 ^ W * 2 := by rw [Nat.pow_succ, Nat.mul_assoc]
  have h4 : A * 2 ^ 55 ≤ stk n r := by
    rw [show 55 = W + 1 by omega, h5]
    omega
  generalize stk n r = z at h4 ⊢
  have e1 : ((-1074 : Int) - -1129).toNat = 55 := by omega
  have e2 : ((-1129 : Int) - -1129).toNat = 0 := by omega
  refine rawRung_mono f64 (c := -1129) (by omega) (by omega) ?_
  rw [e1, e2, Nat.pow_zero, Nat.mul_one]
  exact h4
theorem rtI_le {N C : Nat} {e : Int} (he : -1128 ≤ e) (h : N * 2 ^ 108 < (C * 2 ^ (e + 1128).toNat) * (C * 2 ^ (e + 1128).toNat)) : rawRung f64 (stk (N * 2 ^ 108) (rootN (N * 2 ^ 108))) (-1129) ≤ rawRung f64 C e := by
  have hr := rootN_spec (N * 2 ^ 108)
  generalize N * 2 ^ 108 = n at hr h ⊢
  generalize rootN n = r at hr ⊢
  have h1 : r < C * 2 ^ (e + 1128).toNat := sq_lt (Nat.lt_of_le_of_lt hr.1 h)
  have h3 := stk_le n r
  have h4 : stk n r ≤ C * 2 ^ (e + 1128).toNat * 2 := by omega
  generalize stk n r = z at h4 ⊢
  have e1 : ((-1129 : Int) - -1129).toNat = 0 := by omega
  have e2 : (e - -1129).toNat = (e + 1128).toNat + 1 := by omega
  refine rawRung_mono f64 (c := -1129) (by omega) (by omega) ?_
  rw [e1, e2, Nat.pow_zero, Nat.mul_one, Nat.pow_succ, ← Nat.mul_assoc]
  exact h4
/-- The modulus is not less than a part. -/
theorem rtI_sq (A : Nat) : fw false A (-1074) = rtI (A * A) := by
  unfold rtI
  have hr : rootN (A * A * 2 ^ 108) = A * 2 ^ 54 := by
    have h := rootN_spec (A * A * 2 ^ 108)
    have e : (A * 2 ^ 54) * (A * 2 ^ 54) = A * A * 2 ^ 108 := sq_pow A 54
    rw [← e] at h ⊢
    have h1 := sq_lt h.2
    have h2 : ¬ A * 2 ^ 54 < rootN (A * 2 ^ 54 * (A * 2 ^ 54)) := fun hl => by
      have := Nat.mul_lt_mul_of_lt_of_le hl (Nat.le_of_lt hl) (by omega)
      have := h.1
      omega
    omega
  rw [hr, stk_eq (sq_pow A 54)]
  have := fw_shift false A (-1074) 55
  rw [show (-1074 : Int) - ((55 : Nat) : Int) = -1129 by decide] at this
  rw [← this]
  congr 1
  omega
theorem dom_rt {x B : Nat} (hx : x < 2 ^ 64) (h : isF .f64 x = true) (hd : B * 2 ^ 60 ≤ mg x) : rtI (mg x * mg x + B * B) = fw false (mg x) (-1074) := by
  rcases Nat.eq_zero_or_pos B with h0 | h0
  · subst h0
    rw [Nat.mul_zero, Nat.add_zero]
    exact (rtI_sq _).symm
  · obtain ⟨s, m, i, rfl, hF, hC⟩ := fin_fw hx h
    obtain ⟨A, hA⟩ : ∃ A, A = mg (fw s m i) := ⟨_, rfl⟩
    have hAm : A = m * 2 ^ (i + 1074).toNat := by rw [hA]; exact mg_fw s hF
    rw [← hA] at hd ⊢
    obtain ⟨c1, c2, c3⟩ := hC
    rw [f64_low] at c1 c3
    rw [f64_bin] at c2 c3
    obtain ⟨S, hS⟩ : ∃ S, S = (i + 1074).toNat := ⟨_, rfl⟩
    rw [← hS] at hAm
    have hm : 2 ^ 52 ≤ m ∧ 8 ≤ S := by
      have h1 : 2 ^ 60 ≤ m * 2 ^ S := by rw [← hAm]; omega
      have h2 : 8 ≤ S := by
        rcases Nat.lt_or_ge S 8 with h3 | h3
        · exfalso
          have h4 : 2 ^ S ≤ 2 ^ 7 := Nat.pow_le_pow_right (by omega) (by omega)
          have h5 : m * 2 ^ S ≤ m * 2 ^ 7 := Nat.mul_le_mul_left _ h4
          omega
        · exact h3
      exact ⟨by omega, h2⟩
    have hlow : rawRung f64 A (-1074) = rawRung f64 m i := by
      have := rawRung_shift f64 m i S
      rw [← hAm, show i - (S : Int) = -1074 by omega] at this
      exact this
    unfold rtI
    have hge := rtI_ge (N := A * A + B * B) (A := A) (by omega)
    have hle : rawRung f64 (stk ((A * A + B * B) * 2 ^ 108) (rootN ((A * A + B * B) * 2 ^ 108))) (-1129) ≤ rawRung f64 (m * 4 + 1) (i - 2) := by
      refine rtI_le (by omega) ?_
      obtain ⟨R, hR⟩ : ∃ R, S = R + 2 := ⟨S - 2, by omega⟩
      have e1 : (i - 2 + 1128).toNat = R + 54 := by omega
      have e4 : (m * 4 + 1) * 2 ^ (R + 54) = ((m * 4 + 1) * 2 ^ R) * 2 ^ 54 := by rw [Nat.pow_add, Nat.mul_assoc]
      rw [e1, e4, sq_pow]
      refine Nat.mul_lt_mul_of_pos_right ?_ (Nat.pow_pos (by omega))
      have e2 : A = 4 * m * 2 ^ R := by rw [hAm, hR, Nat.pow_add, Nat.mul_comm (2 ^ R), ← Nat.mul_assoc, Nat.mul_comm 4 m]
      have hP : 0 < 2 ^ R := Nat.pow_pos (by omega)
      have e3 : (m * 4 + 1) * 2 ^ R = A + 2 ^ R := by rw [e2, Nat.add_mul, Nat.one_mul, Nat.mul_comm m 4]
      rw [e3]
      have hm53 : m < 2 ^ 53 := hF.1
      have hB : B < 2 ^ R := by
        have h5 : B * 2 ^ 60 < 2 ^ R * 2 ^ 60 := by
          refine Nat.lt_of_le_of_lt hd ?_
          rw [e2, Nat.mul_comm]
          exact Nat.mul_lt_mul_of_pos_left (by omega) hP
        exact Nat.lt_of_mul_lt_mul_right h5
      generalize 2 ^ R = P at *
      have h6 : (A + P) * (A + P) = A * A + (2 * (A * P) + P * P) := by
        rw [Nat.add_mul, Nat.mul_add, Nat.mul_add, Nat.mul_comm P A]; omega
      have h7 : B * B < P * P := Nat.mul_lt_mul_of_lt_of_le hB (Nat.le_of_lt hB) hP
      omega
    rw [rung_next hm.1 hF.1 c1, ← hlow] at hle
    exact fw_rung (Nat.le_antisymm hle hge)

open Go Go.RowKit Ieee

theorem od_self {u : Nat} (h : u % 2 = 1) : od u = u ∧ tw u = 0 := by
  have h1 := (od_mul (show u ≠ 0 by omega)).1
  have h2 := tw_odd h
  rw [h2, Nat.pow_zero, Nat.one_mul] at h1
  exact ⟨h1.symm, h2⟩
theorem redS_odd {u : Nat} (h : u % 2 = 1) (s e : Int) : redS s u e = (s, lim u, e) := by
  obtain ⟨h1, h2⟩ := od_self h
  rw [redS_pos (by omega), h1, h2]
  simp
/-- All that the program's steps lead to. -/
structure BsOk (s : Int) (u : Nat) (ue hh y g : Int) (v : Nat) (rx p1 : Int) (p : Nat) (px cz m1 : Int) (mm : Nat) (mx : Int) (b : Nat) : Prop where
  hs : Sg s u
  hl : (lim u).length ≤ 200
  hue1 : -5000 ≤ ue
  hue2 : ue ≤ 5000
  hbl : blen u = (b : Int)
  hb1 : b ≤ 4800
  hh1 : ((b : Int) + ue + 1) / 2 = hh
  hy : ue - 2 * hh = y
  hsc : redS s u y = (s, lim u, y)
  hrt : rtY s (lim u) y 64 = (g, lim v, rx, 0)
  hv : (lim v).length ≤ 200
  sg' : Sg g v
  hrx1 : -64 ≤ rx
  hrx2 : rx ≤ 64
  hp : mulW (g * (v : Int)) rx (g * (v : Int)) rx = (p1, lim p, px)
  hpl : (lim p).length ≤ 400
  sp : Sg p1 p
  hpx1 : -200 ≤ px
  hpx2 : px ≤ 200
  hc : (subW (p1 * (p : Int)) px (s * (u : Int)) y).1 = cz
  hm : addW (g * (v : Int)) rx (-(1 * ((1 : Nat) : Int))) (-65) = (m1, lim mm, mx)
  hml : (lim mm).length ≤ 200
  sm : Sg m1 mm
  hmx1 : -200 ≤ mx
  hmx2 : mx ≤ 200

theorem small_lim {q K : Nat} (h : q ≤ 2 ^ K) (hK : K < 24 * 200) : (lim q).length ≤ 200 := Nat.le_trans (lim_le_of_le h) (pow_len hK)
theorem redZ_oddn {q : Nat} (h : q % 2 = 1) (e : Int) : redZ (q : Int) e = (1, lim q, e) := by
  unfold redZ
  rw [Int.natAbs_natCast, Int.sign_eq_one_of_pos (by omega)]
  exact redS_odd h 1 e
theorem sign_sub {a b : Nat} (e : Int) : (redZ ((a : Int) - (b : Int)) e).1 = ((a : Int) - (b : Int)).sign := by
  by_cases h : (a : Int) - (b : Int) = 0
  · rw [h]
    have : redZ 0 e = (0, [], 0) := by unfold redZ; exact redS_zero _ _
    rw [this]; rfl
  · unfold redZ
    rw [redS_pos (by omega)]
theorem beside_spec {N u t : Nat} {ue : Int} (hodd : u % 2 = 1) (hN : N = u * 2 ^ t) (hue : ue = (t : Int) - 2148) (hl : (lim u).length ≤ 200) (ht : t ≤ 4300) :
    ∃ (hh y g : Int) (v : Nat) (rx p1 : Int) (p : Nat) (px cz m1 : Int) (mm : Nat) (mx : Int) (b Q : Nat), BsOk 1 u ue hh y g v rx p1 p px cz m1 mm mx b ∧
      (if 0 < cz then redS m1 mm (mx + hh) else redS g v (rx + hh)) = redS 1 Q (hh - 65) ∧ Q ≠ 0 ∧ Q ≤ 2 ^ 66 ∧ fw false Q (hh - 65) = rtI N ∧ -1200 ≤ hh ∧ hh ≤ 4000 := by
  have hu0 : u ≠ 0 := by omega
  have hpt : 0 < 2 ^ t := Nat.pow_pos (by omega)
  have h0 : N ≠ 0 := by rw [hN]; exact Nat.mul_ne_zero hu0 (by omega)
  obtain ⟨T, K, hK, hq1, hq2, hE, hG⟩ := beside_facts hN h0 hue
  obtain ⟨b, hb, hb1, _⟩ := blen_nat' (n := u) hl
  have hbl := blen_log hu0
  obtain ⟨hh, hhe⟩ : ∃ h, h = bsH u ue := ⟨_, rfl⟩
  have hh1 : ((b : Int) + ue + 1) / 2 = hh := by rw [hhe, ← hb]; rfl
  obtain ⟨y, hy⟩ : ∃ y, ue - 2 * hh = y := ⟨_, rfl⟩
  obtain ⟨q, hq⟩ : ∃ q, q = bsR u ue := ⟨_, rfl⟩
  have hqr : q = raN (upN 1 u y 64) := by rw [hq, ← hy, hhe]; rfl
  rw [← hhe] at hK hE hG
  rw [← hq] at hq1 hq2 hE hG
  rw [hy] at hK
  have hyb : -4900 ≤ y ∧ y ≤ 0 ∧ (b : Int) + y ≤ 0 := by omega
  have hq0 : q ≠ 0 := by omega
  have hv1 := od_twk hq0
  have hov := (od_mul hq0).2
  obtain ⟨v, hv⟩ : ∃ v, v = od q := ⟨_, rfl⟩
  obtain ⟨k, hk⟩ : ∃ k, k = tw q := ⟨_, rfl⟩
  rw [← hv, ← hk] at hv1
  rw [← hv] at hov
  have hvq : v ≤ q := by rw [hv]; exact od_le q
  have hk64 : k ≤ 64 := by
    have h1 : 2 ^ k ≤ q := by
      have := Nat.mul_le_mul_right (2 ^ k) (show 1 ≤ v by omega)
      omega
    exact (Nat.pow_le_pow_iff_right (a := 2) (by omega)).1 (Nat.le_trans h1 hq2)
  have hlv : (lim v).length ≤ 200 := small_lim (K := 64) (Nat.le_trans hvq hq2) (by omega)
  have hraf : raF 1 u y 64 = (1, lim v, -64 + (k : Int)) := by
    unfold raF
    rw [← hqr, redS_pos hq0, ← hv, ← hk]
  have hdy : IsDy 1 (lim u) y := by
    refine dyB_iff.1 ?_
    rw [dy_odd (isWh_lim hl (.inr ⟨hu0, .inl rfl⟩)) (by omega) (by omega) (by omega)]
    exact decide_eq_true hodd
  have hdv : dyB 1 (lim v) (-64 + (k : Int)) = true := by
    rw [dy_odd (isWh_lim hlv (.inr ⟨by omega, .inl rfl⟩)) (by omega) (by omega) (by omega)]
    exact decide_eq_true hov
  have hrt : rtY 1 (lim u) y 64 = (1, lim v, -64 + (k : Int), 0) := by
    rw [rtY_yes hdy ⟨by omega, by omega⟩ (by omega) (by omega), hraf, fitY_yes hdv]
  have hvv : (v * v) % 2 = 1 := by rw [Nat.mul_mod, hov]
  have hvvl : v * v ≤ 2 ^ 128 := by
    have h1 : v * v ≤ 2 ^ 64 * 2 ^ 64 := Nat.mul_le_mul (Nat.le_trans hvq hq2) (Nat.le_trans hvq hq2)
    rw [← Nat.pow_add] at h1
    exact h1
  have hp : mulW (1 * (v : Int)) (-64 + (k : Int)) (1 * (v : Int)) (-64 + (k : Int)) = (1, lim (v * v), -64 + (k : Int) + (-64 + (k : Int))) := by
    unfold mulW
    rw [Int.one_mul, ← Int.natCast_mul]
    exact redZ_oddn hvv _
  obtain ⟨px, hpx⟩ : ∃ px : Int, px = -64 + (k : Int) + (-64 + (k : Int)) := ⟨_, rfl⟩
  rw [← hpx] at hp
  have hcz : (subW (1 * ((v * v : Nat) : Int)) px (1 * (u : Int)) y).1 = (((q * q * 2 ^ (2 * T) : Nat) : Int) - ((u * 2 ^ K : Nat) : Int)).sign := by
    unfold subW
    rw [addW_at (d := -128 - 2 * (T : Int)) (by omega) (by omega), Int.one_mul, Int.one_mul]
    rw [show (px - (-128 - 2 * (T : Int))).toNat = 2 * k + 2 * T by omega, show (y - (-128 - 2 * (T : Int))).toNat = K by omega]
    have e1 : ((v * v : Nat) : Int) * 2 ^ (2 * k + 2 * T) + -(u : Int) * 2 ^ K = ((q * q * 2 ^ (2 * T) : Nat) : Int) - ((u * 2 ^ K : Nat) : Int) := by
      have e2 : q * q * 2 ^ (2 * T) = v * v * 2 ^ (2 * k + 2 * T) := by rw [← hv1, sq_pow, Nat.mul_assoc, ← Nat.pow_add]
      rw [e2, Int.neg_mul]
      simp [Int.sub_eq_add_neg]
    rw [e1]
    exact sign_sub _
  obtain ⟨cz, hczz⟩ : ∃ cz, cz = (((q * q * 2 ^ (2 * T) : Nat) : Int) - ((u * 2 ^ K : Nat) : Int)).sign := ⟨_, rfl⟩
  rw [← hczz] at hcz
  have h2q : v * 2 ^ (k + 1) = 2 * q := by rw [Nat.pow_succ, ← Nat.mul_assoc, hv1]; omega
  have hm : addW (1 * (v : Int)) (-64 + (k : Int)) (-(1 * ((1 : Nat) : Int))) (-65) = (1, lim (2 * q - 1), -65) := by
    rw [addW_at (d := -65) (by omega) (by omega), Int.one_mul]
    rw [show (-64 + (k : Int) - -65).toNat = k + 1 by omega, show ((-65 : Int) - -65).toNat = 0 by omega]
    have e1 : (v : Int) * 2 ^ (k + 1) + -(1 * ((1 : Nat) : Int)) * 2 ^ 0 = ((2 * q - 1 : Nat) : Int) := by
      have e2 : (v : Int) * 2 ^ (k + 1) = ((2 * q : Nat) : Int) := by rw [← h2q]; simp
      rw [e2]
      omega
    rw [e1]
    exact redZ_oddn (by omega) _
  have hml : (lim (2 * q - 1)).length ≤ 200 := small_lim (K := 65) (by omega) (by omega)
  have hOk : BsOk 1 u ue hh y 1 v (-64 + (k : Int)) 1 (v * v) px cz 1 (2 * q - 1) (-65) b :=
    { hs := .inr ⟨hu0, .inl rfl⟩, hl := hl, hue1 := by omega, hue2 := by omega, hbl := hb, hb1 := hb1, hh1 := hh1, hy := hy, hsc := redS_odd hodd 1 y, hrt := hrt, hv := hlv, sg' := .inr ⟨by omega, .inl rfl⟩,
      hrx1 := by omega, hrx2 := by omega, hp := hp, hpl := Nat.le_trans (small_lim (K := 128) hvvl (by omega)) (by omega), sp := .inr ⟨by omega, .inl rfl⟩, hpx1 := by omega, hpx2 := by omega, hc := hcz, hm := hm, hml := hml, sm := .inr ⟨by omega, .inl rfl⟩, hmx1 := by omega, hmx2 := by omega }
  by_cases he : q * q * 2 ^ (2 * T) = u * 2 ^ K
  · have hc0 : cz = 0 := by rw [hczz, he, Int.sub_self]; rfl
    refine ⟨hh, y, 1, v, -64 + (k : Int), 1, v * v, px, cz, 1, 2 * q - 1, -65, b, 2 * q, hOk, ?_, by omega, by omega, hE he, by omega, by omega⟩
    rw [hc0, if_neg (by omega), redS_odd hov, redS_pos (by omega)]
    have e1 : od (2 * q) = v := by rw [hv, Nat.mul_comm]; exact od_pow hq0 1
    have e2 : tw (2 * q) = k + 1 := by rw [hk, Nat.mul_comm]; exact tw_pow hq0 1
    rw [e1, e2, show hh - 65 + ((k + 1 : Nat) : Int) = -64 + (k : Int) + hh by omega]
  · obtain ⟨g1, g2⟩ := hG he
    have hc1 : 0 < cz := by
      rw [hczz, Int.sign_eq_one_of_pos (by omega)]; omega
    refine ⟨hh, y, 1, v, -64 + (k : Int), 1, v * v, px, cz, 1, 2 * q - 1, -65, b, 2 * q - 1, hOk, ?_, by omega, by omega, g2, by omega, by omega⟩
    rw [if_pos hc1, show -65 + hh = hh - 65 by omega]

open Go Go.RowKit Ieee

theorem fw_p60 : (4877398396442247168 : Nat) = fw false 1 60 := by
  have := fw_shift false 1 60 52
  rw [← this]
  decide +kernel
theorem fit_p60 : Fit 1 60 := Fit.of (by omega) (by omega) (by omega)
theorem read_finite {m : Nat} {i : Int} (h : Fit m i) : ∃ M j, f64.read (fw false m i) = .number false M j := by
  obtain ⟨k, hr, _⟩ := read_fw false h
  exact ⟨_, _, hr⟩
/-- A part that is at least 2^60 times the other one. -/
theorem ge_dom {m n : Nat} {i j : Int} (hF : Fit m i) (hG : Fit n j) : ∃ c, floatBits .mul .f64 (fw false n j) 4877398396442247168 = some c ∧ ∃ d : Bool, (FloatKind.f64.format.order (fw false m i) c == some .gt || FloatKind.f64.format.order (fw false m i) c == some .eq) = d ∧ (d = true → mg (fw false n j) * 2 ^ 60 ≤ mg (fw false m i)) := by
  refine ⟨fw false n (j + 60), ?_, _, rfl, ?_⟩
  · rw [fw_p60, mul_fw false false hG fit_p60, Nat.mul_one]
    rfl
  · by_cases hH : Fit n (j + 60)
    · rw [order_fw false false hF hH (d := -1074) hF.2.1 (by have := hG.2.1; omega), compare_int]
      have e1 : vz false m i (-1074) = ((m * 2 ^ (i + 1074).toNat : Nat) : Int) := by
        unfold vz; rw [signed_false, show (i - -1074).toNat = (i + 1074).toNat by omega]
      have e2 : vz false n (j + 60) (-1074) = ((n * 2 ^ (j + 1074).toNat * 2 ^ 60 : Nat) : Int) := by
        unfold vz
        rw [signed_false, show (j + 60 - -1074).toNat = (j + 1074).toNat + 60 by have := hG.2.1; omega, Nat.pow_add, ← Nat.mul_assoc]
      rw [e1, e2, mg_fw false hF, mg_fw false hG]
      intro h
      by_cases hl : ((m * 2 ^ (i + 1074).toNat : Nat) : Int) < ((n * 2 ^ (j + 1074).toNat * 2 ^ 60 : Nat) : Int)
      · rw [if_pos hl] at h
        cases h
      · exact Int.ofNat_le.1 (Int.not_lt.1 hl)
    · have hinf : fw false n (j + 60) = f64.word false 0x7ff0000000000000 := by
        unfold fw
        rw [rung_big hG.1 (by have := hG.2.1; omega) hH]
      obtain ⟨M, k, hr⟩ := read_finite hF
      have ho : FloatKind.f64.format.order (fw false m i) (fw false n (j + 60)) = some .lt := by
        show Format.order f64 _ _ = _
        unfold Format.order
        rw [hr, hinf, read_inf]
        rfl
      rw [ho]
      intro h
      cases h
/-- Greater squares have roots that are not less. -/
theorem rtI_le2 {N C : Nat} (h : N ≤ C * C) : rawRung f64 (stk (N * 2 ^ 108) (rootN (N * 2 ^ 108))) (-1129) ≤ rawRung f64 C (-1074) := by
  obtain ⟨W, hW⟩ : ∃ W : Nat, W = 54 := ⟨_, rfl⟩
  have h0 : N * 2 ^ (2 * W) ≤ (C * 2 ^ W) * (C * 2 ^ W) := by rw [sq_pow]; exact Nat.mul_le_mul_right _ h
  rw [show 108 = 2 * W by omega]
  have hr := rootN_spec (N * 2 ^ (2 * W))
  generalize N * 2 ^ (2 * W) = n at hr h0 ⊢
  generalize rootN n = r at hr ⊢
  obtain ⟨h1, h2⟩ := hr
  have h5 : C * 2 ^ (W + 1) = C * 2 ^ W * 2 := by rw [Nat.pow_succ, Nat.mul_assoc]
  have h3 : stk n r ≤ C * 2 ^ (W + 1) := by
    rw [h5]
    generalize C * 2 ^ W = D at *
    have h4 : r ≤ D := by
      rcases Nat.lt_or_ge D r with hl | hl
      · exfalso
        have := Nat.mul_lt_mul_of_lt_of_le hl (Nat.le_of_lt hl) (by omega)
        omega
      · exact hl
    rcases Nat.lt_or_ge r D with hl | hl
    · have := stk_le n r; omega
    · obtain rfl : r = D := by omega
      rw [stk_eq (by omega)]
      omega
  generalize stk n r = z at h3 ⊢
  have e1 : ((-1074 : Int) - -1129).toNat = W + 1 := by omega
  have e2 : ((-1129 : Int) - -1129).toNat = 0 := by omega
  refine rawRung_mono f64 (c := -1129) (by omega) (by omega) ?_
  rw [e1, e2, Nat.pow_zero, Nat.mul_one]
  exact h3

open Go Go.RowKit Ieee

theorem isDy_00 : IsDy 0 (lim 0) 0 := ⟨isWh_lim (by rw [lim_zero]; simp) (.inl ⟨rfl, rfl⟩), by omega, by omega, .inl ⟨rfl, rfl⟩⟩
theorem redZ_0 (e : Int) : redZ 0 e = (0, lim 0, 0) := by
  rw [lim_zero]
  unfold redZ
  exact redS_zero _ _
theorem bs_zero : BsOk 0 0 0 0 0 0 0 0 0 0 0 0 (-1) 1 (-65) 0 where
  hs := .inl ⟨rfl, rfl⟩
  hl := by rw [lim_zero]; simp
  hue1 := by omega
  hue2 := by omega
  hbl := blen_zero
  hb1 := by omega
  hh1 := by decide
  hy := by omega
  hsc := by rw [redS_zero, lim_zero]
  hrt := by
    rw [rtY_yes isDy_00 ⟨by omega, by omega⟩ (by omega) (by rw [blen_zero]; omega)]
    have h1 : upN 0 0 0 64 = 0 := by
      unfold upN
      rw [show (-(0 * ((0 : Nat) : Int))) = 0 by simp, shZ_zero]
      rfl
    unfold raF
    rw [h1, raN_zero, redS_zero, ← lim_zero, fitY_yes (dyB_yes isDy_00)]
  hv := by rw [lim_zero]; simp
  sg' := .inl ⟨rfl, rfl⟩
  hrx1 := by omega
  hrx2 := by omega
  hp := by
    unfold mulW
    rw [show (0 * ((0 : Nat) : Int)) * (0 * ((0 : Nat) : Int)) = 0 by simp]
    exact redZ_0 _
  hpl := by rw [lim_zero]; simp
  sp := .inl ⟨rfl, rfl⟩
  hpx1 := by omega
  hpx2 := by omega
  hc := by
    unfold subW
    rw [addW_at (d := 0) (by omega) (by omega)]
    rw [show 0 * ((0 : Nat) : Int) * 2 ^ (0 - 0 : Int).toNat + -(0 * ((0 : Nat) : Int)) * 2 ^ (0 - 0 : Int).toNat = 0 by simp, redZ_0]
  hm := by
    rw [addW_at (d := -65) (by omega) (by omega)]
    rw [show 0 * ((0 : Nat) : Int) * 2 ^ (0 - -65 : Int).toNat + -(1 * ((1 : Nat) : Int)) * 2 ^ (-65 - -65 : Int).toNat = -1 by simp]
    unfold redZ
    exact redS_odd (u := 1) (by decide) (-1) (-65)
  hml := by rw [lim_one]; simp
  sm := .inr ⟨by omega, .inr rfl⟩
  hmx1 := by omega
  hmx2 := by omega
theorem isF_0 : isF .f64 0 = true := by decide +kernel
theorem fitF_0 : fitF 0 = (0, 0) := by unfold fitF; rw [if_pos isF_0]
/-- The rounded number beside the root. -/
theorem flR_redS {Q : Nat} {e : Int} (h1 : Q ≤ 2 ^ 66) (h2 : -4000 ≤ e) (h3 : e ≤ 4900) : (redS 1 Q e).2.1.length ≤ 200 ∧ flR (redS 1 Q e).1 (redS 1 Q e).2.1 (redS 1 Q e).2.2 = fitF (fw false Q e) := by
  have hl : (lim Q).length ≤ 200 := small_lim (K := 66) h1 (by omega)
  refine ⟨Nat.le_trans (redS_len _ _ _) hl, ?_⟩
  have hq : redS 1 Q e = redZ (Q : Int) e := by
    rcases Nat.eq_zero_or_pos Q with h | h
    · subst h
      rw [redS_zero]
      unfold redZ
      exact (redS_zero _ _).symm
    · unfold redZ
      rw [Int.natAbs_natCast, Int.sign_eq_one_of_pos (by omega)]
  rw [hq]
  have hlog : Q.log2 ≤ 66 := big_log (k := 66) (by omega)
  obtain ⟨_, g⟩ := fl_red (z := (Q : Int)) (e := e) (by rw [Int.natAbs_natCast]; exact hl) h2 (by rw [Int.natAbs_natCast]; omega)
  rcases g with g | ⟨g1, g2⟩
  · rw [g, ← fit_flt, Int.natAbs_natCast]
    by_cases h0 : Q = 0
    · subst h0
      rw [fw_zero, fw_zero]
      rfl
    · rw [Int.sign_eq_one_of_pos (by omega)]
      rfl
  · have h0 : Q = 0 := by omega
    subst h0
    rw [g2, fw_0, fw_0, fitF_0]
theorem bs_all {N C : Nat} (hC : C = 4197) (hN : N < 2 ^ C) : ∃ (s : Int) (u : Nat) (ue hh y g : Int) (v : Nat) (rx p1 : Int) (p : Nat) (px cz m1 : Int) (mm : Nat) (mx : Int) (b : Nat) (R1 : Int) (R2 : List Int) (R3 : Int),
    redZ (N : Int) (-2148) = (s, lim u, ue) ∧ dyB s (lim u) ue = true ∧ BsOk s u ue hh y g v rx p1 p px cz m1 mm mx b ∧ (if 0 < cz then redS m1 mm (mx + hh) else redS g v (rx + hh)) = (R1, R2, R3) ∧ R2.length ≤ 200 ∧ flR R1 R2 R3 = fitF (rtI N) := by
  by_cases h0 : N = 0
  · subst h0
    have hr : (if (0 : Int) < 0 then redS (-1) 1 (-65 + 0) else redS 0 0 (0 + 0)) = (0, [], 0) := by
      rw [if_neg (by omega), redS_zero]
    refine ⟨0, 0, 0, 0, 0, 0, 0, 0, 0, 0, 0, 0, -1, 1, -65, 0, 0, [], 0, redZ_0 _, dyB_yes isDy_00, bs_zero, hr, by simp, ?_⟩
    have h1 := (flR_redS (Q := 0) (e := 0) (by omega) (by omega) (by omega)).2
    rw [redS_zero, fw_0] at h1
    rw [rtI_zero]
    exact h1
  · have hl : (lim (od N)).length ≤ 200 := Nat.le_trans (lim_le_of_le (od_le N)) (big_200 hN (by omega))
    have ht : tw N ≤ 4300 := by
      have h1 : 2 ^ tw N ≤ N := by
        have h2 := od_twk h0
        have h3 := (od_mul h0).2
        have := Nat.mul_le_mul_right (2 ^ tw N) (show 1 ≤ od N by omega)
        omega
      have h2 : tw N < C := (Nat.pow_lt_pow_iff_right (a := 2) (by omega)).1 (Nat.lt_of_le_of_lt h1 hN)
      omega
    obtain ⟨hh, y, g, v, rx, p1, p, px, cz, m1, mm, mx, b, Q, hB, hR, hQ0, hQ, hf, hh1, hh2⟩ := beside_spec (ue := (tw N : Int) - 2148) (od_mul h0).2 (od_twk h0).symm rfl hl ht
    obtain ⟨f1, f2⟩ := flR_redS (Q := Q) (e := hh - 65) hQ (by omega) (by omega)
    obtain ⟨⟨R1, R2, R3⟩, hRR⟩ : ∃ R, redS 1 Q (hh - 65) = R := ⟨_, rfl⟩
    rw [hRR] at hR f1 f2
    rw [hf] at f2
    refine ⟨1, od N, (tw N : Int) - 2148, hh, y, g, v, rx, p1, p, px, cz, m1, mm, mx, b, R1, R2, R3, ?_, ?_, hB, hR, f1, f2⟩
    · unfold redZ
      rw [Int.natAbs_natCast, Int.sign_eq_one_of_pos (by omega), redS_pos h0, show -2148 + (tw N : Int) = (tw N : Int) - 2148 by omega]
    · rw [dy_odd (isWh_lim hl (.inr ⟨by have := (od_mul h0).2; omega, .inl rfl⟩)) (by omega) (by omega) (by omega)]
      exact decide_eq_true (od_mul h0).2
end Go.Proofs.YtgppagmejhgmaaaGreatDoor
