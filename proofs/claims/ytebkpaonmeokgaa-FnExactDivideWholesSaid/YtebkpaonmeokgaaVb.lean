/-
  A step of a division by limbs: the guess is the limb of the quotient, or too large by 1. Plain mathematics, no conditions.
-/
import Derived.Test.YtebkpaonmeokgaaUo
namespace Go.Proofs.Ytebkpaonmeokgaa
set_option linter.unusedVariables false

theorem guess_bounds {P V v u d t0 t1 : Nat} (hV : V = u * P + t0) (ht0 : t0 < P) (hv : v = d * P + t1) (ht1 : t1 < P) (hd : 16777216 ≤ d) (hlt : V < 16777216 * v) :
    V / v ≤ u / d ∧ u / d ≤ V / v + 1 := by
  have hP : 0 < P := by omega
  have hdP : P ≤ d * P := Nat.le_mul_of_pos_left _ (by omega)
  have hv0 : 0 < v := by omega
  have hq : V / v < 16777216 := (Nat.div_lt_iff_lt_mul hv0).2 hlt
  have h1 : V / v * v ≤ V := Nat.div_mul_le_self V v
  have h2 : V < (V / v + 1) * v := by
    rw [Nat.mul_comm]; exact Nat.lt_mul_div_succ V hv0
  generalize V / v = q at *
  constructor
  · rw [Nat.le_div_iff_mul_le (by omega)]
    have h3 : q * (d * P) ≤ q * v := Nat.mul_le_mul_left _ (by omega)
    have h4 : q * d * P < (u + 1) * P := by
      rw [Nat.mul_assoc, Nat.add_mul, Nat.one_mul]; omega
    have := Nat.lt_of_mul_lt_mul_right h4
    omega
  · have h3 : u / d < q + 2 := by
      rw [Nat.div_lt_iff_lt_mul (by omega)]
      have h5 : (q + 1) * v ≤ (q + 1) * ((d + 1) * P) := Nat.mul_le_mul_left _ (by rw [Nat.add_mul, Nat.one_mul]; omega)
      have h6 : u * P < (q + 1) * (d + 1) * P := by rw [Nat.mul_assoc]; omega
      have h7 := Nat.lt_of_mul_lt_mul_right h6
      have h8 : (q + 1) * (d + 1) = (q + 1) * d + (q + 1) := by rw [Nat.mul_add, Nat.mul_one]
      have h9 : (q + 2) * d = (q + 1) * d + d := by rw [show q + 2 = (q + 1) + 1 by omega, Nat.add_mul, Nat.one_mul]
      omega
    omega

theorem segI_bounds {R : List Int} {i : Nat} : ∀ {k : Nat}, (∀ j, j < k → 0 ≤ R.getD (i + j) 0 ∧ R.getD (i + j) 0 < 16777216) → 0 ≤ segI R i k ∧ segI R i k < 16777216 ^ k
  | 0, _ => ⟨Int.le_refl 0, by show (0 : Int) < 1; omega⟩
  | k + 1, h => by
    obtain ⟨h1, h2⟩ := segI_bounds (k := k) (fun j hj => h j (by omega))
    obtain ⟨h3, h4⟩ := h k (by omega)
    rw [segI, Int.pow_succ]
    have hp : (0 : Int) < 16777216 ^ k := Int.pow_pos (by omega)
    generalize (16777216 : Int) ^ k = P at *
    generalize R.getD (i + k) 0 = r at *
    have h5 : 0 ≤ P * r := Int.mul_nonneg (by omega) h3
    have h6 : P * r ≤ P * 16777215 := Int.mul_le_mul_of_nonneg_left (by omega) (by omega)
    omega
/-- The top limb tells the sign. -/
theorem seg_top {S : List Int} {i n : Nat} {W : Int} (hd : ∀ j, j < n → 0 ≤ S.getD (i + j) 0 ∧ S.getD (i + j) 0 < 16777216) (e : segI S i (n + 1) = W) (h1 : -(16777216 ^ n) ≤ W) (h2 : W < 16777216 ^ n) :
    (W < 0 → S.getD (i + n) 0 = -1) ∧ (0 ≤ W → S.getD (i + n) 0 = 0) := by
  obtain ⟨b1, b2⟩ := segI_bounds hd
  rw [segI] at e
  have hp : (0 : Int) < 16777216 ^ n := Int.pow_pos (by omega)
  generalize (16777216 : Int) ^ n = P at *
  generalize S.getD (i + n) 0 = t at *
  generalize segI S i n = a at *
  have hm : ∀ k : Int, k + 1 ≤ t → P * (k + 1) ≤ P * t := fun k h => Int.mul_le_mul_of_nonneg_left h (by omega)
  have hm' : ∀ k : Int, t ≤ k → P * t ≤ P * k := fun k h => Int.mul_le_mul_of_nonneg_left h (by omega)
  constructor
  · intro hW
    rcases Int.lt_trichotomy t (-1) with h | h | h
    · have := hm' (-2) (by omega); omega
    · exact h
    · have := hm (-1) (by omega); omega
  · intro hW
    rcases Int.lt_trichotomy t 0 with h | h | h
    · have := hm' (-1) (by omega); omega
    · exact h
    · have := hm 0 (by omega); omega
/-- What a step knows of the rest and the divisor. -/
structure StepAt (R : List Int) (D : List Nat) (i : Nat) (V : Nat) : Prop where
  two : 2 ≤ D.length
  fits : i + D.length < R.length
  digs : ∀ j, j ≤ D.length → 0 ≤ R.getD (i + j) 0 ∧ R.getD (i + j) 0 < 16777216
  eq : segI R i (D.length + 1) = V
  lt : V < 16777216 * val D
  top : D.getD (D.length - 1) 0 ≠ 0
theorem stepAt_guess {R : List Int} {D : List Nat} {i V : Nat} (h : StepAt R D i V) (sD : Small D) {f s t d1 d0 : Nat}
    (hf : R.getD (i + D.length) 0 = (f : Int)) (hs : R.getD (i + D.length - 1) 0 = (s : Int)) (ht : R.getD (i + D.length - 2) 0 = (t : Int)) (hd1 : D.getD (D.length - 1) 0 = d1) (hd0 : D.getD (D.length - 2) 0 = d0) :
    V / val D ≤ (f * 281474976710656 + s * 16777216 + t) / (d1 * 16777216 + d0) ∧ (f * 281474976710656 + s * 16777216 + t) / (d1 * 16777216 + d0) ≤ V / val D + 1 ∧ V / val D < 16777216 ∧ 0 < val D := by
  obtain ⟨n, hn⟩ : ∃ n, D.length = n + 2 := ⟨D.length - 2, by have := h.two; omega⟩
  have htop := h.top
  rw [hd1] at htop
  have hdv : val D = val (D.take n) + 16777216 ^ n * d0 + 16777216 ^ (n + 1) * d1 := by
    have e1 := val_take_getD D n
    have e2 := val_take_getD D (n + 1)
    rw [show n + 1 + 1 = D.length by omega, List.take_length] at e2
    rw [show D.length - 1 = n + 1 by omega] at hd1
    rw [show D.length - 2 = n by omega] at hd0
    rw [hd1] at e2
    rw [hd0] at e1
    omega
  have hlow := val_lt (small_take sD n)
  rw [List.length_take, Nat.min_eq_left (by omega)] at hlow
  have hseg := h.eq
  rw [show D.length + 1 = n + 1 + 1 + 1 by omega, segI, segI, segI] at hseg
  rw [show i + D.length = i + (n + 2) by omega] at hf
  rw [show i + D.length - 1 = i + (n + 1) by omega] at hs
  rw [show i + D.length - 2 = i + n by omega] at ht
  rw [show i + (n + 1 + 1) = i + (n + 2) by omega, hf, hs, ht] at hseg
  obtain ⟨b1, b2⟩ := segI_bounds (R := R) (i := i) (k := n) (fun j hj => h.digs j (by omega))
  obtain ⟨z, hz⟩ := Int.eq_ofNat_of_zero_le b1
  rw [hz] at hseg b2
  have hpz : z < 16777216 ^ n := by
    have : ((16777216 ^ n : Nat) : Int) = (16777216 : Int) ^ n := cast_pow n
    omega
  have hV : V = (f * 281474976710656 + s * 16777216 + t) * 16777216 ^ n + z := by
    have : ((16777216 ^ n : Nat) : Int) = (16777216 : Int) ^ n := cast_pow n
    simp only [Int.pow_succ] at hseg
    rw [← this] at hseg
    obtain ⟨u, hu⟩ : ∃ u, u = f * 281474976710656 + s * 16777216 + t := ⟨_, rfl⟩
    have huI : (u : Int) = (f : Int) * 281474976710656 + (s : Int) * 16777216 + (t : Int) := by omega
    rw [← hu]
    have e3 : (V : Int) = ((u * 16777216 ^ n + z : Nat) : Int) := by
      rw [← hseg, Int.natCast_add, Int.natCast_mul, huI]
      generalize ((16777216 ^ n : Nat) : Int) = P
      grind
    exact Int.ofNat.inj e3
  have hD2 : val D = (d1 * 16777216 + d0) * 16777216 ^ n + val (D.take n) := by
    rw [hdv, Nat.pow_succ]
    generalize (16777216 : Nat) ^ n = P
    grind
  have hlt := h.lt
  obtain ⟨g1, g2⟩ := guess_bounds hV hpz hD2 hlow (by omega) hlt
  have hv0 : 0 < val D := by omega
  exact ⟨g1, g2, (Nat.div_lt_iff_lt_mul hv0).2 hlt, hv0⟩
/-! The whole division -/
theorem ofN_of {S : List Int} (h : ∀ j, j < S.length → 0 ≤ S.getD j 0 ∧ S.getD j 0 < 16777216) : ∃ L : List Nat, S = ofN L ∧ Small L := by
  refine ⟨S.map Int.toNat, ?_, ?_⟩
  · apply List.ext_getElem
    · simp [ofN]
    · intro i h1 h2
      have := h i h1
      simp [List.getD, List.getElem?_eq_getElem h1] at this
      simp [ofN]
      omega
  · intro i hi
    have hi' : i < S.length := by simpa using hi
    have := h i hi'
    simp [List.getD, List.getElem?_eq_getElem hi'] at this
    simp
    omega
theorem ofN_getD (L : List Nat) (j : Nat) : (ofN L).getD j 0 = ((L.getD j 0 : Nat) : Int) := by
  by_cases h : j < L.length
  · simp [ofN, List.getD, List.getElem?_eq_getElem h]
  · simp [ofN, List.getD, List.getElem?_eq_none (by omega : L.length ≤ j)]
theorem getD_drop' (L : List Nat) (i k : Nat) : (L.drop i).getD k 0 = L.getD (i + k) 0 := by
  simp [List.getD, List.getElem?_drop]
theorem segI_ofN (L : List Nat) (i : Nat) : ∀ k, segI (ofN L) i k = (val ((L.drop i).take k) : Int)
  | 0 => by rw [List.take_zero]; rfl
  | k + 1 => by
    rw [segI, segI_ofN L i k, val_take_getD, getD_drop', ofN_getD, Int.natCast_add, Int.natCast_mul, cast_pow]
structure DivInv (M : Nat) (D : List Nat) (lm : Nat) (R Q : List Nat) (i : Nat) : Prop where
  rl : R.length = lm + 1
  rs : Small R
  ql : Q.length = lm - D.length + 1
  qs : Small Q
  low : ∀ j, j < i → Q.getD j 0 = 0
  lt : val (R.drop i) < val D
  eq : val R + val D * val Q = M
theorem divInv_start {M : Nat} {D : List Nat} (hD : Norm D) (h2 : 2 ≤ D.length) (hl : D.length ≤ (dig M).length) :
    DivInv M D (dig M).length (dig M ++ [0]) (List.replicate ((dig M).length - D.length + 1) 0) ((dig M).length - D.length + 1) := by
  refine ⟨by simp, small_append (small_dig M) (small_cons (by omega) small_nil), by simp, small_zeros _, fun j hj => ?_, ?_, ?_⟩
  · simp [List.getD, hj]
  · have e : (dig M ++ [0]).drop ((dig M).length - D.length + 1) = (dig M).drop ((dig M).length - D.length + 1) ++ [0] := by
      rw [List.drop_append_of_le_length (by omega)]
    rw [e, val_append]
    have h3 := val_lt (small_drop (small_dig M) ((dig M).length - D.length + 1))
    have h4 := val_ge hD (by omega)
    rw [List.length_drop, show (dig M).length - ((dig M).length - D.length + 1) = D.length - 1 by omega] at h3
    simp [val]
    omega
  · rw [val_zeros, val_append, val_dig]
    simp [val]
theorem divInv_at {M : Nat} {D : List Nat} {lm : Nat} {R Q : List Nat} {i : Nat} (h : DivInv M D lm R Q (i + 1)) (hD : Norm D) (h2 : 2 ≤ D.length) (hl : D.length ≤ lm) (hi : i < Q.length) :
    StepAt (ofN R) D i (val (R.drop i)) ∧ val ((R.drop i).take (D.length + 1)) = val (R.drop i) ∧ val (R.drop (i + D.length + 1)) = 0 := by
  have hql := h.ql
  have hrl := h.rl
  have hiR : i < R.length := by omega
  have e1 := val_drop R i hiR
  have hx := h.rs i hiR
  have hlt := h.lt
  have hvd := val_lt hD.1
  have s1 := val_split (R.drop (i + 1)) D.length (by rw [List.length_drop]; omega)
  rw [List.drop_drop] at s1
  have hz : val (R.drop (i + 1 + D.length)) = 0 := by
    rcases Nat.eq_zero_or_pos (val (R.drop (i + 1 + D.length))) with h0 | h0
    · exact h0
    · have : 16777216 ^ D.length * 1 ≤ 16777216 ^ D.length * val (R.drop (i + 1 + D.length)) := Nat.mul_le_mul_left _ h0
      omega
  have s2 := val_split (R.drop i) (D.length + 1) (by rw [List.length_drop]; omega)
  rw [List.drop_drop] at s2
  have hz2 : val (R.drop (i + (D.length + 1))) = 0 := by rw [show i + (D.length + 1) = i + 1 + D.length by omega]; exact hz
  rw [hz2, Nat.mul_zero, Nat.add_zero] at s2
  refine ⟨⟨h2, by rw [ofN_length]; omega, fun j hj => ?_, ?_, by omega, ?_⟩, s2.symm, by rw [show i + D.length + 1 = i + 1 + D.length by omega]; exact hz⟩
  · rw [ofN_getD]
    have := getD_lt h.rs (i + j)
    omega
  · rw [segI_ofN, ← s2]
  · have := hD.2 (by omega)
    rwa [getD_of_lt (by omega)]
theorem divInv_step {M : Nat} {D : List Nat} {lm : Nat} {R Q R' : List Nat} {i : Nat} (h : DivInv M D lm R Q (i + 1)) (hD : Norm D) (h2 : 2 ≤ D.length) (hl : D.length ≤ lm) (hi : i < Q.length)
    (rs : Small R') (rl : R'.length = R.length) (same : ∀ j, (j < i ∨ i + D.length < j) → R'.getD j 0 = R.getD j 0) (hv : val ((R'.drop i).take (D.length + 1)) = val (R.drop i) % val D) :
    DivInv M D lm R' (Q.set i (val (R.drop i) / val D)) i := by
  obtain ⟨st, e1, hz⟩ := divInv_at h hD h2 hl hi
  have hql := h.ql
  have hrl := h.rl
  have hv0 : 0 < val D := by have := h.lt; omega
  have hq : val (R.drop i) / val D < 16777216 := (Nat.div_lt_iff_lt_mul hv0).2 st.lt
  have ext : ∀ {A B : List Nat}, A.length = B.length → (∀ j, j < A.length → A.getD j 0 = B.getD j 0) → A = B := fun {A B} hlen hh => by
    apply List.ext_getElem hlen
    intro j h1 h2
    have := hh j h1
    rwa [getD_of_lt h1, getD_of_lt h2] at this
  have t1 : R'.take i = R.take i := by
    refine ext (by simp [rl]) fun j hj => ?_
    have hj' : j < i := by rw [List.length_take] at hj; omega
    have := same j (.inl hj')
    simpa [List.getD, List.getElem?_take, hj'] using this
  have t2 : R'.drop (i + D.length + 1) = R.drop (i + D.length + 1) := by
    refine ext (by simp [rl]) fun j hj => ?_
    rw [getD_drop', getD_drop']
    exact same _ (.inr (by omega))
  have s3 := val_split (R'.drop i) (D.length + 1) (by rw [List.length_drop]; omega)
  rw [List.drop_drop, show i + (D.length + 1) = i + D.length + 1 by omega, t2, hz, Nat.mul_zero, Nat.add_zero, hv] at s3
  refine ⟨by omega, rs, by rw [List.length_set]; exact hql, small_set h.qs i hq, fun j hj => ?_, ?_, ?_⟩
  · have := h.low j (by omega)
    rwa [show (Q.set i (val (R.drop i) / val D)).getD j 0 = Q.getD j 0 by simp [List.getD, List.getElem?_set_ne (show i ≠ j by omega)]]
  · rw [s3]; exact Nat.mod_lt _ hv0
  · have u1 := val_split R' i (by omega)
    have u2 := val_split R i (by omega)
    have u3 := val_set (xs := Q) i hi (val (R.drop i) / val D)
    have hq0 := h.low i (by omega)
    rw [getD_of_lt hi] at hq0
    rw [hq0, Nat.mul_zero, Nat.add_zero] at u3
    rw [t1, s3] at u1
    have e := h.eq
    have e4 := Nat.div_add_mod (val (R.drop i)) (val D)
    rw [u1, u3, ← e, u2]
    generalize val (R.drop i) % val D = r at *
    generalize val (R.drop i) / val D = q at *
    rw [← e4]
    generalize val (R.take i) = a at *
    generalize 16777216 ^ i = P at *
    grind
theorem divInv_end {M : Nat} {D : List Nat} {lm : Nat} {R Q : List Nat} (h : DivInv M D lm R Q 0) : val Q = M / val D ∧ val R = M % val D := by
  have h1 := h.lt
  rw [List.drop_zero] at h1
  have e := h.eq
  rw [← e]
  constructor
  · rw [Nat.add_mul_div_left _ _ (by omega), Nat.div_eq_of_lt h1, Nat.zero_add]
  · rw [Nat.add_mul_mod_self_left, Nat.mod_eq_of_lt h1]
end Go.Proofs.Ytebkpaonmeokgaa
