/-
  A division bit by bit: what its loops keep. Plain mathematics, no conditions.
-/
import Derived.Test.YtnnbfoemmgddeaaGreatDoorVe
namespace Go.Proofs.YtnnbfoemmgddeaaGreatDoor
set_option linter.unusedVariables false

/-- The rest is doubled in place, with a bit behind. -/
structure DblInv (R S : List Nat) (t c i : Nat) : Prop where
  len : S.length = R.length
  small : Small S
  same : ∀ j, i ≤ j → S.getD j 0 = R.getD j 0
  eq : val (S.take i) + 16777216 ^ i * c = 2 * val (R.take i) + t
  c : c ≤ 1
theorem dblInv_start {R : List Nat} (hR : Small R) {t : Nat} (ht : t ≤ 1) : DblInv R R t t 0 := ⟨rfl, hR, fun _ _ => rfl, by simp [val], ht⟩
theorem getD_setN_ne {L : List Nat} {a b : Nat} (x : Nat) (h : a ≠ b) : (L.set a x).getD b 0 = L.getD b 0 := by
  simp [List.getD, List.getElem?_set_ne h]
theorem getD_setN_eq {L : List Nat} {a : Nat} (x : Nat) (h : a < L.length) : (L.set a x).getD a 0 = x := by
  simp [List.getD, List.getElem?_set_self h]
theorem take_setN {L : List Nat} (i x : Nat) : (L.set i x).take i = L.take i := by
  apply List.ext_getElem
  · simp
  · intro j h1 h2
    have hj : j < i := by rw [List.length_take] at h2; omega
    rw [List.getElem_take, List.getElem_take, List.getElem_set_ne (by omega)]
theorem dblInv_step {R S : List Nat} {t c i : Nat} (h : DblInv R S t c i) (hi : i < S.length) :
    DblInv R (S.set i ((2 * S.getD i 0 + c) % 16777216)) t ((2 * S.getD i 0 + c) / 16777216) (i + 1) ∧ S.getD i 0 < 16777216 := by
  have hs := getD_lt h.small i
  have hc := h.c
  refine ⟨⟨by rw [List.length_set]; exact h.len, small_set h.small i (Nat.mod_lt _ (by omega)), fun j hj => ?_, ?_, by omega⟩, hs⟩
  · rw [getD_setN_ne _ (by omega)]
    exact h.same j (by omega)
  · have e := h.eq
    have e2 := h.same i (Nat.le_refl _)
    rw [val_take_getD, val_take_getD, take_setN, getD_setN_eq _ hi, ← e2, Nat.pow_succ]
    have e4 := Nat.div_add_mod (2 * S.getD i 0 + c) 16777216
    generalize (2 * S.getD i 0 + c) % 16777216 = u at *
    generalize (2 * S.getD i 0 + c) / 16777216 = q at *
    generalize S.getD i 0 = x at *
    generalize val (S.take i) = a1 at *
    generalize val (R.take i) = a2 at *
    generalize 16777216 ^ i = P at *
    grind
theorem dblInv_done {R S : List Nat} {t c : Nat} (h : DblInv R S t c R.length) (hb : 2 * val R + t < 16777216 ^ R.length) : val S = 2 * val R + t := by
  have e := h.eq
  rw [List.take_length, show R.length = S.length from h.len.symm, List.take_length] at e
  rw [← h.len] at hb
  rcases Nat.eq_zero_or_pos c with h0 | h0
  · subst h0; omega
  · have : 16777216 ^ S.length * 1 ≤ 16777216 ^ S.length * c := Nat.mul_le_mul_left _ h0
    omega

/-- The divisor is taken off in place. -/
structure SubInv (R B S : List Nat) (q i : Nat) : Prop where
  len : S.length = R.length
  small : Small S
  same : ∀ j, i ≤ j → S.getD j 0 = R.getD j 0
  eq : val (S.take i) + val (B.take i) = val (R.take i) + 16777216 ^ i * q
  q : q ≤ 1
theorem subInv_start {R : List Nat} (hR : Small R) (B : List Nat) : SubInv R B R 0 0 := ⟨rfl, hR, fun _ _ => rfl, by simp [val], by omega⟩
theorem subInv_step {R B S : List Nat} {q i r p : Nat} (h : SubInv R B S q i) (hi : i < S.length) (hr : r < 16777216) (hp : p ≤ 1) (e : r + q + B.getD i 0 = S.getD i 0 + 16777216 * p) :
    SubInv R B (S.set i r) p (i + 1) := by
  refine ⟨by rw [List.length_set]; exact h.len, small_set h.small i hr, fun j hj => ?_, ?_, hp⟩
  · rw [getD_setN_ne _ (by omega)]
    exact h.same j (by omega)
  · have e1 := h.eq
    have e2 := h.same i (Nat.le_refl _)
    rw [val_take_getD, val_take_getD, val_take_getD, take_setN, getD_setN_eq _ hi, ← e2, Nat.pow_succ]
    generalize B.getD i 0 = y at *
    generalize S.getD i 0 = x at *
    generalize val (S.take i) = a1 at *
    generalize val (R.take i) = a2 at *
    generalize val (B.take i) = a3 at *
    generalize 16777216 ^ i = P at *
    grind
theorem subInv_done {R B S : List Nat} {q : Nat} (h : SubInv R B S q R.length) (hB : B.length ≤ R.length) (hv : val B ≤ val R) : val S = val R - val B := by
  have e := h.eq
  rw [List.take_length, List.take_of_length_le hB, show R.length = S.length from h.len.symm, List.take_length] at e
  have hs := val_lt h.small
  rcases Nat.eq_zero_or_pos q with h0 | h0
  · subst h0; omega
  · have : 16777216 ^ S.length * 1 ≤ 16777216 ^ S.length * q := Nat.mul_le_mul_left _ h0
    omega

/-- What the rest and the quotient are, when the bits from k on are done. -/
structure DivAt (n v : Nat) (R Q : List Nat) (lq k : Nat) : Prop where
  small : Small R
  rest : val R = n / 2 ^ k % v
  qsmall : Small Q
  qlen : Q.length = lq
  quo : val Q = n / 2 ^ k / v * 2 ^ k
theorem half_bit (n k : Nat) : n / 2 ^ k = 2 * (n / 2 ^ (k + 1)) + n / 2 ^ k % 2 := by
  rw [Nat.pow_succ, ← Nat.div_div_eq_div_mul]
  omega
theorem div_step_less {n v k r : Nat} (hv : 0 < v) (hr : r = n / 2 ^ (k + 1) % v) (hl : 2 * r + n / 2 ^ k % 2 < v) : 2 * r + n / 2 ^ k % 2 = n / 2 ^ k % v ∧ n / 2 ^ (k + 1) / v * 2 ^ (k + 1) = n / 2 ^ k / v * 2 ^ k := by
  have h1 := half_bit n k
  have h2 := Nat.div_add_mod (n / 2 ^ (k + 1)) v
  rw [← hr] at h2
  generalize n / 2 ^ k % 2 = t at *
  generalize n / 2 ^ (k + 1) = A at *
  have h3 : n / 2 ^ k = v * (2 * (A / v)) + (2 * r + t) := by
    rw [h1]
    generalize A / v = q at *
    grind
  constructor
  · rw [h3, Nat.mul_add_mod, Nat.mod_eq_of_lt hl]
  · rw [h3, Nat.mul_add_div hv, Nat.div_eq_of_lt hl, Nat.pow_succ, Nat.add_zero, Nat.mul_comm 2 (A / v), Nat.mul_assoc, Nat.mul_comm 2 (2 ^ k)]
theorem div_step_more {n v k r : Nat} (hv : 0 < v) (hr : r = n / 2 ^ (k + 1) % v) (hl : v ≤ 2 * r + n / 2 ^ k % 2) : 2 * r + n / 2 ^ k % 2 - v = n / 2 ^ k % v ∧ n / 2 ^ (k + 1) / v * 2 ^ (k + 1) + 2 ^ k = n / 2 ^ k / v * 2 ^ k := by
  have h1 := half_bit n k
  have h2 := Nat.div_add_mod (n / 2 ^ (k + 1)) v
  have h4 := Nat.mod_lt (n / 2 ^ (k + 1)) hv
  have h5 : n / 2 ^ k % 2 < 2 := Nat.mod_lt _ (by omega)
  rw [← hr] at h2 h4
  generalize n / 2 ^ k % 2 = t at *
  generalize n / 2 ^ (k + 1) = A at *
  have h3 : n / 2 ^ k = v * (2 * (A / v) + 1) + (2 * r + t - v) := by
    rw [h1]
    generalize A / v = q at *
    have : v * (2 * q + 1) = 2 * (v * q) + v := by grind
    omega
  constructor
  · rw [h3, Nat.mul_add_mod, Nat.mod_eq_of_lt (by omega)]
  · rw [h3, Nat.mul_add_div hv, Nat.div_eq_of_lt (show 2 * r + t - v < v by omega), Nat.pow_succ, Nat.add_zero]
    generalize A / v = q at *
    generalize 2 ^ k = P at *
    grind
/-- A bit is laid into the quotient. -/
theorem quo_bit {Q : List Nat} (hQ : Small Q) {a k : Nat} (hq : val Q = a * 2 ^ (k + 1)) (hk : k / 24 < Q.length) :
    Small (Q.set (k / 24) (Q.getD (k / 24) 0 + 2 ^ (k % 24))) ∧ val (Q.set (k / 24) (Q.getD (k / 24) 0 + 2 ^ (k % 24))) = val Q + 2 ^ k ∧ Q.getD (k / 24) 0 + 2 ^ (k % 24) < 16777216 := by
  have hm := Nat.div_add_mod k 24
  have hr := Nat.mod_lt k (show 0 < 24 by omega)
  have hb : Q.getD (k / 24) 0 + 2 ^ (k % 24) < 16777216 := by
    have h1 := val_split Q (k / 24) (by omega)
    have h2 := val_drop Q (k / 24) hk
    have h3 := val_lt (small_take hQ (k / 24))
    rw [List.length_take, Nat.min_eq_left (by omega)] at h3
    rw [getD_of_lt hk]
    have hx := hQ (k / 24) hk
    generalize k % 24 = r at *
    generalize hi : k / 24 = i at *
    obtain ⟨d, hd⟩ : ∃ d, 24 = r + (d + 1) := ⟨23 - r, by omega⟩
    have e24 : (16777216 : Nat) = 2 ^ r * (2 * 2 ^ d) := by
      rw [← Nat.pow_succ', ← Nat.pow_add, ← hd]
    -- the limb is a multiple of 2^(r+1)
    have hdiv : val Q / 16777216 ^ i = val (Q.drop i) := by
      rw [h1, Nat.add_mul_div_left _ _ (pow_pos' i), Nat.div_eq_of_lt h3, Nat.zero_add]
    have hval : val Q / 16777216 ^ i = a * 2 ^ (r + 1) := by
      rw [hq, two24, show k + 1 = (r + 1) + 24 * i by omega, Nat.pow_add, ← Nat.mul_assoc]
      exact Nat.mul_div_cancel _ (Nat.pow_pos (by omega))
    rw [hdiv, h2] at hval
    generalize Q[i] = x at *
    generalize val (Q.drop (i + 1)) = z at *
    have hxm : x % 2 ^ (r + 1) = 0 := by
      have e2 : 16777216 * z = 2 ^ (r + 1) * (2 ^ d * z) := by
        conv => lhs; rw [e24]
        rw [Nat.pow_succ, Nat.mul_assoc, Nat.mul_assoc, Nat.mul_assoc]
      have : (x + 16777216 * z) % 2 ^ (r + 1) = 0 := by rw [hval]; exact Nat.mul_mod_left _ _
      rw [e2, Nat.add_mul_mod_self_left] at this
      exact this
    obtain ⟨y, hy⟩ : ∃ y, x = 2 ^ (r + 1) * y := ⟨x / 2 ^ (r + 1), by
      have := Nat.div_add_mod x (2 ^ (r + 1)); omega⟩
    have hy2 : y < 2 ^ d := by
      have e3 : (16777216 : Nat) = 2 ^ (r + 1) * 2 ^ d := by rw [e24, Nat.pow_succ, Nat.mul_assoc]
      rw [hy, e3] at hx
      exact Nat.lt_of_mul_lt_mul_left hx
    have h6 : 2 ^ (r + 1) * (y + 1) ≤ 2 ^ (r + 1) * 2 ^ d := Nat.mul_le_mul_left _ hy2
    have e3 : (16777216 : Nat) = 2 ^ (r + 1) * 2 ^ d := by rw [e24, Nat.pow_succ, Nat.mul_assoc]
    rw [← e3, Nat.mul_add, ← hy, Nat.pow_succ] at h6
    have : 0 < 2 ^ r := Nat.pow_pos (by omega)
    omega
  refine ⟨small_set hQ _ hb, ?_, hb⟩
  have e := val_set (xs := Q) (k / 24) hk (Q.getD (k / 24) 0 + 2 ^ (k % 24))
  rw [getD_of_lt hk] at e ⊢
  rw [Nat.mul_add] at e
  have e2 : 16777216 ^ (k / 24) * 2 ^ (k % 24) = 2 ^ k := by rw [two24, ← Nat.pow_add, hm]
  rw [e2] at e
  omega
end Go.Proofs.YtnnbfoemmgddeaaGreatDoor
