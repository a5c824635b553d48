/-
  A division bit by bit: what its loops keep. Plain mathematics, no conditions. A division bit by bit: the comparison of the rest with the divisor. Plain mathematics, no conditions. Contract of the model: division bit by bit. Conditions: the limbs can be read, the divisor is not 0. Contracts: DivideWholes of the program and of the model. Conditions: the limbs can be read.
-/
import Derived.Test.YtgppagmejhgmaaaGreatDoorVe
import Derived.Test.YtgppagmejhgmaaaGreatDoorRd
import Derived.Test.YtgppagmejhgmaaaGreatDoorRb
import Derived.Test.YtgppagmejhgmaaaGreatDoorVl
import Derived.BigRegion
import Derived.BigQuiet
namespace Go.Proofs.YtgppagmejhgmaaaGreatDoor
set_option linter.unusedVariables false
open Go Go.RowKit

/-- The rest is doubled in place, with a bit behind. -/
structure DblInv (R S : List Nat) (t c i : Nat) : Prop where
  len : S.length = R.length
  small : Small S
  same : ∀ j, i ≤ j → S.getD j 0 = R.getD j 0
  eq : val (S.take i) + 16777216 ^ i * c = 2 * val (R.take i) + t
  c : c ≤ 1
theorem dblInv_start {R : List Nat} (hR : Small R) {t : Nat} (ht : t ≤ 1) : DblInv R R t t 0 := ⟨rfl, hR, fun _ _ => rfl, by simp [val], ht⟩
theorem getD_setN_ne {L : List Nat} {a b : Nat} (x : Nat) (h : a ≠ b) : (L.set a x).getD b 0 = L.getD b 0 := by
  simp [List.getD, List.getElem?_set_ne h]
theorem getD_setN_eq {L : List Nat} {a : Nat} (x : Nat) (h : a < L.length) : (L.set a x).getD a 0 = x := by
  simp [List.getD, List.getElem?_set_self h]
theorem take_setN {L : List Nat} (i x : Nat) : (L.set i x).take i = L.take i := by
  apply List.ext_getElem
  · simp
  · intro j h1 h2
    have hj : j < i := by rw [List.length_take] at h2; omega
    rw [List.getElem_take, List.getElem_take, List.getElem_set_ne (by omega)]
theorem dblInv_step {R S : List Nat} {t c i : Nat} (h : DblInv R S t c i) (hi : i < S.length) :
    DblInv R (S.set i ((2 * S.getD i 0 + c) % 16777216)) t ((2 * S.getD i 0 + c) / 16777216) (i + 1) ∧ S.getD i 0 < 16777216 := by
  have hs := getD_lt h.small i
  have hc := h.c
  refine ⟨⟨by rw [List.length_set]; exact h.len, small_set h.small i (Nat.mod_lt _ (by omega)), fun j hj => ?_, ?_, by omega⟩, hs⟩
  · rw [getD_setN_ne _ (by omega)]
    exact h.same j (by omega)
  · have e := h.eq
    have e2 := h.same i (Nat.le_refl _)
    rw [val_take_getD, val_take_getD, take_setN, getD_setN_eq _ hi, ← e2, Nat.pow_succ]
    have e4 := Nat.div_add_mod (2 * S.getD i 0 + c) 16777216
    generalize (2 * S.getD i 0 + c) % 16777216 = u at *
    generalize (2 * S.getD i 0 + c) / 16777216 = q at *
    generalize S.getD i 0 = x at *
    generalize val (S.take i) = a1 at *
    generalize val (R.take i) = a2 at *
    generalize 16777216 ^ i = P at *
    grind
theorem dblInv_done {R S : List Nat} {t c : Nat} (h : DblInv R S t c R.length) (hb : 2 * val R + t < 16777216 ^ R.length) : val S = 2 * val R + t := by
  have e := h.eq
  rw [List.take_length, show R.length = S.length from h.len.symm, List.take_length] at e
  rw [← h.len] at hb
  rcases Nat.eq_zero_or_pos c with h0 | h0
  · subst h0; omega
  · have : 16777216 ^ S.length * 1 ≤ 16777216 ^ S.length * c := Nat.mul_le_mul_left _ h0
    omega

/-- The divisor is taken off in place. -/
structure SubInv (R B S : List Nat) (q i : Nat) : Prop where
  len : S.length = R.length
  small : Small S
  same : ∀ j, i ≤ j → S.getD j 0 = R.getD j 0
  eq : val (S.take i) + val (B.take i) = val (R.take i) + 16777216 ^ i * q
  q : q ≤ 1
theorem subInv_start {R : List Nat} (hR : Small R) (B : List Nat) : SubInv R B R 0 0 := ⟨rfl, hR, fun _ _ => rfl, by simp [val], by omega⟩
theorem subInv_step {R B S : List Nat} {q i r p : Nat} (h : SubInv R B S q i) (hi : i < S.length) (hr : r < 16777216) (hp : p ≤ 1) (e : r + q + B.getD i 0 = S.getD i 0 + 16777216 * p) :
    SubInv R B (S.set i r) p (i + 1) := by
  refine ⟨by rw [List.length_set]; exact h.len, small_set h.small i hr, fun j hj => ?_, ?_, hp⟩
  · rw [getD_setN_ne _ (by omega)]
    exact h.same j (by omega)
  · have e1 := h.eq
    have e2 := h.same i (Nat.le_refl _)
    rw [val_take_getD, val_take_getD, val_take_getD, take_setN, getD_setN_eq _ hi, ← e2, Nat.pow_succ]
    generalize B.getD i 0 = y at *
    generalize S.getD i 0 = x at *
    generalize val (S.take i) = a1 at *
    generalize val (R.take i) = a2 at *
    generalize val (B.take i) = a3 at *
    generalize 16777216 ^ i = P at *
    grind
theorem subInv_done {R B S : List Nat} {q : Nat} (h : SubInv R B S q R.length) (hB : B.length ≤ R.length) (hv : val B ≤ val R) : val S = val R - val B := by
  have e := h.eq
  rw [List.take_length, List.take_of_length_le hB, show R.length = S.length from h.len.symm, List.take_length] at e
  have hs := val_lt h.small
  rcases Nat.eq_zero_or_pos q with h0 | h0
  · subst h0; omega
  · have : 16777216 ^ S.length * 1 ≤ 16777216 ^ S.length * q := Nat.mul_le_mul_left _ h0
    omega

/-- What the rest and the quotient are, when the bits from k on are done. -/
structure DivAt (n v : Nat) (R Q : List Nat) (lq k : Nat) : Prop where
  small : Small R
  rest : val R = n / 2 ^ k % v
  qsmall : Small Q
  qlen : Q.length = lq
  quo : val Q = n / 2 ^ k / v * 2 ^ k
theorem half_bit (n k : Nat) : n / 2 ^ k = 2 * (n / 2 ^ (k + 1)) + n / 2 ^ k % 2 := by
  rw [Nat.pow_succ, ← Nat.div_div_eq_div_mul]
  omega
theorem div_step_less {n v k r : Nat} (hv : 0 < v) (hr : r = n / 2 ^ (k + 1) % v) (hl : 2 * r + n / 2 ^ k % 2 < v) : 2 * r + n / 2 ^ k % 2 = n / 2 ^ k % v ∧ n / 2 ^ (k + 1) / v * 2 ^ (k + 1) = n / 2 ^ k / v * 2 ^ k := by
  have h1 := half_bit n k
  have h2 := Nat.div_add_mod (n / 2 ^ (k + 1)) v
  rw [← hr] at h2
  generalize n / 2 ^ k % 2 = t at *
  generalize n / 2 ^ (k + 1) = A at *
  have h3 : n / 2 ^ k = v * (2 * (A / v)) + (2 * r + t) := by
    rw [h1]
    generalize A / v = q at *
    grind
  constructor
  · rw [h3, Nat.mul_add_mod, Nat.mod_eq_of_lt hl]
  · rw [h3, Nat.mul_add_div hv, Nat.div_eq_of_lt hl, Nat.pow_succ, Nat.add_zero, Nat.mul_comm 2 (A / v), Nat.mul_assoc, Nat.mul_comm 2 (2 ^ k)]
theorem div_step_more {n v k r : Nat} (hv : 0 < v) (hr : r = n / 2 ^ (k + 1) % v) (hl : v ≤ 2 * r + n / 2 ^ k % 2) : 2 * r + n / 2 ^ k % 2 - v = n / 2 ^ k % v ∧ n / 2 ^ (k + 1) / v * 2 ^ (k + 1) + 2 ^ k = n / 2 ^ k / v * 2 ^ k := by
  have h1 := half_bit n k
  have h2 := Nat.div_add_mod (n / 2 ^ (k + 1)) v
  have h4 := Nat.mod_lt (n / 2 ^ (k + 1)) hv
  have h5 : n / 2 ^ k % 2 < 2 := Nat.mod_lt _ (by omega)
  rw [← hr] at h2 h4
  generalize n / 2 ^ k % 2 = t at *
  generalize n / 2 ^ (k + 1) = A at *
  have h3 : n / 2 ^ k = v * (2 * (A / v) + 1) + (2 * r + t - v) := by
    rw [h1]
    generalize A / v = q at *
    have : v * (2 * q + 1) = 2 * (v * q) + v := by grind
    omega
  constructor
  · rw [h3, Nat.mul_add_mod, Nat.mod_eq_of_lt (by omega)]
  · rw [h3, Nat.mul_add_div hv, Nat.div_eq_of_lt (show 2 * r + t - v < v by omega), Nat.pow_succ, Nat.add_zero]
    generalize A / v = q at *
    generalize 2 ^ k = P at *
    grind
/-- A bit is laid into the quotient. -/
theorem quo_bit {Q : List Nat} (hQ : Small Q) {a k : Nat} (hq : val Q = a * 2 ^ (k + 1)) (hk : k / 24 < Q.length) :
    Small (Q.set (k / 24) (Q.getD (k / 24) 0 + 2 ^ (k % 24))) ∧ val (Q.set (k / 24) (Q.getD (k / 24) 0 + 2 ^ (k % 24))) = val Q + 2 ^ k ∧ Q.getD (k / 24) 0 + 2 ^ (k % 24) < 16777216 := by
  have hm := Nat.div_add_mod k 24
  have hr := Nat.mod_lt k (show 0 < 24 by omega)
  have hb : Q.getD (k / 24) 0 + 2 ^ (k % 24) < 16777216 := by
    have h1 := val_split Q (k / 24) (by omega)
    have h2 := val_drop Q (k / 24) hk
    have h3 := val_lt (small_take hQ (k / 24))
    rw [List.length_take, Nat.min_eq_left (by omega)] at h3
    rw [getD_of_lt hk]
    have hx := hQ (k / 24) hk
    generalize k % 24 = r at *
    generalize hi : k / 24 = i at *
    obtain ⟨d, hd⟩ : ∃ d, 24 = r + (d + 1) := ⟨23 - r, by omega⟩
    have e24 : (16777216 : Nat) = 2 ^ r * (2 * 2 ^ d) := by
      rw [← Nat.pow_succ', ← Nat.pow_add, ← hd]
    -- the limb is a multiple of 2^(r+1)
    have hdiv : val Q / 16777216 ^ i = val (Q.drop i) := by
      rw [h1, Nat.add_mul_div_left _ _ (pow_pos' i), Nat.div_eq_of_lt h3, Nat.zero_add]
    have hval : val Q / 16777216 ^ i = a * 2 ^ (r + 1) := by
      rw [hq, two24, show k + 1 = (r + 1) + 24 * i by omega, Nat.pow_add, ← Nat.mul_assoc]
      exact Nat.mul_div_cancel _ (Nat.pow_pos (by omega))
    rw [hdiv, h2] at hval
    generalize Q[i] = x at *
    generalize val (Q.drop (i + 1)) = z at *
    have hxm : x % 2 ^ (r + 1) = 0 := by
      have e2 : 16777216 * z = 2 ^ (r + 1) * (2 ^ d * z) := by
        conv => lhs; rw [e24]
        rw [Nat.pow_succ, Nat.mul_assoc, Nat.mul_assoc, Nat.mul_assoc]
      have : (x + 16777216 * z) % 2 ^ (r + 1) = 0 := by rw [hval]; exact Nat.mul_mod_left _ _
      rw [e2, Nat.add_mul_mod_self_left] at this
      exact this
    obtain ⟨y, hy⟩ : ∃ y, x = 2 ^ (r + 1) * y := ⟨x / 2 ^ (r + 1), by
      have := Nat.div_add_mod x (2 ^ (r + 1)); omega⟩
    have hy2 : y < 2 ^ d := by
      have e3 : (16777216 : Nat) = 2 ^ (r + 1) * 2 ^ d := by rw [e24, Nat.pow_succ, Nat.mul_assoc]
      rw [hy, e3] at hx
      exact Nat.lt_of_mul_lt_mul_left hx
    have h6 : 2 ^ (r + 1) * (y + 1) ≤ 2 ^ (r + 1) * 2 ^ d := Nat.mul_le_mul_left _ hy2
    have e3 : (16777216 : Nat) = 2 ^ (r + 1) * 2 ^ d := by rw [e24, Nat.pow_succ, Nat.mul_assoc]
    rw [← e3, Nat.mul_add, ← hy, Nat.pow_succ] at h6
    have : 0 < 2 ^ r := Nat.pow_pos (by omega)
    omega
  refine ⟨small_set hQ _ hb, ?_, hb⟩
  have e := val_set (xs := Q) (k / 24) hk (Q.getD (k / 24) 0 + 2 ^ (k % 24))
  rw [getD_of_lt hk] at e ⊢
  rw [Nat.mul_add] at e
  have e2 : 16777216 ^ (k / 24) * 2 ^ (k % 24) = 2 ^ k := by rw [two24, ← Nat.pow_add, hm]
  rw [e2] at e
  omega

theorem eq_up {S D : List Nat} {i : Nat} : ∀ {k : Nat}, i ≤ k → (∀ j, i ≤ j → j < k → S.getD j 0 = D.getD j 0) → val (S.take k) + val (D.take i) = val (D.take k) + val (S.take i) := by
  intro k
  induction k with
  | zero =>
    intro h _
    obtain rfl : i = 0 := by omega
    omega
  | succ k ih =>
    intro h he
    rcases Nat.lt_or_ge i (k + 1) with hl | hl
    · have h1 := ih (by omega) (fun j h1 h2 => he j h1 (by omega))
      rw [val_take_getD, val_take_getD, he k (by omega) (by omega)]
      omega
    · obtain rfl : i = k + 1 := by omega
      omega
/-- The rest as the comparison sees it: its limbs from i on are those of the divisor. -/
structure LessAt (S D : List Nat) (n i : Nat) : Prop where
  top : S.getD n 0 = 0
  same : ∀ j, i ≤ j → j < n → S.getD j 0 = D.getD j 0
theorem val_top {S : List Nat} {n : Nat} (h : S.length = n + 1) : val S = val (S.take n) + 16777216 ^ n * S.getD n 0 := by
  have e : S = S.take (n + 1) := by rw [← h, List.take_length]
  conv => lhs; rw [e]
  exact val_take_getD S n
theorem less_top {S D : List Nat} {n : Nat} (hS : Small S) (hD : Small D) (hl : S.length = n + 1) (hd : D.length = n) (h0 : S.getD n 0 ≠ 0) : val D ≤ val S := by
  have h1 := val_top hl
  have h2 := val_lt hD
  rw [hd] at h2
  have h3 : 16777216 ^ n * 1 ≤ 16777216 ^ n * S.getD n 0 := Nat.mul_le_mul_left _ (by omega)
  omega
theorem less_all {S D : List Nat} {n : Nat} (hl : S.length = n + 1) (hd : D.length = n) (h : LessAt S D n 0) : val D ≤ val S := by
  have h1 := val_top hl
  have h2 := eq_up (Nat.zero_le n) h.same
  rw [← hd, List.take_length, hd] at h2
  simp [val] at h2
  omega
theorem less_here {S D : List Nat} {n i : Nat} (hS : Small S) (hD : Small D) (hl : S.length = n + 1) (hd : D.length = n) (hi : i < n) (h : LessAt S D n (i + 1)) :
    (S.getD i 0 < D.getD i 0 → val S < val D) ∧ (D.getD i 0 < S.getD i 0 → val D ≤ val S) := by
  have h1 := val_top hl
  rw [h.top, Nat.mul_zero, Nat.add_zero] at h1
  have h2 := eq_up (show i + 1 ≤ n by omega) h.same
  have hdt : val (D.take n) = val D := by rw [← hd, List.take_length]
  rw [hdt, ← h1, val_take_getD, val_take_getD] at h2
  have h3 := val_lt (small_take hS i)
  have h4 := val_lt (small_take hD i)
  rw [List.length_take, Nat.min_eq_left (by omega)] at h3 h4
  constructor
  · intro hlt
    have h5 : 16777216 ^ i * (S.getD i 0 + 1) ≤ 16777216 ^ i * D.getD i 0 := Nat.mul_le_mul_left _ hlt
    rw [Nat.mul_add, Nat.mul_one] at h5
    omega
  · intro hlt
    have h5 : 16777216 ^ i * (D.getD i 0 + 1) ≤ 16777216 ^ i * S.getD i 0 := Nat.mul_le_mul_left _ hlt
    rw [Nat.mul_add, Nat.mul_one] at h5
    omega
theorem LessAt.next {S D : List Nat} {n i : Nat} (h : LessAt S D n (i + 1)) (he : S.getD i 0 = D.getD i 0) : LessAt S D n i :=
  ⟨h.top, fun j h1 h2 => by
    rcases Nat.eq_or_lt_of_le h1 with rfl | h3
    · exact he
    · exact h.same j h3 h2⟩

theorem four_box (w : World) (t : TypeId) (p q r s : Array Value) : BoxAt ((((w.alloc (.cells p t)).alloc (.cells q t)).alloc (.cells r t)).alloc (.cells s t)) w.heap.size t p ∧ BoxAt ((((w.alloc (.cells p t)).alloc (.cells q t)).alloc (.cells r t)).alloc (.cells s t)) (w.heap.size + 1) t q ∧
    BoxAt ((((w.alloc (.cells p t)).alloc (.cells q t)).alloc (.cells r t)).alloc (.cells s t)) (w.heap.size + 1 + 1) t r ∧ BoxAt ((((w.alloc (.cells p t)).alloc (.cells q t)).alloc (.cells r t)).alloc (.cells s t)) (w.heap.size + 1 + 1 + 1) t s ∧
    Below w.heap.size w ((((w.alloc (.cells p t)).alloc (.cells q t)).alloc (.cells r t)).alloc (.cells s t)) ∧ ((((w.alloc (.cells p t)).alloc (.cells q t)).alloc (.cells r t)).alloc (.cells s t)).heap.size = w.heap.size + 4 := by
  obtain ⟨h1, h2, h3, h4, h5⟩ := three_box w t p q r
  have h6 := BoxAt.new (((w.alloc (.cells p t)).alloc (.cells q t)).alloc (.cells r t)) t s
  rw [h5] at h6
  exact ⟨h1.alloc _, h2.alloc _, h3.alloc _, h6, h4.alloc (by rw [h5]; omega) _, by simp⟩
/-- The rest and the quotient in memory. -/
structure DmSt (W0 wr : World) (gr gq : Nat) (R Q : List Nat) : Prop where
  bel : Below W0.heap.size W0 wr
  lr : W0.heap.size ≤ gr
  lq : W0.heap.size ≤ gq
  ne : gr ≠ gq
  rest : RowI wr gr (ofN R)
  quo : RowI wr gq (ofN Q)
theorem DmSt.drew {W0 wr : World} {gr gq : Nat} {R Q : List Nat} (h : DmSt W0 wr gr gq R Q) : DmSt W0 wr.drew gr gq R Q := ⟨h.bel.drew, h.lr, h.lq, h.ne, h.rest, h.quo⟩
theorem DmSt.drewN {W0 wr : World} {gr gq : Nat} {R Q : List Nat} (h : DmSt W0 wr gr gq R Q) (n : Nat) : DmSt W0 (wr.drewN n) gr gq R Q := ⟨below_drewN h.bel n, h.lr, h.lq, h.ne, h.rest, h.quo⟩
theorem DmSt.below {W0 wr w' : World} {gr gq : Nat} {R Q : List Nat} (h : DmSt W0 wr gr gq R Q) (hb : Below wr.heap.size wr w') : DmSt W0 w' gr gq R Q :=
  ⟨h.bel.trans (hb.mono h.bel.size), h.lr, h.lq, h.ne, h.rest.below hb h.rest.lt, h.quo.below hb h.quo.lt⟩
theorem DmSt.setR {W0 wr : World} {gr gq : Nat} {R Q : List Nat} (h : DmSt W0 wr gr gq R Q) (i x : Nat) (hi : i < R.length) : DmSt W0 (wr.setCell ⟨gr, i, none⟩ (.int .i64 (x : Int))) gr gq (R.set i x) Q :=
  ⟨h.bel.setCell h.lr _, h.lr, h.lq, h.ne, by rw [← ofN_set]; exact h.rest.set_ i (by rw [ofN_length]; exact hi) _, h.quo.far (p := ⟨gr, i, none⟩) (Ne.symm h.ne) _⟩
theorem DmSt.setQ {W0 wr : World} {gr gq : Nat} {R Q : List Nat} (h : DmSt W0 wr gr gq R Q) (i x : Nat) (hi : i < Q.length) : DmSt W0 (wr.setCell ⟨gq, i, none⟩ (.int .i64 (x : Int))) gr gq R (Q.set i x) :=
  ⟨h.bel.setCell h.lq _, h.lr, h.lq, h.ne, h.rest.far (p := ⟨gq, i, none⟩) h.ne _, by rw [← ofN_set]; exact h.quo.set_ i (by rw [ofN_length]; exact hi) _⟩
/-- Both slices behind their declaration. -/
def DmAt (W0 W : World) (p q : Value) (n l : Nat) : Prop := ∃ gr gq, p = .slice (some ⟨gr, 0, none⟩) (n + 1) (n + 1) ∧ q = .slice (some ⟨gq, 0, none⟩) l l ∧ DmSt W0 W gr gq (List.replicate (n + 1) 0) (List.replicate l 0)
theorem RowI.made' (w : World) (n : Nat) : RowI (w.alloc (.cells (madeCells #[.int .i64 0] n) 2)) w.heap.size (ofN (List.replicate n 0)) := by
  rw [ofN_zeros]
  exact RowI.made w n
theorem DmAt.mk1 {W0 : World} (n l : Nat) : DmAt W0 ((W0.alloc (.cells (madeCells #[.int .i64 0] (n + 1)) 2)).alloc (.cells (madeCells #[.int .i64 0] l) 2)) (.slice (some ⟨W0.heap.size, 0, none⟩) (n + 1) (n + 1)) (.slice (some ⟨W0.heap.size + 1, 0, none⟩) l l) n l := by
  have h := RowI.made' (W0.alloc (.cells (madeCells #[.int .i64 0] (n + 1)) 2)) l
  rw [size_al] at h
  exact ⟨_, _, rfl, rfl, ((Below.refl _ _).alloc (Nat.le_refl _) _).alloc (by simp) _, Nat.le_refl _, by omega, by omega, (RowI.made' W0 (n + 1)).alloc _, h⟩
theorem DmAt.mk2 {W0 : World} (n l : Nat) : DmAt W0 ((W0.alloc (.cells (madeCells #[.int .i64 0] l) 2)).alloc (.cells (madeCells #[.int .i64 0] (n + 1)) 2)) (.slice (some ⟨W0.heap.size + 1, 0, none⟩) (n + 1) (n + 1)) (.slice (some ⟨W0.heap.size, 0, none⟩) l l) n l := by
  have h := RowI.made' (W0.alloc (.cells (madeCells #[.int .i64 0] l) 2)) (n + 1)
  rw [size_al] at h
  exact ⟨_, _, rfl, rfl, ((Below.refl _ _).alloc (Nat.le_refl _) _).alloc (by simp) _, by omega, Nat.le_refl _, by omega, h, (RowI.made' W0 l).alloc _⟩
theorem DmAt.drew {W0 W : World} {p q : Value} {n l : Nat} (h : DmAt W0 W p q n l) : DmAt W0 W.drew p q n l := by
  obtain ⟨gr, gq, hp, hq, hs⟩ := h
  exact ⟨gr, gq, hp, hq, hs.drew⟩
theorem mk_ints1 (n : Nat) (h : 8 * (n + 1) ≤ 281474976710656) : ∀ w, (Instr.makeSlice 58 (.int .i64 ((n : Int) + 1)) (.int .i64 ((n : Int) + 1))).run Tryz.prog w = .ok (.slice (some ⟨w.heap.size, 0, none⟩) (n + 1) (n + 1)) (w.alloc (.cells (madeCells #[.int .i64 0] (n + 1)) 2)) := fun w => by
  have := mk_ints (n + 1) h w
  rwa [show ((n + 1 : Nat) : Int) = (n : Int) + 1 by omega] at this
/-- What the division by the model returns. -/
def RetDM (s t : Int) (q r : Nat) (w : World) (e : Ending) (w' : World) : Prop := ∃ a c a' c', e = .returned (.tuple #[.agg #[.int .i64 (sgnOf (s * t) q), .slice a (lim q).length c], .agg #[.int .i64 (sgnOf s r), .slice a' (lim r).length c']]) ∧ (lim q).length ≤ c ∧ (lim r).length ≤ c' ∧ Own w' w.heap.size a (lim q) ∧ Own w' w.heap.size a' (lim r) ∧ Apart a a' (lim q) (lim r) ∧ Below w.heap.size w w'
theorem blen_bits {n : Nat} (hl : (lim n).length ≤ 200) : ∃ b : Nat, blen n = (b : Int) ∧ b ≤ 24 * (dig n).length ∧ n < 2 ^ b := by
  by_cases h : n = 0
  · subst h; exact ⟨0, by simp [blen], by omega, by simp⟩
  · have h1 := blen_pos h
    have h2 := dig_length_pos h
    have h3 : blen n ≤ ((24 * (dig n).length : Nat) : Int) := blen_le.2 (by
      have := val_lt (small_dig n)
      rwa [val_dig, two24] at this)
    refine ⟨(blen n).toNat, by omega, by omega, ?_⟩
    exact blen_le.1 (by omega)

theorem far_twoD {w : World} {g g' : Nat} {v0 v1 : Value} {cs : Array Value} (hq : BoxAt w g 60 cs) (hr : BoxAt w g' 60 #[v0, v1]) (hne : g' ≠ g) :
    (∀ u v, ((w.setCell ⟨g, 0, none⟩ u).setCell ⟨g, 1, none⟩ v).cell? ⟨g', 0, none⟩ = some v0) ∧ (∀ u v, ((w.setCell ⟨g, 0, none⟩ u).setCell ⟨g, 1, none⟩ v).cell? ⟨g', 1, none⟩ = some v1) ∧
    (∀ u v, ((w.setCell ⟨g, 0, none⟩ u).setCell ⟨g, 1, none⟩ v).frozen? ⟨g', 0, none⟩ = false) ∧ (∀ u v, ((w.setCell ⟨g, 0, none⟩ u).setCell ⟨g, 1, none⟩ v).frozen? ⟨g', 1, none⟩ = false) := by
  have h := fun u v => BoxAt.two ((hr.far (p := ⟨g, 0, none⟩) hne u).far (p := ⟨g, 1, none⟩) hne v)
  exact ⟨fun u v => (h u v).1, fun u v => (h u v).2.1, fun u v => (h u v).2.2.1, fun u v => (h u v).2.2.2⟩
theorem apart_of {w1 w2 : World} {lo : Nat} {a a' : Option Addr} {xs ys : List Int} (h : Own w1 lo a xs) (h' : Own w2 w1.heap.size a' ys) : Apart a a' xs ys := by
  rcases h with h | ⟨g, e, _, hr⟩
  · exact .inl h
  · rcases h' with h' | ⟨g', e', hg', _⟩
    · exact .inr (.inl h')
    · refine .inr (.inr ?_)
      rw [e, e']
      intro hh
      injection hh with hh
      injection hh with hh
      have := hr.lt
      omega
theorem dmEnd {w W0 w1 w2 : World} {s t : Int} {q r : Nat} {a a' : Option Addr} {c c' : Nat} (P3 : Below w.heap.size w W0) (P4 : W0.heap.size = w.heap.size + 4) (h1 : Below W0.heap.size W0 w1) (h2 : Below w1.heap.size w1 w2) (ho : Own w1 W0.heap.size a (lim q)) (ho' : Own w2 w1.heap.size a' (lim r)) (hc : (lim q).length ≤ c) (hc' : (lim r).length ≤ c') (u1 u2 u3 u4 : Value) :
    RetDM s t q r w (.returned (.tuple #[.agg #[.int .i64 (sgnOf (s * t) q), .slice a (lim q).length c], .agg #[.int .i64 (sgnOf s r), .slice a' (lim r).length c']]))
      ((((w2.setCell ⟨w.heap.size + 1 + 1, 0, none⟩ u1).setCell ⟨w.heap.size + 1 + 1, 1, none⟩ u2).setCell ⟨w.heap.size + 1 + 1 + 1, 0, none⟩ u3).setCell ⟨w.heap.size + 1 + 1 + 1, 1, none⟩ u4) := by
  have hs1 := h1.size
  have hs2 := h2.size
  exact ⟨a, c, a', c', rfl, hc, hc', (((((ho.below h2).setFar (by simp; omega) _).setFar (by simp; omega) _).setFar (by simp; omega) _).setFar (by simp; omega) _).mono (by omega),
    ((((ho'.setFar (by simp; omega) _).setFar (by simp; omega) _).setFar (by simp; omega) _).setFar (by simp; omega) _).mono (by omega), apart_of ho ho',
    (((((P3.trans (h1.mono (by omega))).trans (h2.mono (by omega))).setCell (by simp <;> omega) _).setCell (by simp <;> omega) _).setCell (by simp <;> omega) _).setCell (by simp <;> omega) _⟩

/-- What DivideWholes answers: quotient, remainder, code. -/
structure DivRes where
  s1 : Int
  l1 : List Int
  s2 : Int
  l2 : List Int
  code : Int
noncomputable def divR (s : Int) (xs : List Int) (t : Int) (ys : List Int) : DivRes :=
  @ite _ (IsWh s xs ∧ IsWh t ys) (Classical.propDecidable _)
    (if t = 0 then ⟨0, [], 0, [], 5⟩ else ⟨sgnOf (s * t) (val (xs.map Int.toNat) / val (ys.map Int.toNat)), lim (val (xs.map Int.toNat) / val (ys.map Int.toNat)), sgnOf s (val (xs.map Int.toNat) % val (ys.map Int.toNat)), lim (val (xs.map Int.toNat) % val (ys.map Int.toNat)), 0⟩)
    ⟨0, [], 0, [], 1⟩
theorem divR_no {s : Int} {xs : List Int} {t : Int} {ys : List Int} (h : ¬ (IsWh s xs ∧ IsWh t ys)) : divR s xs t ys = ⟨0, [], 0, [], 1⟩ := by unfold divR; rw [if_neg h]
theorem divR_zero {s : Int} {xs : List Int} {t : Int} {ys : List Int} (h : IsWh s xs) (k : IsWh t ys) (h0 : t = 0) : divR s xs t ys = ⟨0, [], 0, [], 5⟩ := by unfold divR; rw [if_pos ⟨h, k⟩, if_pos h0]
theorem divR_yes {s : Int} {m : Nat} {t : Int} {v : Nat} (h : IsWh s (lim m)) (k : IsWh t (lim v)) (h0 : t ≠ 0) : divR s (lim m) t (lim v) = ⟨sgnOf (s * t) (m / v), lim (m / v), sgnOf s (m % v), lim (m % v), 0⟩ := by
  unfold divR
  rw [if_pos ⟨h, k⟩, if_neg h0, val_lim, val_lim]
theorem divR_len (s : Int) (xs : List Int) (t : Int) (ys : List Int) : (divR s xs t ys).l1.length ≤ 200 ∧ (divR s xs t ys).l2.length ≤ 200 := by
  by_cases h : IsWh s xs ∧ IsWh t ys
  · obtain ⟨h1, h2⟩ := h
    by_cases h0 : t = 0
    · rw [divR_zero h1 h2 h0]; simp
    · obtain ⟨m, rfl, hm, sm⟩ := isWh_of h1
      obtain ⟨n, rfl, hn, sn⟩ := isWh_of h2
      rw [divR_yes h1 h2 h0]
      exact ⟨Nat.le_trans (lim_le_of_le (Nat.div_le_self _ _)) hm, Nat.le_trans (lim_le_of_le (Nat.mod_le _ _)) hm⟩
  · rw [divR_no h]; simp
/-- The call returned two whole numbers in memory from block lo on, apart from each other, and a code. -/
def RetDC (r : DivRes) (lo : Nat) (w : World) (e : Ending) (w' : World) : Prop := ∃ a c a' c', e = .returned (.tuple #[.agg #[.int .i64 r.s1, .slice a r.l1.length c], .agg #[.int .i64 r.s2, .slice a' r.l2.length c'], .int .i64 r.code]) ∧ r.l1.length ≤ c ∧ r.l2.length ≤ c' ∧ Own w' lo a r.l1 ∧ Own w' lo a' r.l2 ∧ Apart a a' r.l1 r.l2 ∧ Below w.heap.size w w'
theorem dcZero {w W0 W : World} (code : Int) (P3 : Below w.heap.size w W0) (P4 : W0.heap.size = w.heap.size + 4) (hb : Below W0.heap.size W0 W) (u1 u2 u3 u4 : Value) :
    RetDC ⟨0, [], 0, [], code⟩ w.heap.size w (.returned (.tuple #[.agg #[.int .i64 0, .slice none 0 0], .agg #[.int .i64 0, .slice none 0 0], .int .i64 code]))
      ((((W.setCell ⟨w.heap.size + 1 + 1, 0, none⟩ u1).setCell ⟨w.heap.size + 1 + 1, 1, none⟩ u2).setCell ⟨w.heap.size + 1 + 1 + 1, 0, none⟩ u3).setCell ⟨w.heap.size + 1 + 1 + 1, 1, none⟩ u4) :=
  ⟨none, 0, none, 0, rfl, Nat.le_refl _, Nat.le_refl _, Own.nil, Own.nil, .inl rfl, (((((P3.trans (hb.mono (by omega))).setCell (by simp <;> omega) _).setCell (by simp <;> omega) _).setCell (by simp <;> omega) _).setCell (by simp <;> omega) _)⟩
theorem dcEnd {w W0 W : World} {q r : Nat} {sq sr : Int} {a a' : Option Addr} {c c' : Nat} (P3 : Below w.heap.size w W0) (P4 : W0.heap.size = w.heap.size + 4) (hb : Below W0.heap.size W0 W) (ho : Own W W0.heap.size a (lim q)) (ho' : Own W W0.heap.size a' (lim r)) (hap : Apart a a' (lim q) (lim r)) (hc : (lim q).length ≤ c) (hc' : (lim r).length ≤ c') (u1 u2 u3 u4 : Value) :
    RetDC ⟨sq, lim q, sr, lim r, 0⟩ w.heap.size w (.returned (.tuple #[.agg #[.int .i64 sq, .slice a (lim q).length c], .agg #[.int .i64 sr, .slice a' (lim r).length c'], .int .i64 0]))
      ((((W.setCell ⟨w.heap.size + 1 + 1, 0, none⟩ u1).setCell ⟨w.heap.size + 1 + 1, 1, none⟩ u2).setCell ⟨w.heap.size + 1 + 1 + 1, 0, none⟩ u3).setCell ⟨w.heap.size + 1 + 1 + 1, 1, none⟩ u4) :=
  ⟨a, c, a', c', rfl, hc, hc', ((((ho.setFar (by simp; omega) _).setFar (by simp; omega) _).setFar (by simp; omega) _).setFar (by simp; omega) _).mono (by omega),
    ((((ho'.setFar (by simp; omega) _).setFar (by simp; omega) _).setFar (by simp; omega) _).setFar (by simp; omega) _).mono (by omega), hap,
    ((((P3.trans (hb.mono (by omega))).setCell (by simp <;> omega) _).setCell (by simp <;> omega) _).setCell (by simp <;> omega) _).setCell (by simp <;> omega) _⟩
/-- Own limbs in a pair, as 'signed' leaves them. -/
theorem apart_same {a b a' b' : Option Addr} {q r : Nat} (h : Apart a b (lim q) (lim r)) (h1 : q = 0 ∨ a' = a) (h2 : r = 0 ∨ b' = b) : Apart a' b' (lim q) (lim r) := by
  rcases h1 with rfl | rfl
  · exact .inl lim_zero
  · rcases h2 with rfl | rfl
    · exact .inr (.inl lim_zero)
    · exact h
set_option maxHeartbeats 400000 in
theorem iSignedA (s : Int) (n : Nat) (a : Option Addr) (c : Nat) (w : World) (lo : Nat) (hc : (lim n).length ≤ c) (ho : Own w lo a (lim n)) :
    Calls Tryz.prog 95 #[.int .i64 s, .slice a (lim n).length c] w fun e w' => ∃ a' c', e = .returned (.agg #[.int .i64 (sgnOf s n), .slice a' (lim n).length c']) ∧ (lim n).length ≤ c' ∧ Own w' lo a' (lim n) ∧ (n = 0 ∨ a' = a) ∧ Below w.heap.size w w' := by
  have HC := Lib.hid hc
  have HO := Lib.hid ho
  clear hc ho
  by_cases h0 : n = 0
  · have hz : (lim n).length = 0 := lim_len_zero.2 h0
    subst h0
    rw [hz]
    have HZ := Lib.hid hz
    clear hz
    go_enter Tryz.func95, Tryz.ntmps95
    go_wp2
    refine bodyPost_ret (v := .agg #[.int .i64 0, .slice none 0 0]) (by simp [results, Tryz.results95, go_sem]) rfl ⟨none, 0, by rw [sgnOf_zero], Nat.zero_le _, .inl lim_zero, (by simp), (by repeat (first | exact Below.refl _ _ | assumption | refine Below.alloc ?_ (by simp <;> omega) _ | refine Below.setCell ?_ (by simp <;> omega) _ | refine below_drewN ?_ _))⟩
  · have hz : (((lim n).length : Int) == 0) = false := by
      have := (not_congr (@lim_len_zero n)).2 h0
      simpa using this
    go_enter Tryz.func95, Tryz.ntmps95
    go_wp2
    refine bodyPost_ret (v := .agg #[.int .i64 s, .slice a (lim n).length c]) (by simp [results, Tryz.results95, go_sem]) rfl ⟨a, c, by rw [sgnOf_pos h0], HC.out, HO.out.alloc _, .inr rfl, (by repeat (first | exact Below.refl _ _ | assumption | refine Below.alloc ?_ (by simp <;> omega) _ | refine Below.setCell ?_ (by simp <;> omega) _ | refine below_drewN ?_ _))⟩

end Go.Proofs.YtgppagmejhgmaaaGreatDoor
