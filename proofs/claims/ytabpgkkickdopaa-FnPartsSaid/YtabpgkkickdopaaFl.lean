/-
  Floats whose results may be NaN. A NaN's bits come from the tape, so results are told up to the bits of a NaN.
  No conditions: plain facts on the model's float operations.
-/
import Derived.WalkKit
import Derived.Laws.FloatArith
import Derived.Laws.ComplexQuo
import Derived.Deep.Draws
namespace Go.Proofs.Ytabpgkkickdopaa
set_option linter.unusedVariables false
open Go

/-- The call returned v and left the world alone, but for draws. -/
def Ret (v : Value) (w : World) (e : Ending) (w' : World) : Prop := ∃ n, e = .returned v ∧ w' = w.drewN n

/-- A NaN's bits. -/
def isN (k : FloatKind) (x : Nat) : Bool := (k.format.read x).isNaN
/-- A float that is neither infinite nor NaN. -/
def isF (k : FloatKind) (x : Nat) : Bool := match k.format.read x with | .number .. => true | _ => false

/-- Equal up to the bits of a NaN. -/
def NEq (k : FloatKind) (x y : Nat) : Prop := x = y ∨ (isN k x = true ∧ isN k y = true)

/-- The bits of a float64. -/
def Wf (x : Nat) : Prop := x < 2 ^ 64
theorem wf_lit {x : Nat} (h : x < 2 ^ 64) : Wf x := h

/-- One NaN for all. -/
def qn (k : FloatKind) : Nat := match k with | .f32 => 0x7fc00000 | .f64 => 0x7ff8000000000000

theorem isN_qn (k : FloatKind) : isN k (qn k) = true := by cases k <;> decide

/-- The result of '+', '-', '*', '/' with one NaN for all. -/
def cf (op : BinOp) (k : FloatKind) (x y : Nat) : Nat := (floatBits op k x y).getD (qn k)

theorem NEq.refl (k : FloatKind) (x : Nat) : NEq k x x := .inl rfl
theorem NEq.symm {k : FloatKind} {x y : Nat} (h : NEq k x y) : NEq k y x := by
  rcases h with h | ⟨h, g⟩
  · exact .inl h.symm
  · exact .inr ⟨g, h⟩
theorem NEq.trans {k : FloatKind} {x y z : Nat} (h : NEq k x y) (g : NEq k y z) : NEq k x z := by
  rcases h with rfl | ⟨h1, h2⟩
  · exact g
  · rcases g with rfl | ⟨g1, g2⟩
    · exact .inr ⟨h1, h2⟩
    · exact .inr ⟨h1, g2⟩

def arithOp (op : BinOp) : Bool := match op with | .add | .sub | .mul | .quo => true | _ => false

theorem datum_nan {d : Ieee.Datum} (h : d.isNaN = true) : ∃ s f, d = .nan s f := by
  cases d <;> simp_all [Ieee.Datum.isNaN]

theorem sum_nan_left {a b : Ieee.Datum} (h : a.isNaN = true) : a.sum b = none := by
  obtain ⟨s, f, rfl⟩ := datum_nan h
  cases b <;> simp [Ieee.Datum.sum]
theorem sum_nan_right {a b : Ieee.Datum} (h : b.isNaN = true) : a.sum b = none := by
  obtain ⟨s, f, rfl⟩ := datum_nan h
  cases a <;> simp [Ieee.Datum.sum]
theorem product_nan_left {a b : Ieee.Datum} (h : a.isNaN = true) : a.product b = none := by
  obtain ⟨s, f, rfl⟩ := datum_nan h
  cases b <;> simp [Ieee.Datum.product]
theorem product_nan_right {a b : Ieee.Datum} (h : b.isNaN = true) : a.product b = none := by
  obtain ⟨s, f, rfl⟩ := datum_nan h
  cases a <;> simp [Ieee.Datum.product]
theorem quotient_nan_left {n : Nat} {a b : Ieee.Datum} (h : a.isNaN = true) : a.quotient n b = none := by
  obtain ⟨s, f, rfl⟩ := datum_nan h
  cases b <;> simp [Ieee.Datum.quotient]
theorem quotient_nan_right {n : Nat} {a b : Ieee.Datum} (h : b.isNaN = true) : a.quotient n b = none := by
  obtain ⟨s, f, rfl⟩ := datum_nan h
  cases a <;> simp [Ieee.Datum.quotient]
theorem opposite_nan {a : Ieee.Datum} (h : a.isNaN = true) : a.opposite.isNaN = true := by
  obtain ⟨s, f, rfl⟩ := datum_nan h
  rfl

theorem floatBits_nan_left {op : BinOp} {k : FloatKind} {x y : Nat} (h : isN k x = true) : floatBits op k x y = none := by
  unfold isN at h
  unfold floatBits Ieee.Format.add Ieee.Format.sub Ieee.Format.mul Ieee.Format.div
  split <;> simp [sum_nan_left h, product_nan_left h, quotient_nan_left h]
theorem floatBits_nan_right {op : BinOp} {k : FloatKind} {x y : Nat} (h : isN k y = true) : floatBits op k x y = none := by
  unfold isN at h
  unfold floatBits Ieee.Format.add Ieee.Format.sub Ieee.Format.mul Ieee.Format.div
  split <;> simp [sum_nan_right h, sum_nan_right (opposite_nan h), product_nan_right h, quotient_nan_right h]

/-- Operations see a NaN as a NaN, whatever its bits. -/
theorem cf_congr {op : BinOp} {k : FloatKind} {x x' y y' : Nat} (hx : NEq k x x') (hy : NEq k y y') : cf op k x y = cf op k x' y' := by
  rcases hx with rfl | ⟨h1, h2⟩
  · rcases hy with rfl | ⟨g1, g2⟩
    · rfl
    · simp [cf, floatBits_nan_right g1, floatBits_nan_right g2]
  · simp [cf, floatBits_nan_left h1, floatBits_nan_left h2]

theorem isN_of_f64 {b : Nat} (h : 0x7ff0000000000000 < b % 2 ^ 63) : isN .f64 b = true := by
  have e1 : FloatKind.f64.format.signWeight = 2 ^ 63 := by decide
  have e2 : FloatKind.f64.format.binade = 2 ^ 52 := by decide
  have e3 : FloatKind.f64.format.infRung = 0x7ff0000000000000 := by decide
  simp only [isN, Ieee.Format.read, e1, e2, e3]
  rw [if_neg (by omega), if_neg (by omega), if_neg (by omega)]
  rfl
theorem isN_of_f32 {b : Nat} (h : 0x7f800000 < b % 2 ^ 31) : isN .f32 b = true := by
  have e1 : FloatKind.f32.format.signWeight = 2 ^ 31 := by decide
  have e2 : FloatKind.f32.format.binade = 2 ^ 23 := by decide
  have e3 : FloatKind.f32.format.infRung = 0x7f800000 := by decide
  simp only [isN, Ieee.Format.read, e1, e2, e3]
  rw [if_neg (by omega), if_neg (by omega), if_neg (by omega)]
  rfl
theorem nan_cut_f64 (x y t : Nat) : isN .f64 ((Question.nanBits .f64 x y).cut t) = true := by
  have h2 : (t / 2) % (2 ^ 52 - 1) < 2 ^ 52 - 1 := Nat.mod_lt _ (by omega)
  refine isN_of_f64 ?_
  simp only [Question.cut]
  revert h2
  generalize (t / 2) % (2 ^ 52 - 1) = r
  generalize t % 2 = s
  intro h2
  omega
theorem nan_cut_f32 (x y t : Nat) : isN .f32 ((Question.nanBits .f32 x y).cut t) = true := by
  have h2 : (t / 2) % (2 ^ 23 - 1) < 2 ^ 23 - 1 := Nat.mod_lt _ (by omega)
  refine isN_of_f32 ?_
  simp only [Question.cut]
  revert h2
  generalize (t / 2) % (2 ^ 23 - 1) = r
  generalize t % 2 = s
  intro h2
  omega
theorem nan_cut (k : FloatKind) (x y t : Nat) : isN k ((Question.nanBits k x y).cut t) = true := by
  cases k
  · exact nan_cut_f32 x y t
  · exact nan_cut_f64 x y t


/-- '+', '-', '*', '/' on floats: what the run gives, whatever the operands. -/
theorem arith_ex (P : Program) (w : World) (op : BinOp) (t : TypeId) (k : FloatKind) (x y : Nat) (ho : arithOp op = true) :
    ∃ r : Nat × Nat, (binOp op t (.float k x) (.float k y)).run P w = .ok (.float k r.1) (w.drewN r.2) ∧ NEq k r.1 (cf op k x y) := by
  cases h : floatBits op k x y with
  | some r => exact ⟨(r, 0), run_float_arith w op t k x y r h, .inl (by simp [cf, h])⟩
  | none =>
    refine ⟨((Question.nanBits k x y).cut (w.tape w.drawn (.nanBits k x y)), 1), ?_, .inr ⟨nan_cut k x y _, by simp [cf, h, isN_qn]⟩⟩
    unfold floatBits at h
    cases op <;> simp only at h <;> first | (cases ho; done) | skip
    all_goals simp [binOp, Op.floatArith, h, Question.forced, World.drew_is_drewN]

theorem nan_cut_wf (x y t : Nat) : Wf ((Question.nanBits .f64 x y).cut t) := by
  have h2 : (t / 2) % (2 ^ 52 - 1) < 2 ^ 52 - 1 := Nat.mod_lt _ (by omega)
  have h1 : t % 2 < 2 := Nat.mod_lt _ (by omega)
  unfold Wf
  simp only [Question.cut]
  revert h1 h2
  generalize (t / 2) % (2 ^ 52 - 1) = r
  generalize t % 2 = s
  intro h1 h2
  omega
theorem arith_wf (P : Program) (w w' : World) (op : BinOp) (t : TypeId) (x y r : Nat) (ho : arithOp op = true) (h : (binOp op t (.float .f64 x) (.float .f64 y)).run P w = .ok (.float .f64 r) w') : Wf r := by
  cases hb : floatBits op .f64 x y with
  | some q =>
    rw [run_float_arith w op t .f64 x y q hb] at h
    have e : q = r := by injection h with e1; injection e1
    rw [← e]
    have := floatBits_wf hb
    simpa [Lit.wf, Wf] using this
  | none =>
    have hw : (binOp op t (.float .f64 x) (.float .f64 y)).run P w = .ok (.float .f64 ((Question.nanBits .f64 x y).cut (w.tape w.drawn (.nanBits .f64 x y)))) (w.drewN 1) := by
      unfold floatBits at hb
      cases op <;> simp only at hb <;> first | (cases ho; done) | skip
      all_goals simp [binOp, Op.floatArith, hb, Question.forced, World.drew_is_drewN]
    rw [hw] at h
    have e : ((Question.nanBits .f64 x y).cut (w.tape w.drawn (.nanBits .f64 x y))) = r := by injection h with e1; injection e1
    rw [← e]
    exact nan_cut_wf _ _ _
theorem wf_int (n : Int) : Wf (floatOfInt .f64 n) := by
  have := floatOfInt_wf .f64 n
  simpa [Lit.wf, Wf] using this
theorem wf_neg {x : Nat} (h : Wf x) : Wf (Op.negFloat .f64 x) := by
  unfold Wf Op.negFloat
  have e2 : (2 : Nat) ^ (FloatKind.f64.format.exponentBits + FloatKind.f64.format.fractionBits) = 2 ^ 63 := by decide
  rw [e2]
  exact Nat.xor_lt_two_pow h (by decide)

theorem carith_ex (P : Program) (w : World) (op : BinOp) (k : FloatKind) (x y : Nat) (ho : arithOp op = true) :
    ∃ r : Nat × Nat, (Op.Complex.arith op k x y).run P w = .ok r.1 (w.drewN r.2) ∧ NEq k r.1 (cf op k x y) := by
  cases h : floatBits op k x y with
  | some r => exact ⟨(r, 0), run_carith w h, .inl (by simp [cf, h])⟩
  | none =>
    refine ⟨((Question.nanBits k x y).cut (w.tape w.drawn (.nanBits k x y)), 1), ?_, .inr ⟨nan_cut k x y _, by simp [cf, h, isN_qn]⟩⟩
    unfold floatBits at h
    cases op <;> simp only at h <;> first | (cases ho; done) | skip
    all_goals simp [Op.Complex.arith, Op.floatArith, h, Question.forced, World.drew_is_drewN]

/-- '+', '-' on complex numbers. -/
theorem csum_ex (P : Program) (w : World) (op : BinOp) (hop : op = .add ∨ op = .sub) (t : TypeId) (k : FloatKind) (a b c d : Nat) :
    ∃ r : Nat × Nat × Nat, (binOp op t (.complex k a b) (.complex k c d)).run P w = .ok (.complex k r.1 r.2.1) (w.drewN r.2.2) ∧ NEq k r.1 (cf op k a c) ∧ NEq k r.2.1 (cf op k b d) := by
  have ho : arithOp op = true := by rcases hop with rfl | rfl <;> rfl
  obtain ⟨⟨r1, n1⟩, h1, g1⟩ := carith_ex P w op k a c ho
  obtain ⟨⟨r2, n2⟩, h2, g2⟩ := carith_ex P (w.drewN n1) op k b d ho
  refine ⟨(r1, r2, n1 + n2), ?_, g1, g2⟩
  rcases hop with rfl | rfl <;> simp [binOp, Op.complexOp, h1, h2]

/-! ### Comparisons -/
theorem order_nan_left {k : FloatKind} {x y : Nat} (h : isN k x = true) : k.format.order x y = none := by
  obtain ⟨s, f, e⟩ := datum_nan h
  simp only [Ieee.Format.order, e]
  cases k.format.read y <;> rfl
theorem order_nan_right {k : FloatKind} {x y : Nat} (h : isN k y = true) : k.format.order x y = none := by
  obtain ⟨s, f, e⟩ := datum_nan h
  simp only [Ieee.Format.order, e]
  cases k.format.read x <;> rfl
theorem order_congr {k : FloatKind} {x x' y y' : Nat} (hx : NEq k x x') (hy : NEq k y y') : k.format.order x y = k.format.order x' y' := by
  rcases hx with rfl | ⟨h1, h2⟩
  · rcases hy with rfl | ⟨g1, g2⟩
    · rfl
    · rw [order_nan_right g1, order_nan_right g2]
  · rw [order_nan_left h1, order_nan_left h2]
theorem isN_congr {k : FloatKind} {x x' : Nat} (hx : NEq k x x') : isN k x = isN k x' := by
  rcases hx with rfl | ⟨h1, h2⟩
  · rfl
  · rw [h1, h2]
theorem isF_not_isN {k : FloatKind} {x : Nat} (h : isF k x = true) : isN k x = false := by
  unfold isF at h; unfold isN
  split at h
  · rename_i e; rw [e]; rfl
  · cases h
theorem isN_not_isF {k : FloatKind} {x : Nat} (h : isN k x = true) : isF k x = false := by
  cases g : isF k x
  · rfl
  · rw [isF_not_isN g] at h; cases h
theorem isF_congr {k : FloatKind} {x x' : Nat} (hx : NEq k x x') : isF k x = isF k x' := by
  rcases hx with rfl | ⟨h1, h2⟩
  · rfl
  · rw [isN_not_isF h1, isN_not_isF h2]
/-- Where one of bothC is a number, the bits are the same. -/
theorem NEq.eq {k : FloatKind} {x y : Nat} (h : NEq k x y) (g : isF k y = true) : x = y := by
  rcases h with h | ⟨_, h2⟩
  · exact h
  · rw [isN_not_isF h2] at g; cases g

theorem order_self {k : FloatKind} {x : Nat} (h : isN k x = false) : k.format.order x x = some .eq := by
  unfold isN at h
  simp only [Ieee.Format.order]
  cases e : k.format.read x with
  | nan s f => rw [e] at h; cases h
  | infinity s => cases s <;> rfl
  | number s m i => simp [Ieee.Datum.order]

theorem sub_self_fin {k : FloatKind} {x : Nat} (h : isF k x = true) : floatBits .sub k x x = some 0 := by
  unfold isF at h
  split at h
  · rename_i s m i e
    simp only [floatBits, Ieee.Format.sub, e, Ieee.Datum.opposite, Ieee.Datum.sum]
    have hz : Ieee.signed s m (i - min i i).toNat + Ieee.signed (!s) m (i - min i i).toNat = 0 := by
      cases s <;> simp [Ieee.signed] <;> omega
    simp only [hz]
    cases s <;> simp [Ieee.Format.write, Ieee.Format.nearest, Ieee.Format.word]
  · cases h
theorem sub_self_not {k : FloatKind} {x : Nat} (h : isF k x = false) : floatBits .sub k x x = none := by
  unfold isF at h
  split at h
  · cases h
  · rename_i hn
    cases e : k.format.read x with
    | number s m i => exact absurd e (hn s m i)
    | infinity s => simp only [floatBits, Ieee.Format.sub, e, Ieee.Datum.opposite, Ieee.Datum.sum]; cases s <;> rfl
    | nan s f => simp only [floatBits, Ieee.Format.sub, e, Ieee.Datum.opposite, Ieee.Datum.sum]; rfl

/-- 'x - x == 0' tells whether x is finite. -/
theorem real_test (k : FloatKind) (x : Nat) : (k.format.order (cf .sub k x x) 0 == some .eq) = isF k x := by
  cases h : isF k x with
  | true =>
    simp only [cf, sub_self_fin h, Option.getD_some]
    have : k.format.order 0 0 = some .eq := by cases k <;> decide
    rw [this]; rfl
  | false =>
    simp only [cf, sub_self_not h, Option.getD_none]
    rw [order_nan_left (isN_qn k)]; rfl

theorem read_fin_f64 {x : Nat} {s : Bool} {m : Nat} {i : Int} (h : FloatKind.f64.format.read x = .number s m i) : m < 2 ^ 53 ∧ -1074 ≤ i ∧ i ≤ 971 := by
  have e1 : FloatKind.f64.format.signWeight = 2 ^ 63 := by decide
  have e2 : FloatKind.f64.format.binade = 2 ^ 52 := by decide
  have e3 : FloatKind.f64.format.infRung = 0x7ff0000000000000 := by decide
  have e4 : FloatKind.f64.format.leastPlace = -1074 := by decide
  simp only [Ieee.Format.read, e1, e2, e3, e4] at h
  split at h
  · simp only [Ieee.Datum.number.injEq] at h
    omega
  · split at h
    · simp only [Ieee.Datum.number.injEq] at h
      omega
    · split at h <;> cases h

theorem order_max_f64 {x : Nat} (hx : isF .f64 x = true) : (FloatKind.f64.format.order x 9218868437227405311 == some .gt) = false := by
  unfold isF at hx
  split at hx
  · rename_i s m i e
    obtain ⟨h1, h2, h3⟩ := read_fin_f64 e
    have em : FloatKind.f64.format.read 9218868437227405311 = .number false (2 ^ 53 - 1) 971 := by decide +kernel
    simp only [Ieee.Format.order, e, em, Ieee.Datum.order]
    have hmin : min i 971 = i := by omega
    rw [hmin]
    have : ¬ (Ieee.signed false (2 ^ 53 - 1) (971 - i).toNat < Ieee.signed s m (i - i).toNat) := by
      have hp : 1 ≤ 2 ^ (971 - i).toNat := Nat.one_le_two_pow
      have hq : 2 ^ 53 - 1 ≤ (2 ^ 53 - 1) * 2 ^ (971 - i).toNat := Nat.le_mul_of_pos_right _ hp
      simp only [Ieee.signed, Nat.shiftLeft_eq, Int.sub_self, Int.toNat_zero, Nat.pow_zero, Nat.mul_one]
      generalize 2 ^ (971 - i).toNat = p at *
      generalize hg : (2 ^ 53 - 1) * p = g at *
      cases s <;> simp <;> omega
    simp only [compare, compareOfLessAndEq]
    split
    · rfl
    · split
      · rfl
      · omega
  · cases hx
theorem order_max_inf {s : Bool} {x : Nat} (h : FloatKind.f64.format.read x = .infinity s) : FloatKind.f64.format.order x 9218868437227405311 = some (if s then .lt else .gt) := by
  have em : FloatKind.f64.format.read 9218868437227405311 = .number false (2 ^ 53 - 1) 971 := by decide +kernel
  simp only [Ieee.Format.order, h, em, Ieee.Datum.order]
theorem bits_abs (x : Nat) : (bits .andNot .u64 (x : Int) 9223372036854775808).toNat = x % 2 ^ 63 := by
  have h : (BitVec.ofInt 64 (x : Int) &&& ~~~(BitVec.ofInt 64 9223372036854775808)).toNat = x % 2 ^ 63 := by
    have e : ~~~(BitVec.ofInt 64 9223372036854775808) = BitVec.ofNat 64 (2 ^ 63 - 1) := by decide
    rw [e, BitVec.toNat_and, BitVec.ofInt_natCast, BitVec.toNat_ofNat, BitVec.toNat_ofNat, Nat.mod_eq_of_lt (show 2 ^ 63 - 1 < 2 ^ 64 by decide), Nat.and_two_pow_sub_one_eq_mod]
    omega
  show (IntKind.u64.wrap ((BitVec.ofInt 64 (x : Int) &&& ~~~(BitVec.ofInt 64 9223372036854775808)).toNat : Int)).toNat = _
  rw [h, IntKind.wrap_u64]
  omega

/-- Go's 'IsInf(x, 0)' and 'IsNaN(x)', by the comparisons that they make. -/
def isI (x : Nat) : Bool := FloatKind.f64.format.order (x % 2 ^ 63) 9218868437227405311 == some .gt
def isM (x : Nat) : Bool := FloatKind.f64.format.order x x != some .eq

theorem read_abs (x : Nat) : FloatKind.f64.format.read (x % 2 ^ 63) = match FloatKind.f64.format.read x with
    | .number _ m i => .number false m i | .infinity _ => .infinity false | .nan _ f => .nan false f := by
  have e1 : FloatKind.f64.format.signWeight = 2 ^ 63 := by decide
  simp only [Ieee.Format.read, e1, Nat.mod_mod]
  have e0 : x % 2 ^ 63 / 2 ^ 63 = 0 := by omega
  rw [e0]
  split <;> simp_all
  split <;> simp_all
  split <;> simp_all

theorem fin_tests {x : Nat} (h : isF .f64 x = true) : isI x = false ∧ isM x = false := by
  have hn := isF_not_isN h
  refine ⟨?_, by unfold isM; rw [order_self hn]; rfl⟩
  refine order_max_f64 ?_
  unfold isF at h ⊢
  rw [read_abs]
  split at h
  · rename_i e; rw [e]
  · cases h
theorem not_fin_tests {x : Nat} (h : isF .f64 x = false) : isI x = true ∨ isM x = true := by
  cases e : FloatKind.f64.format.read x with
  | number s m i => unfold isF at h; rw [e] at h; cases h
  | infinity s =>
    left
    unfold isI
    rw [order_max_inf (s := false) (by rw [read_abs, e])]; rfl
  | nan s f =>
    right
    unfold isM
    rw [order_nan_left (by unfold isN; rw [e]; rfl)]; rfl

/-! ### What chapter 1's functions of wide numbers give -/
/-- The call returned a complex number, up to the bits of a NaN, and left the world alone, but for draws. -/
def RetC (re im : Nat) (w : World) (e : Ending) (w' : World) : Prop :=
  ∃ r i n, e = .returned (.complex .f64 r i) ∧ NEq .f64 r re ∧ NEq .f64 i im ∧ w' = w.drewN n

def finC (a b : Nat) : Bool := isF .f64 a && isF .f64 b
/-- A wide number and a code. -/
def pairV (r : Nat × Nat × Int) : Value := .tuple #[.complex .f64 r.1 r.2.1, .int .i64 r.2.2]
@[go_sem] theorem pairV_eq (r : Nat × Nat × Int) : pairV r = .tuple #[.complex .f64 r.1 r.2.1, .int .i64 r.2.2] := rfl
def limC (a b : Nat) : Nat × Nat × Int := if finC a b = true then (a, b, 0) else (0, 0, 3)
theorem limC_yes {a b : Nat} (h : finC a b = true) : limC a b = (a, b, 0) := if_pos h
theorem limC_no {a b : Nat} (h : finC a b = false) : limC a b = (0, 0, 3) := if_neg (by rw [h]; decide)
theorem finC_congr {a b a' b' : Nat} (h : NEq .f64 a a') (g : NEq .f64 b b') : finC a b = finC a' b' := by
  unfold finC; rw [isF_congr h, isF_congr g]
theorem finC_split {a b : Nat} (h : finC a b = true) : isF .f64 a = true ∧ isF .f64 b = true := by
  unfold finC at h; simpa using h
theorem limC_congr {a b a' b' : Nat} (h : NEq .f64 a a') (g : NEq .f64 b b') : limC a b = limC a' b' := by
  cases e : finC a' b' with
  | true =>
    obtain ⟨e1, e2⟩ := finC_split e
    rw [h.eq e1, g.eq e2]
  | false => rw [limC_no (by rw [finC_congr h g]; exact e), limC_no e]
theorem isF_zero : isF .f64 0 = true := by decide +kernel
/-- The result is finite, whatever came. -/
theorem limC_fin (a b : Nat) : finC (limC a b).1 (limC a b).2.1 = true := by
  cases e : finC a b with
  | true => rw [limC_yes e]; exact e
  | false => rw [limC_no e]; unfold finC; rw [isF_zero]; rfl

/-- Behind the test of bothC operands. -/
def bothC (a b c d : Nat) (r : Nat × Nat × Int) : Nat × Nat × Int := if finC a b = true ∧ finC c d = true then r else (0, 0, 1)
theorem bothC_yes {a b c d : Nat} {r : Nat × Nat × Int} (h : finC a b = true) (g : finC c d = true) : bothC a b c d r = r := if_pos ⟨h, g⟩
theorem bothC_no1 {a b c d : Nat} {r : Nat × Nat × Int} (h : finC a b = false) : bothC a b c d r = (0, 0, 1) := if_neg (by rw [h]; simp)
theorem bothC_no2 {a b c d : Nat} {r : Nat × Nat × Int} (h : finC c d = false) : bothC a b c d r = (0, 0, 1) := if_neg (by rw [h]; simp)
theorem bothC_fin {a b c d : Nat} {r : Nat × Nat × Int} (h : finC r.1 r.2.1 = true) : finC (bothC a b c d r).1 (bothC a b c d r).2.1 = true := by
  unfold bothC; split
  · exact h
  · unfold finC; rw [isF_zero]; rfl

def addR (a b c d : Nat) : Nat × Nat × Int := bothC a b c d (limC (cf .add .f64 a c) (cf .add .f64 b d))
def subR (a b c d : Nat) : Nat × Nat × Int := bothC a b c d (limC (cf .sub .f64 a c) (cf .sub .f64 b d))
def mRe (a b c d : Nat) : Nat := cf .sub .f64 (cf .mul .f64 a c) (cf .mul .f64 b d)
def mIm (a b c d : Nat) : Nat := cf .add .f64 (cf .mul .f64 a d) (cf .mul .f64 b c)
def mulR (a b c d : Nat) : Nat × Nat × Int := bothC a b c d (limC (mRe a b c d) (mIm a b c d))

/-! ### Quotients -/
def qParts (a b c d : Nat) : Nat × Nat :=
  if absGe c d = true then
    let ratio := cf .quo .f64 d c
    let denom := cf .add .f64 c (cf .mul .f64 ratio d)
    (cf .quo .f64 (cf .add .f64 a (cf .mul .f64 b ratio)) denom, cf .quo .f64 (cf .sub .f64 b (cf .mul .f64 a ratio)) denom)
  else
    let ratio := cf .quo .f64 c d
    let denom := cf .add .f64 d (cf .mul .f64 ratio c)
    (cf .quo .f64 (cf .add .f64 (cf .mul .f64 a ratio) b) denom, cf .quo .f64 (cf .sub .f64 (cf .mul .f64 b ratio) a) denom)

def isZ (c d : Nat) : Bool := FloatKind.f64.format.order c 0 == some .eq && FloatKind.f64.format.order d 0 == some .eq

theorem isNaN_isN (x : Nat) : Op.Complex.isNaN x = isN .f64 x := rfl
theorem isF_isInf {x : Nat} (h : isF .f64 x = true) : Op.Complex.isInf x = false := by
  unfold Op.Complex.isInf FloatKind.decode
  unfold isF at h
  split at h
  · rename_i e; rw [e]; rfl
  · cases h

theorem quotient_ex (P : Program) (w : World) (a b c d : Nat) (ha : isF .f64 a = true) (hb : isF .f64 b = true) (hc : isF .f64 c = true) (hd : isF .f64 d = true) (hz : isZ c d = false) :
    ∃ r : Nat × Nat × Nat, (Op.Complex.quotient a b c d).run P w = .ok (r.1, r.2.1) (w.drewN r.2.2) ∧ NEq .f64 r.1 (qParts a b c d).1 ∧ NEq .f64 r.2.1 (qParts a b c d).2 := by
  have ia := isF_isInf ha
  have ib := isF_isInf hb
  have ic := isF_isInf hc
  have id := isF_isInf hd
  unfold isZ at hz
  have e1 : ∀ (x : Nat) (w : World), (Op.Complex.cmp .eql .f64 x 0).run P w = .ok (FloatKind.f64.format.order x 0 == some .eq) w := fun x w => by
    simp [Op.Complex.cmp, Op.floatCmp, asBool]
  cases hge : absGe c d with
  | true =>
    obtain ⟨⟨ratio, n1⟩, h1, g1⟩ := carith_ex P w .quo .f64 d c rfl
    obtain ⟨⟨rd, n2⟩, h2, g2⟩ := carith_ex P (w.drewN n1) .mul .f64 ratio d rfl
    obtain ⟨⟨denom, n3⟩, h3, g3⟩ := carith_ex P (w.drewN (n1 + n2)) .add .f64 c rd rfl
    obtain ⟨⟨br, n4⟩, h4, g4⟩ := carith_ex P (w.drewN (n1 + n2 + n3)) .mul .f64 b ratio rfl
    obtain ⟨⟨m1, n5⟩, h5, g5⟩ := carith_ex P (w.drewN (n1 + n2 + n3 + n4)) .add .f64 a br rfl
    obtain ⟨⟨e, n6⟩, h6, g6⟩ := carith_ex P (w.drewN (n1 + n2 + n3 + n4 + n5)) .quo .f64 m1 denom rfl
    obtain ⟨⟨ar, n7⟩, h7, g7⟩ := carith_ex P (w.drewN (n1 + n2 + n3 + n4 + n5 + n6)) .mul .f64 a ratio rfl
    obtain ⟨⟨m2, n8⟩, h8, g8⟩ := carith_ex P (w.drewN (n1 + n2 + n3 + n4 + n5 + n6 + n7)) .sub .f64 b ar rfl
    obtain ⟨⟨f, n9⟩, h9, g9⟩ := carith_ex P (w.drewN (n1 + n2 + n3 + n4 + n5 + n6 + n7 + n8)) .quo .f64 m2 denom rfl
    refine ⟨(e, f, n1 + n2 + n3 + n4 + n5 + n6 + n7 + n8 + n9), ?_, ?_, ?_⟩
    · unfold Op.Complex.quotient
      simp only [Sem.run_bind, run_ccmp_geq, hge, Result.andThen_ok, if_true, Op.Complex.mul, Op.Complex.sub, Op.Complex.add, Op.Complex.quo,
        h1, h2, h3, h4, h5, h6, h7, h8, h9, Sem.run_pure, e1, World.drewN_drewN]
      cases hn : (Op.Complex.isNaN e && Op.Complex.isNaN f) <;> simp [hz, ia, ib, ic, id]
    · simp only [qParts, hge, if_true]
      have k1 := g1
      have k3 : NEq .f64 denom (cf .add .f64 c (cf .mul .f64 (cf .quo .f64 d c) d)) := by
        rw [← cf_congr (NEq.refl _ c) (show NEq .f64 rd _ from by rw [← cf_congr g1 (NEq.refl _ d)]; exact g2)]; exact g3
      refine NEq.trans g6 (.inl (cf_congr ?_ k3))
      refine NEq.trans g5 (.inl (cf_congr (NEq.refl _ _) ?_))
      exact NEq.trans g4 (.inl (cf_congr (NEq.refl _ _) g1))
    · simp only [qParts, hge, if_true]
      have k3 : NEq .f64 denom (cf .add .f64 c (cf .mul .f64 (cf .quo .f64 d c) d)) := by
        rw [← cf_congr (NEq.refl _ c) (show NEq .f64 rd _ from by rw [← cf_congr g1 (NEq.refl _ d)]; exact g2)]; exact g3
      refine NEq.trans g9 (.inl (cf_congr ?_ k3))
      refine NEq.trans g8 (.inl (cf_congr (NEq.refl _ _) ?_))
      exact NEq.trans g7 (.inl (cf_congr (NEq.refl _ _) g1))
  | false =>
    obtain ⟨⟨ratio, n1⟩, h1, g1⟩ := carith_ex P w .quo .f64 c d rfl
    obtain ⟨⟨rd, n2⟩, h2, g2⟩ := carith_ex P (w.drewN n1) .mul .f64 ratio c rfl
    obtain ⟨⟨denom, n3⟩, h3, g3⟩ := carith_ex P (w.drewN (n1 + n2)) .add .f64 d rd rfl
    obtain ⟨⟨ar, n4⟩, h4, g4⟩ := carith_ex P (w.drewN (n1 + n2 + n3)) .mul .f64 a ratio rfl
    obtain ⟨⟨m1, n5⟩, h5, g5⟩ := carith_ex P (w.drewN (n1 + n2 + n3 + n4)) .add .f64 ar b rfl
    obtain ⟨⟨e, n6⟩, h6, g6⟩ := carith_ex P (w.drewN (n1 + n2 + n3 + n4 + n5)) .quo .f64 m1 denom rfl
    obtain ⟨⟨br, n7⟩, h7, g7⟩ := carith_ex P (w.drewN (n1 + n2 + n3 + n4 + n5 + n6)) .mul .f64 b ratio rfl
    obtain ⟨⟨m2, n8⟩, h8, g8⟩ := carith_ex P (w.drewN (n1 + n2 + n3 + n4 + n5 + n6 + n7)) .sub .f64 br a rfl
    obtain ⟨⟨f, n9⟩, h9, g9⟩ := carith_ex P (w.drewN (n1 + n2 + n3 + n4 + n5 + n6 + n7 + n8)) .quo .f64 m2 denom rfl
    refine ⟨(e, f, n1 + n2 + n3 + n4 + n5 + n6 + n7 + n8 + n9), ?_, ?_, ?_⟩
    · unfold Op.Complex.quotient
      simp only [Sem.run_bind, run_ccmp_geq, hge, Result.andThen_ok, Bool.false_eq_true, if_false, Op.Complex.mul, Op.Complex.sub, Op.Complex.add, Op.Complex.quo,
        h1, h2, h3, h4, h5, h6, h7, h8, h9, Sem.run_pure, e1, World.drewN_drewN]
      cases hn : (Op.Complex.isNaN e && Op.Complex.isNaN f) <;> simp [hz, ia, ib, ic, id]
    · simp only [qParts, hge, Bool.false_eq_true, if_false]
      have k3 : NEq .f64 denom (cf .add .f64 d (cf .mul .f64 (cf .quo .f64 c d) c)) := by
        rw [← cf_congr (NEq.refl _ d) (show NEq .f64 rd _ from by rw [← cf_congr g1 (NEq.refl _ c)]; exact g2)]; exact g3
      refine NEq.trans g6 (.inl (cf_congr ?_ k3))
      refine NEq.trans g5 (.inl (cf_congr ?_ (NEq.refl _ _)))
      exact NEq.trans g4 (.inl (cf_congr (NEq.refl _ _) g1))
    · simp only [qParts, hge, Bool.false_eq_true, if_false]
      have k3 : NEq .f64 denom (cf .add .f64 d (cf .mul .f64 (cf .quo .f64 c d) c)) := by
        rw [← cf_congr (NEq.refl _ d) (show NEq .f64 rd _ from by rw [← cf_congr g1 (NEq.refl _ c)]; exact g2)]; exact g3
      refine NEq.trans g9 (.inl (cf_congr ?_ k3))
      refine NEq.trans g8 (.inl (cf_congr ?_ (NEq.refl _ _)))
      exact NEq.trans g7 (.inl (cf_congr (NEq.refl _ _) g1))

theorem cquo_ex (P : Program) (w : World) (t : TypeId) (a b c d : Nat) (ha : isF .f64 a = true) (hb : isF .f64 b = true) (hc : isF .f64 c = true) (hd : isF .f64 d = true) (hz : isZ c d = false) :
    ∃ r : Nat × Nat × Nat, (binOp .quo t (.complex .f64 a b) (.complex .f64 c d)).run P w = .ok (.complex .f64 r.1 r.2.1) (w.drewN r.2.2) ∧ NEq .f64 r.1 (qParts a b c d).1 ∧ NEq .f64 r.2.1 (qParts a b c d).2 := by
  obtain ⟨r, h, g⟩ := quotient_ex P w a b c d ha hb hc hd hz
  exact ⟨r, by simp [binOp, Op.complexOp, Op.Complex.conv, h], g⟩

def quoR (a b c d : Nat) : Nat × Nat × Int := bothC a b c d (if isZ c d = true then (0, 0, 5) else limC (qParts a b c d).1 (qParts a b c d).2)

theorem quoR_zero {a b c d : Nat} (h : finC a b = true) (g : finC c d = true) (hz : isZ c d = true) : quoR a b c d = (0, 0, 5) := by
  unfold quoR; rw [bothC_yes h g, if_pos hz]
theorem quoR_some {a b c d : Nat} (h : finC a b = true) (g : finC c d = true) (hz : isZ c d = false) : quoR a b c d = limC (qParts a b c d).1 (qParts a b c d).2 := by
  unfold quoR; rw [bothC_yes h g, if_neg (by rw [hz]; decide)]

/-- 1 divided by a zero is no NaN. -/
theorem inv_zero {x : Nat} (h : FloatKind.f64.format.order x 0 = some .eq) : isN .f64 (cf .quo .f64 4607182418800017408 x) = false := by
  have e0 : FloatKind.f64.format.read 0 = .number false 0 (-1074) := by decide +kernel
  have e1 : FloatKind.f64.format.read 4607182418800017408 = .number false (2 ^ 52) (-52) := by decide +kernel
  simp only [Ieee.Format.order, e0] at h
  cases e : FloatKind.f64.format.read x with
  | nan s f => rw [e] at h; simp [Ieee.Datum.order] at h
  | infinity s => rw [e] at h; cases s <;> simp [Ieee.Datum.order] at h
  | number s m i =>
    rw [e] at h
    have hm : m = 0 := by
      simp only [Ieee.Datum.order, Option.some.injEq, Ieee.signed] at h
      have h2 := Int.compare_eq_eq.1 h
      rcases Nat.eq_zero_or_pos m with h0 | h0
      · exact h0
      · exfalso
        have hp : 0 < m <<< (i - min i (-1074)).toNat := by rw [Nat.shiftLeft_eq]; exact Nat.mul_pos h0 (Nat.two_pow_pos _)
        cases s <;> simp at h2 <;> omega
    subst hm
    have : cf .quo .f64 4607182418800017408 x = FloatKind.f64.format.write (.infinity (false ^^ s)) := by
      simp only [cf, floatBits, Ieee.Format.div, e, e1, Ieee.Datum.quotient, if_pos, if_neg (show (2 : Nat) ^ 52 ≠ 0 by decide)]
      rfl
    rw [this]
    cases s <;> decide +kernel

end Go.Proofs.Ytabpgkkickdopaa
