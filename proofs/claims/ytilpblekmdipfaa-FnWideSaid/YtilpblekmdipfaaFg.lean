/-
  Float operations as rules of the walk: every '+', '-', '*', '/' gives some float, up to the bits of a NaN the canonical one. No conditions.
-/
import Derived.Test.YtilpblekmdipfaaFl
namespace Go.Proofs.Ytilpblekmdipfaa
open Go

noncomputable def fop (P : Program) (w : World) (op : BinOp) (t : TypeId) (k : FloatKind) (x y : Nat) : Nat × Nat :=
  if h : arithOp op = true then Classical.choose (arith_ex P w op t k x y h) else (0, 0)
theorem fop_spec (P : Program) (w : World) (op : BinOp) (t : TypeId) (k : FloatKind) (x y : Nat) (h : arithOp op = true) :
    (binOp op t (.float k x) (.float k y)).run P w = .ok (.float k (fop P w op t k x y).1) (w.drewN (fop P w op t k x y).2) ∧ NEq k (fop P w op t k x y).1 (cf op k x y) := by
  unfold fop
  rw [dif_pos h]
  exact Classical.choose_spec (arith_ex P w op t k x y h)
theorem fop_eq (P : Program) (w : World) (op : BinOp) (t : TypeId) (k : FloatKind) (x y : Nat) (h : arithOp op = true) : NEq k (fop P w op t k x y).1 (cf op k x y) := (fop_spec P w op t k x y h).2
section
variable (P : Program) (w : World) (t : TypeId) (k : FloatKind) (x y : Nat)
@[go_sem] theorem run_fadd : (binOp .add t (.float k x) (.float k y)).run P w = .ok (.float k (fop P w .add t k x y).1) (w.drewN (fop P w .add t k x y).2) := (fop_spec P w .add t k x y rfl).1
@[go_sem] theorem run_fsub : (binOp .sub t (.float k x) (.float k y)).run P w = .ok (.float k (fop P w .sub t k x y).1) (w.drewN (fop P w .sub t k x y).2) := (fop_spec P w .sub t k x y rfl).1
@[go_sem] theorem run_fmul : (binOp .mul t (.float k x) (.float k y)).run P w = .ok (.float k (fop P w .mul t k x y).1) (w.drewN (fop P w .mul t k x y).2) := (fop_spec P w .mul t k x y rfl).1
@[go_sem] theorem run_fquo : (binOp .quo t (.float k x) (.float k y)).run P w = .ok (.float k (fop P w .quo t k x y).1) (w.drewN (fop P w .quo t k x y).2) := (fop_spec P w .quo t k x y rfl).1
end
@[go_sem] theorem unary_neg_float (k : FloatKind) (b : Nat) : Op.unary .neg (.float k b) = pure (.float k (Op.negFloat k b)) := rfl
@[go_sem] theorem unary_neg_complex (k : FloatKind) (a b : Nat) : Op.unary .neg (.complex k a b) = pure (.complex k (Op.negFloat k a) (Op.negFloat k b)) := rfl
end Go.Proofs.Ytilpblekmdipfaa
