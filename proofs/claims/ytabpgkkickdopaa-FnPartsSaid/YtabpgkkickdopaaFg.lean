/-
  Float operations as rules of the walk: every '+', '-', '*', '/' gives some float, up to the bits of a NaN the canonical one. No conditions.
-/
import Derived.Test.YtabpgkkickdopaaFl
namespace Go.Proofs.Ytabpgkkickdopaa
set_option linter.unusedVariables false
open Go

noncomputable def fop (P : Program) (w : World) (op : BinOp) (t : TypeId) (k : FloatKind) (x y : Nat) : Nat × Nat :=
  if h : arithOp op = true then Classical.choose (arith_ex P w op t k x y h) else (0, 0)
theorem fop_spec (P : Program) (w : World) (op : BinOp) (t : TypeId) (k : FloatKind) (x y : Nat) (h : arithOp op = true) :
    (binOp op t (.float k x) (.float k y)).run P w = .ok (.float k (fop P w op t k x y).1) (w.drewN (fop P w op t k x y).2) ∧ NEq k (fop P w op t k x y).1 (cf op k x y) := by
  unfold fop
  rw [dif_pos h]
  exact Classical.choose_spec (arith_ex P w op t k x y h)
theorem fop_eq (P : Program) (w : World) (op : BinOp) (t : TypeId) (k : FloatKind) (x y : Nat) (h : arithOp op = true) : NEq k (fop P w op t k x y).1 (cf op k x y) := (fop_spec P w op t k x y h).2
theorem wf_fop (P : Program) (w : World) (op : BinOp) (t : TypeId) (x y : Nat) (h : arithOp op = true) : Wf (fop P w op t .f64 x y).1 := arith_wf P w _ op t x y _ h (fop_spec P w op t .f64 x y h).1
section
variable (P : Program) (w : World) (t : TypeId) (k : FloatKind) (x y : Nat)
@[go_sem] theorem run_fadd : (binOp .add t (.float k x) (.float k y)).run P w = .ok (.float k (fop P w .add t k x y).1) (w.drewN (fop P w .add t k x y).2) := (fop_spec P w .add t k x y rfl).1
@[go_sem] theorem run_fsub : (binOp .sub t (.float k x) (.float k y)).run P w = .ok (.float k (fop P w .sub t k x y).1) (w.drewN (fop P w .sub t k x y).2) := (fop_spec P w .sub t k x y rfl).1
@[go_sem] theorem run_fmul : (binOp .mul t (.float k x) (.float k y)).run P w = .ok (.float k (fop P w .mul t k x y).1) (w.drewN (fop P w .mul t k x y).2) := (fop_spec P w .mul t k x y rfl).1
@[go_sem] theorem run_fquo : (binOp .quo t (.float k x) (.float k y)).run P w = .ok (.float k (fop P w .quo t k x y).1) (w.drewN (fop P w .quo t k x y).2) := (fop_spec P w .quo t k x y rfl).1
end
noncomputable def cadd (P : Program) (w : World) (op : BinOp) (t : TypeId) (k : FloatKind) (a b c d : Nat) : Nat × Nat × Nat :=
  if h : op = .add ∨ op = .sub then Classical.choose (csum_ex P w op h t k a b c d) else (0, 0, 0)
theorem cadd_spec (P : Program) (w : World) (op : BinOp) (h : op = .add ∨ op = .sub) (t : TypeId) (k : FloatKind) (a b c d : Nat) :
    (binOp op t (.complex k a b) (.complex k c d)).run P w = .ok (.complex k (cadd P w op t k a b c d).1 (cadd P w op t k a b c d).2.1) (w.drewN (cadd P w op t k a b c d).2.2) ∧
    NEq k (cadd P w op t k a b c d).1 (cf op k a c) ∧ NEq k (cadd P w op t k a b c d).2.1 (cf op k b d) := by
  unfold cadd
  rw [dif_pos h]
  exact Classical.choose_spec (csum_ex P w op h t k a b c d)
@[go_sem] theorem run_cadd (P : Program) (w : World) (t : TypeId) (k : FloatKind) (a b c d : Nat) : (binOp .add t (.complex k a b) (.complex k c d)).run P w = .ok (.complex k (cadd P w .add t k a b c d).1 (cadd P w .add t k a b c d).2.1) (w.drewN (cadd P w .add t k a b c d).2.2) := (cadd_spec P w .add (.inl rfl) t k a b c d).1
@[go_sem] theorem run_csub (P : Program) (w : World) (t : TypeId) (k : FloatKind) (a b c d : Nat) : (binOp .sub t (.complex k a b) (.complex k c d)).run P w = .ok (.complex k (cadd P w .sub t k a b c d).1 (cadd P w .sub t k a b c d).2.1) (w.drewN (cadd P w .sub t k a b c d).2.2) := (cadd_spec P w .sub (.inr rfl) t k a b c d).1
@[go_sem] theorem unary_neg_float (k : FloatKind) (b : Nat) : Op.unary .neg (.float k b) = pure (.float k (Op.negFloat k b)) := rfl
@[go_sem] theorem unary_neg_complex (k : FloatKind) (a b : Nat) : Op.unary .neg (.complex k a b) = pure (.complex k (Op.negFloat k a) (Op.negFloat k b)) := rfl
end Go.Proofs.Ytabpgkkickdopaa
