/-
  What the source draws: numbers with codes, lists of wide numbers. No conditions.
-/
import Derived.Test.YtabpgkkickdopaaGp
import Derived.Test.YtabpgkkickdopaaWl
namespace Go.Proofs.Ytabpgkkickdopaa
set_option linter.unusedVariables false
open Go Go.RowKit

section
variable {B : Nat} {a : Option Addr} {len cap b : Nat} {w W : World}
theorem pick_mem (h : Stay B a len cap b w W) (xs : List Int) (t : TypeId) (m : Nat) (hm : m = xs.length) (hm1 : 1 ≤ m) (hm2 : m ≤ 1000) (p : Int → Prop) (hx : ∀ x ∈ xs, p x) (V : World) (hV : V = W.alloc (.cells (xs.map (Value.int .i64)).toArray t)) :
    Calls Try.prog 74 #[.pointer (some ⟨b, 0, none⟩), .slice (some ⟨W.heap.size, 0, none⟩) m m] V (SomeP p B a len cap b w) := by
  subst hm hV
  have h2 := h.alloc' (.cells (xs.map (Value.int .i64)).toArray t)
  have hb := h.src.hi
  refine (pickP_any p B a len cap b W.heap.size xs.length xs.length _ h2.src hm1 hm2 (by simp) (by omega) fun i hi => ?_).mono fun _ _ ⟨x, hp, he, hst⟩ => ⟨x, hp, he, h2.trans hst⟩
  exact ⟨xs[i], hx _ (List.getElem_mem _), by simp [List.getElem?_eq_getElem hi]⟩
end
/-- A wide number and a code. -/
def OneK (B : Nat) (w : World) (e : Ending) (w' : World) : Prop :=
  ∃ (x y : Nat) (k : Int), (Wf x ∧ Wf y) ∧ InI64 k ∧ e = .returned (.tuple #[.complex .f64 x y, .int .i64 k]) ∧ Below B w w'
def OneC (B : Nat) (w : World) (e : Ending) (w' : World) : Prop :=
  ∃ (x y : Nat), (Wf x ∧ Wf y) ∧ e = .returned (.complex .f64 x y) ∧ Below B w w'

end Go.Proofs.Ytabpgkkickdopaa
