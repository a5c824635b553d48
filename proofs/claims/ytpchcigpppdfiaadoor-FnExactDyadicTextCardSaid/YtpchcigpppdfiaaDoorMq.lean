/-
  Contracts: order, sums and differences of whole numbers. Conditions: the limbs can be read.
-/
import Derived.Test.YtpchcigpppdfiaaDoorMo
namespace Go.Proofs.YtpchcigpppdfiaaDoor
set_option linter.unusedVariables false
open Go Go.RowKit

theorem two_box (w : World) (t : TypeId) (p q : Array Value) : BoxAt ((w.alloc (.cells p t)).alloc (.cells q t)) w.heap.size t p ∧ BoxAt ((w.alloc (.cells p t)).alloc (.cells q t)) (w.heap.size + 1) t q ∧ Below w.heap.size w ((w.alloc (.cells p t)).alloc (.cells q t)) ∧ ((w.alloc (.cells p t)).alloc (.cells q t)).heap.size = w.heap.size + 2 :=
  ⟨(BoxAt.new w t p).alloc _, by have := BoxAt.new (w.alloc (.cells p t)) t q; simpa using this, ((Below.refl _ w).alloc (Nat.le_refl _) _).alloc (by simp) _, by simp⟩

/-- A sign and a size as they stand in a whole number. -/
def Sg (s : Int) (n : Nat) : Prop := (n = 0 ∧ s = 0) ∨ (n ≠ 0 ∧ (s = 1 ∨ s = -1))
theorem Sg.sgn {s : Int} {n : Nat} (h : Sg s n) : sgnOf s n = s := by
  rcases h with ⟨rfl, rfl⟩ | ⟨h, _⟩
  · exact sgnOf_zero 0
  · exact sgnOf_pos h
theorem sg_cmp_ne {s t : Int} {m n : Nat} (h : Sg s m) (k : Sg t n) (hne : s ≠ t) : cmpZ s t = cmpZ (s * m) (t * n) := by
  unfold Sg at h k
  rcases h with ⟨rfl, rfl⟩ | ⟨h, rfl | rfl⟩ <;> rcases k with ⟨rfl, rfl⟩ | ⟨k, rfl | rfl⟩ <;> first | exact absurd rfl hne | (unfold cmpZ; simp; omega) | (unfold cmpZ; repeat' split <;> omega)
theorem sg_cmp_eq {s : Int} {m n : Nat} (h : Sg s m) (k : Sg s n) : s * cmpZ m n = cmpZ (s * m) (s * n) := by
  unfold Sg at h k
  rcases h with ⟨rfl, rfl⟩ | ⟨h, rfl | rfl⟩
  · simp [cmpZ]
  · simp
  · unfold cmpZ; repeat' split <;> omega

end Go.Proofs.YtpchcigpppdfiaaDoor
