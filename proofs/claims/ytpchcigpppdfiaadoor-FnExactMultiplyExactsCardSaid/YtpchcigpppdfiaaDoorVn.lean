/-
  Contract of the model: shifts of whole numbers. Conditions: the limbs can be read.
-/
import Derived.Test.YtpchcigpppdfiaaDoorRd
import Derived.Test.YtpchcigpppdfiaaDoorUf
namespace Go.Proofs.YtpchcigpppdfiaaDoor
set_option linter.unusedVariables false
open Go Go.RowKit

theorem RetZ.alloc {z : Int} {w W : World} {e : Ending} (h : RetZ z w e W) (o : Obj) : RetZ z w e (W.alloc o) := by
  obtain ⟨a, c, he, hc, ho, hb⟩ := h
  exact ⟨a, c, he, hc, ho.alloc o, hb.alloc hb.size o⟩
theorem neg_less (M : Nat) : sgnOf (-1) M * (M : Int) - 1 * 1 = -1 * ((M + 1 : Nat) : Int) := by
  by_cases h : M = 0
  · subst h; rw [sgnOf_zero]; rfl
  · rw [sgnOf_pos h]; omega
theorem Sg.sgn1 (M : Nat) : Sg (sgnOf (-1) M) M := by
  unfold Sg
  by_cases h : M = 0
  · left; subst h; exact ⟨rfl, sgnOf_zero _⟩
  · right; exact ⟨h, .inr (sgnOf_pos h)⟩

end Go.Proofs.YtpchcigpppdfiaaDoor
