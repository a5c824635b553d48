/-
  Contracts: opposites and differences of whole numbers. Conditions: the limbs can be read.
-/
import Derived.Test.YtfjfmlofhifkmaaDoorMr
namespace Go.Proofs.YtfjfmlofhifkmaaDoor
set_option linter.unusedVariables false
open Go Go.RowKit

theorem retZ_end2 {w W0 W : World} {z : Int} {a : Option Addr} {c : Nat} {s : Int} {k : Nat} (P3 : Below w.heap.size w W0) (P4 : W0.heap.size = w.heap.size + 2) (hb : Below W0.heap.size W0 W) (u v : Value) (ho : Own W W0.heap.size a (lim k)) (hc : (lim k).length ≤ c) (hs : s = z.sign ∧ k = z.natAbs) :
    RetZ z w (.returned (.agg #[.int .i64 s, .slice a (lim k).length c])) ((W.setCell ⟨w.heap.size + 1, 0, none⟩ u).setCell ⟨w.heap.size + 1, 1, none⟩ v) := by
  obtain ⟨rfl, rfl⟩ := hs
  exact ⟨a, c, rfl, hc, ((ho.setFar (by simp; omega) _).setFar (by simp; omega) _).mono (by omega), ((P3.trans (hb.mono (by omega))).setCell (by simp <;> omega) _).setCell (by simp <;> omega) _⟩

end Go.Proofs.YtfjfmlofhifkmaaDoor
