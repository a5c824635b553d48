/-
  Whole numbers and exact numbers that came in, as they read. Conditions: none. The listed table, as it reads. Conditions: none.
-/
import Derived.Test.YtiohacnkiikmcaaRows
import Derived.Test.YtiohacnkiikmcaaMh
import Derived.ProofKit
import Derived.OpenShut
import Derived.ShutString
import Derived.ChangeOld
import Derived.ChangeSame
import Derived.Below
import Derived.Lib.SmallJoins
import Derived.Test.YtiohacnkiikmcaaRd
import Derived.Lib.LaidTab
import Derived.MakeChecks
namespace Go.Proofs.Ytiohacnkiikmcaa
open Go Go.RowKit

open Go.ChangeShapes Go.WideShapes Go.ChangeAt Go.RowKit Go.Joins
set_option linter.unusedVariables false
theorem block_lt {w : World} {p : Addr} {v : Value} (h : w.cell? p = some v) : p.block < w.heap.size := by
  unfold World.cell? at h
  split at h
  · rename_i e; exact (Array.getElem?_eq_some_iff.1 e).1
  · cases h

/-- Limbs that came in. -/
theorem open_limbs {H : Type} {enc : TypeId × Value → H} {W : World} {spare : Nat → Bool} {held : Bool} {v : Value} {m : Nat} {y : DataW H × List MemPlace}
    (hy1 : DataW.trod enc Try.prog W 0 spare held m 99 [v] = some y) : ∃ a xs c, v = .slice a (List.length xs) c ∧ xs.length ≤ 9223372036854775807 ∧ Ints W W.heap.size a xs := by
  rcases open_ints Try.underlying99 Try.underlying2 (by kernel_rfl) hy1 with ⟨hcs, _⟩ | ⟨x, l, c, zs, hcs, _, hl, hm, hz, _, hcell, hwz⟩
  · simp at hcs
    subst hcs
    exact ⟨none, [], 0, rfl, by simp, Ints.none⟩
  · simp at hcs
    subst hcs
    unfold maxLen at hm
    have hlz : l ≤ zs.length := by rw [hz]; split <;> omega
    refine ⟨some x, zs.take l, c, by rw [List.length_take, Nat.min_eq_left hlz], by rw [List.length_take]; omega, fun i hi => ?_⟩
    have hi' : i < l := by rw [List.length_take] at hi; omega
    obtain ⟨b, off, spot⟩ := x
    have hc0 := hcell 0 (by omega)
    have hspot : spot = none := by simpa [Addr.add] using World.cell?_spot hc0
    subst hspot
    have hadd : (⟨b, off, none⟩ : Addr).add i = ⟨b, off + i, none⟩ := by
      by_cases h0 : i = 0
      · subst h0; simp [Addr.add]
      · simp [Addr.add, h0]
    have hc := hcell i (by omega)
    rw [hadd] at hc
    refine ⟨b, off, rfl, block_lt hc, ?_⟩
    rw [hc, List.getElem_take, List.getD_eq_getElem?_getD, List.getElem?_eq_getElem (by omega)]
    rfl


open Go
end Go.Proofs.Ytiohacnkiikmcaa
