/-
  Whole numbers and exact numbers that came in, as they read. Conditions: none. The listed table, as it reads. Conditions: none.
-/
import Derived.Test.YtgppagmejhgmaaaGreatDoorRows
import Derived.Test.YtgppagmejhgmaaaGreatDoorMh
import Derived.ProofKit
import Derived.OpenShut
import Derived.ShutString
import Derived.ChangeOld
import Derived.ChangeSame
import Derived.Below
import Derived.Lib.SmallJoins
import Derived.Test.YtgppagmejhgmaaaGreatDoorRd
import Derived.Lib.LaidTab
import Derived.MakeChecks
namespace Go.Proofs.YtgppagmejhgmaaaGreatDoor
open Go Go.RowKit

open Go.ChangeShapes Go.WideShapes Go.ChangeAt Go.RowKit Go.Joins
set_option linter.unusedVariables false
theorem block_lt {w : World} {p : Addr} {v : Value} (h : w.cell? p = some v) : p.block < w.heap.size := by
  unfold World.cell? at h
  split at h
  · rename_i e; exact (Array.getElem?_eq_some_iff.1 e).1
  · cases h

/-- Limbs that came in. -/
theorem open_limbs {H : Type} {enc : TypeId × Value → H} {W : World} {spare : Nat → Bool} {held : Bool} {v : Value} {m : Nat} {y : DataW H × List MemPlace}
    (hy1 : DataW.trod enc Tryz.prog W 0 spare held m 58 [v] = some y) : ∃ a xs c, v = .slice a (List.length xs) c ∧ xs.length ≤ 9223372036854775807 ∧ Ints W W.heap.size a xs := by
  rcases open_ints Tryz.underlying58 Tryz.underlying2 (by kernel_rfl) hy1 with ⟨hcs, _⟩ | ⟨x, l, c, zs, hcs, _, hl, hm, hz, _, hcell, hwz⟩
  · simp at hcs
    subst hcs
    exact ⟨none, [], 0, rfl, by simp, Ints.none⟩
  · simp at hcs
    subst hcs
    unfold maxLen at hm
    have hlz : l ≤ zs.length := by rw [hz]; split <;> omega
    refine ⟨some x, zs.take l, c, by rw [List.length_take, Nat.min_eq_left hlz], by rw [List.length_take]; omega, fun i hi => ?_⟩
    have hi' : i < l := by rw [List.length_take] at hi; omega
    obtain ⟨b, off, spot⟩ := x
    have hc0 := hcell 0 (by omega)
    have hspot : spot = none := by simpa [Addr.add] using World.cell?_spot hc0
    subst hspot
    have hadd : (⟨b, off, none⟩ : Addr).add i = ⟨b, off + i, none⟩ := by
      by_cases h0 : i = 0
      · subst h0; simp [Addr.add]
      · simp [Addr.add, h0]
    have hc := hcell i (by omega)
    rw [hadd] at hc
    refine ⟨b, off, rfl, block_lt hc, ?_⟩
    rw [hc, List.getElem_take, List.getD_eq_getElem?_getD, List.getElem?_eq_getElem (by omega)]
    rfl


open Go

theorem laid_data : (Rows.laid_math_bits_deBruijn64tab : DataW Unit) = Lib.tabData .u8 (Lib.deBruijn64tab.map fun (x : Nat) => (x : Int)) := by rfl
set_option maxRecDepth 100000 in
theorem tab_of_laid {W : World} (h : laidMetH Tryz.prog [("math/bits.deBruijn64tab", Rows.laid_math_bits_deBruijn64tab)] W) : Tab W := by
  rw [MakeChecks.laidMetH_plain _ _ _ (by kernel_rfl), laid_data] at h
  have hg : Tryz.prog.globalNamed "math/bits.deBruijn64tab" = some 1 := by kernel_rfl
  have ht := Lib.tabIs_of_head hg (by kernel_rfl) Tryz.underlying147 Tryz.underlying5 (by kernel_rfl) (by kernel_rfl) h
  intro j hj
  have hc := ht.cell hg j (by rw [List.length_map]; exact hj)
  rw [hc]
  congr 2
  have hj' : j < Lib.deBruijn64tab.length := hj
  simp [List.getD, List.getElem?_eq_getElem hj']
end Go.Proofs.YtgppagmejhgmaaaGreatDoor
