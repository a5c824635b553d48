/-
  Whole numbers and exact numbers that came in, as they read. Conditions: none. The listed table, as it reads. Conditions: none.
-/
import Derived.Test.YtiohacnkiikmcaaDoorRows
import Derived.Test.YtiohacnkiikmcaaDoorMh
import Derived.ProofKit
import Derived.OpenShut
import Derived.ShutString
import Derived.ChangeOld
import Derived.ChangeSame
import Derived.Below
import Derived.Lib.SmallJoins
import Derived.Test.YtiohacnkiikmcaaDoorRd
import Derived.Lib.LaidTab
import Derived.MakeChecks
namespace Go.Proofs.YtiohacnkiikmcaaDoor
open Go Go.RowKit

open Go.ChangeShapes Go.WideShapes Go.ChangeAt Go.RowKit Go.Joins
set_option linter.unusedVariables false

theorem cellsW : Tryd.prog.cellsOf 24 = 2 := by kernel_rfl

theorem block_lt {w : World} {p : Addr} {v : Value} (h : w.cell? p = some v) : p.block < w.heap.size := by
  unfold World.cell? at h
  split at h
  · rename_i e; exact (Array.getElem?_eq_some_iff.1 e).1
  · cases h

/-- Limbs that came in. -/
theorem open_limbs {H : Type} {enc : TypeId × Value → H} {W : World} {spare : Nat → Bool} {held : Bool} {v : Value} {m : Nat} {y : DataW H × List MemPlace}
    (hy1 : DataW.trod enc Tryd.prog W 0 spare held m 22 [v] = some y) : ∃ a xs c, v = .slice a (List.length xs) c ∧ xs.length ≤ 9223372036854775807 ∧ Ints W W.heap.size a xs := by
  rcases open_ints Tryd.underlying22 Tryd.underlying2 (by kernel_rfl) hy1 with ⟨hcs, _⟩ | ⟨x, l, c, zs, hcs, _, hl, hm, hz, _, hcell, hwz⟩
  · simp at hcs
    subst hcs
    exact ⟨none, [], 0, rfl, by simp, Ints.none⟩
  · simp at hcs
    subst hcs
    unfold maxLen at hm
    have hlz : l ≤ zs.length := by rw [hz]; split <;> omega
    refine ⟨some x, zs.take l, c, by rw [List.length_take, Nat.min_eq_left hlz], by rw [List.length_take]; omega, fun i hi => ?_⟩
    have hi' : i < l := by rw [List.length_take] at hi; omega
    obtain ⟨b, off, spot⟩ := x
    have hc0 := hcell 0 (by omega)
    have hspot : spot = none := by simpa [Addr.add] using World.cell?_spot hc0
    subst hspot
    have hadd : (⟨b, off, none⟩ : Addr).add i = ⟨b, off + i, none⟩ := by
      by_cases h0 : i = 0
      · subst h0; simp [Addr.add]
      · simp [Addr.add, h0]
    have hc := hcell i (by omega)
    rw [hadd] at hc
    refine ⟨b, off, rfl, block_lt hc, ?_⟩
    rw [hc, List.getElem_take, List.getD_eq_getElem?_getD, List.getElem?_eq_getElem (by omega)]
    rfl

set_option maxRecDepth 100000 in
/-- A whole number that came in: its sign, and its limbs as they read. -/
theorem open_whole {H : Type} {enc : TypeId × Value → H} {W : World} {spare : Nat → Bool} {held : Bool} {v : Value} {d : DataW H} {p : List MemPlace} {b0 : Nat} {r : Reach}
    (hv : Value.okWide Tryd.prog W r b0 24 v) (h : DataW.Trod enc Tryd.prog W 0 spare held 24 v d p) :
    ∃ s a xs c, v = .agg #[.int .i64 s, .slice a (List.length xs) c] ∧ xs.length ≤ 9223372036854775807 ∧ Ints W W.heap.size a xs := by
  obtain ⟨c0, c1, y0, y1, m, rfl, rfl, rfl, hy0, hy1⟩ := open_agg2 Tryd.underlying24 (by kernel_rfl) cellsW hv h
  obtain ⟨s, e0, _, ws⟩ := DataW.trod_int Tryd.underlying2 hy0
  simp at e0
  subst e0
  obtain ⟨a, xs, c, rfl, hl, hx⟩ := open_limbs hy1
  exact ⟨s, a, xs, c, rfl, hl, hx⟩
theorem cellsD : Tryd.prog.cellsOf 26 = 3 := by kernel_rfl
theorem cellsI : Tryd.prog.cellsOf 2 = 1 := by kernel_rfl
set_option maxRecDepth 100000 in
/-- An exact number that came in. -/
theorem open_dyadic {H : Type} {enc : TypeId × Value → H} {W : World} {spare : Nat → Bool} {held : Bool} {v : Value} {d : DataW H} {p : List MemPlace} {b0 : Nat} {r : Reach}
    (hv : Value.okWide Tryd.prog W r b0 26 v) (h : DataW.Trod enc Tryd.prog W 0 spare held 26 v d p) :
    ∃ s a xs c x, v = .agg #[.int .i64 s, .slice a (List.length xs) c, .int .i64 x] ∧ xs.length ≤ 9223372036854775807 ∧ Ints W W.heap.size a xs ∧ -9223372036854775808 ≤ x ∧ x ≤ 9223372036854775807 := by
  obtain ⟨cs, rfl, hsz⟩ := okWide_struct Tryd.underlying26 hv
  obtain ⟨c0, c1, c2, rfl⟩ := array3 (hsz.trans cellsD)
  obtain ⟨fuel, hf⟩ := h
  obtain ⟨y0, y1, n, hx, _, h0, h1⟩ := trod_struct2 Tryd.underlying26 hf
  have k0 : DataW.trod enc Tryd.prog W 0 spare held n 24 [c0, c1] = some y0 := by simpa [Value.cells, cellsW] using h0
  have k1 : DataW.trod enc Tryd.prog W 0 spare held n 2 [c2] = some y1 := by simpa [Value.cells, cellsI] using h1
  obtain ⟨x, e2, _, wx⟩ := DataW.trod_int Tryd.underlying2 k1
  simp at e2
  subst e2
  obtain ⟨z0, z1, n', _, _, g0, g1⟩ := trod_struct2 Tryd.underlying24 k0
  have l0 : DataW.trod enc Tryd.prog W 0 spare held n' 2 [c0] = some z0 := by simpa [cellsI] using g0
  have l1 : DataW.trod enc Tryd.prog W 0 spare held n' 22 [c1] = some z1 := by simpa [show Tryd.prog.cellsOf 22 = 1 by kernel_rfl] using g1
  obtain ⟨s, e0, _, ws⟩ := DataW.trod_int Tryd.underlying2 l0
  simp at e0
  subst e0
  obtain ⟨a, xs, c, rfl, hl, hx⟩ := open_limbs l1
  have b : -9223372036854775808 ≤ x ∧ x ≤ 9223372036854775807 := by simp [Lit.wf, IntKind.min, IntKind.max, IntKind.bits, IntKind.signed] at wx; omega
  exact ⟨s, a, xs, c, x, rfl, hl, hx, b.1, b.2⟩

open Go

theorem laid_data : (Rows.laid_math_bits_deBruijn64tab : DataW Unit) = Lib.tabData .u8 (Lib.deBruijn64tab.map fun (x : Nat) => (x : Int)) := by rfl
set_option maxRecDepth 100000 in
theorem tab_of_laid {W : World} (h : laidMetH Tryd.prog [("math/bits.deBruijn64tab", Rows.laid_math_bits_deBruijn64tab)] W) : Tab W := by
  rw [MakeChecks.laidMetH_plain _ _ _ (by kernel_rfl), laid_data] at h
  have hg : Tryd.prog.globalNamed "math/bits.deBruijn64tab" = some 0 := by kernel_rfl
  have ht := Lib.tabIs_of_head hg (by kernel_rfl) Tryd.underlying98 Tryd.underlying5 (by kernel_rfl) (by kernel_rfl) h
  intro j hj
  have hc := ht.cell hg j (by rw [List.length_map]; exact hj)
  rw [hc]
  congr 2
  have hj' : j < Lib.deBruijn64tab.length := hj
  simp [List.getD, List.getElem?_eq_getElem hj']
end Go.Proofs.YtiohacnkiikmcaaDoor
