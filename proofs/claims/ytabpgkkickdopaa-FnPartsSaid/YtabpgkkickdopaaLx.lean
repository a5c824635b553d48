/-
  What the laws' walks keep in mind. No conditions.
-/
import Derived.Test.YtabpgkkickdopaaTf
import Derived.Deep.DeepCutAuto
namespace Go.Proofs.Ytabpgkkickdopaa
set_option linter.unusedVariables false
open Go Go.RowKit

theorem fitW_len (s : Int) (n : Nat) : (fitW s n).2.1.length ≤ 200 := by
  unfold fitW
  split
  · assumption
  · simp
theorem binR_len (f : Int → Int → Int) (s : Int) (xs : List Int) (t : Int) (ys : List Int) : (binR f s xs t ys).2.1.length ≤ 200 := by
  unfold binR
  split
  · exact fitW_len _ _
  · simp
/-- A slice of the call's own between two times. -/
def Own2 (w : World) (lo hi : Nat) (a : Option Addr) (xs : List Int) : Prop := xs = [] ∨ ∃ g, a = some ⟨g, 0, none⟩ ∧ lo ≤ g ∧ g < hi ∧ RowI w g xs
section
variable {w w' : World} {lo hi : Nat} {a : Option Addr} {xs : List Int}
theorem Own2.of (h : Own w lo a xs) : Own2 w lo w.heap.size a xs := by
  rcases h with h | ⟨g, e, hg, hr⟩
  · exact .inl h
  · exact .inr ⟨g, e, hg, hr.lt, hr⟩
theorem Own2.own (h : Own2 w lo hi a xs) : Own w lo a xs := by
  rcases h with h | ⟨g, e, hg, _, hr⟩
  · exact .inl h
  · exact .inr ⟨g, e, hg, hr⟩
theorem Own2.ints (h : Own2 w lo hi a xs) : Ints w hi a xs := by
  rcases h with rfl | ⟨g, rfl, _, hh, hr⟩
  · exact Ints.none
  · exact fun i hi' => ⟨g, 0, rfl, hh, by rw [Nat.zero_add]; exact hr.cell i hi'⟩
theorem Own2.below {B : Nat} (h : Own2 w lo hi a xs) (hb : Below B w w') (hB : hi ≤ B) : Own2 w' lo hi a xs := by
  rcases h with h | ⟨g, e, hg, hh, hr⟩
  · exact .inl h
  · exact .inr ⟨g, e, hg, hh, hr.below hb (by omega)⟩
theorem Own2.grown {row : Option Nat} (h : Own2 w lo hi a xs) (hg : w.grownBy w' row) (hr : ∀ g, row = some g → g < lo ∨ hi ≤ g) : Own2 w' lo hi a xs := by
  rcases h with h | ⟨g, e, hl, hh, hrow⟩
  · exact .inl h
  · exact .inr ⟨g, e, hl, hh, hrow.keep (hg.block g hrow.lt (fun e => by have := hr g e.symm; omega))⟩
theorem Own2.alloc (h : Own2 w lo hi a xs) (o : Obj) : Own2 (w.alloc o) lo hi a xs := by
  rcases h with h | ⟨g, e, hg, hh, hr⟩
  · exact .inl h
  · exact .inr ⟨g, e, hg, hh, hr.alloc o⟩
theorem Own2.row_ge {n : Nat} {row : Option Nat} (h : Own2 w lo hi a xs) (hn : n = xs.length) (hrow : ∀ g, row = some g → 0 < n ∧ a = some ⟨g, 0, none⟩) : ∀ g, row = some g → lo ≤ g ∧ g < hi := fun g hg => by
  obtain ⟨h1, h2⟩ := hrow g hg
  rcases h with rfl | ⟨g', e, hl, hh, _⟩
  · subst hn; simp at h1
  · rw [h2] at e; simp at e; subst e; exact ⟨hl, hh⟩
end
theorem BoxAt.belowB {w w' : World} {g : Nat} {t : TypeId} {cs : Array Value} {B : Nat} (h : BoxAt w g t cs) (hb : Below B w w') (hB : g < B) : BoxAt w' g t cs := (hb.block g hB).trans h
theorem below_of_grown {w w' : World} {row : Option Nat} {B : Nat} (hg : w.grownBy w' row) (hB : B ≤ w.heap.size) (hr : ∀ g, row = some g → B ≤ g) : Below B w w' := grown_below hg hB hr

theorem size_al (w : World) (o : Obj) : (w.alloc o).heap.size = w.heap.size + 1 := by simp
theorem BoxAt.newd (w : World) (t : TypeId) (cs : Array Value) : BoxAt (w.alloc (.cells cs t)).drew w.heap.size t cs := heap_alloc_new w _
theorem BoxAt.newe (w : World) (t : TypeId) (cs : Array Value) : BoxAt (w.drew.alloc (.cells cs t)) w.heap.size t cs := heap_alloc_new w _
theorem below_alloc {W0 W : World} (h : Below W0.heap.size W0 W) (o : Obj) : Below W0.heap.size W0 (W.alloc o) := h.alloc h.size o
theorem below_allocd {W0 W : World} (h : Below W0.heap.size W0 W) (o : Obj) : Below W0.heap.size W0 (W.alloc o).drew := (h.alloc h.size o).drew
theorem below_set2 {W0 W : World} {g : Nat} (h : Below W0.heap.size W0 W) (hg : W0.heap.size ≤ g) (u v : Value) : Below W0.heap.size W0 ((W.setCell ⟨g, 0, none⟩ u).setCell ⟨g, 1, none⟩ v) := (h.setCell hg u).setCell hg v
end Go.Proofs.Ytabpgkkickdopaa
