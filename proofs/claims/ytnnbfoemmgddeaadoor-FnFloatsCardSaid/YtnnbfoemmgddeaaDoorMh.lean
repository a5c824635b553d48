/-
  Contracts of the laws' own helpers over whole numbers: count, copy, compare, mark, look. Conditions: the limbs can be read.
-/
import Derived.Test.YtnnbfoemmgddeaaDoorMg
namespace Go.Proofs.YtnnbfoemmgddeaaDoor
set_option linter.unusedVariables false
open Go Go.RowKit
/-- The marks that a law writes: m, m + 1, .. -/
def marks (m : Int) (n : Nat) : List Int := (List.range n).map (fun (i : Nat) => m + (i : Int))
theorem marks_length (m : Int) (n : Nat) : (marks m n).length = n := by simp [marks]
theorem marks_at (m : Int) (n i : Nat) (h : i < (marks m n).length) : (marks m n)[i] = m + i := by simp [marks]
/-- The first k are marked, the others as they were. -/
def markt (m : Int) (xs : List Int) (k : Nat) : List Int := marks m k ++ xs.drop k
theorem markt_length (m : Int) (xs : List Int) (k : Nat) (h : k ≤ xs.length) : (markt m xs k).length = xs.length := by simp [markt, marks_length]; omega
theorem markt_set (m : Int) (xs : List Int) (k : Nat) (h : k < xs.length) : (markt m xs k).set k (m + k) = markt m xs (k + 1) := by
  unfold markt
  apply List.ext_getElem
  · simp [marks_length]; omega
  · intro i h1 h2
    have hl : i < xs.length := by simp [marks_length] at h2; omega
    rw [List.getElem_set]
    split
    · rename_i e
      subst e
      rw [List.getElem_append_left (by rw [marks_length]; omega), marks_at]
    · by_cases hik : i < k
      · rw [List.getElem_append_left (by rw [marks_length]; omega), List.getElem_append_left (by rw [marks_length]; omega), marks_at, marks_at]
      · rw [List.getElem_append_right (by rw [marks_length]; omega), List.getElem_append_right (by rw [marks_length]; omega)]
        simp only [List.getElem_drop, marks_length]
        congr 1
        omega

/-- The slice's cells are written, nothing else. -/
def RetM (m : Int) (n : Nat) (a : Option Addr) (lo : Nat) (w : World) (e : Ending) (w' : World) : Prop :=
  e = .returned (.int .i64 (m + n)) ∧ Own w' lo a (marks m n) ∧ ∃ row, w.grownBy w' row ∧ ∀ g, row = some g → 0 < n ∧ a = some ⟨g, 0, none⟩

/-- The call returned a whole number in new memory. -/
def RetW (s : Int) (xs : List Int) (w : World) (e : Ending) (w' : World) : Prop := ∃ a c, e = .returned (.agg #[.int .i64 s, .slice a xs.length c]) ∧ xs.length ≤ c ∧ Own w' w.heap.size a xs ∧ Below w.heap.size w w'

/-- A variable's block. -/
def BoxAt (w : World) (g : Nat) (t : TypeId) (cs : Array Value) : Prop := w.heap[g]? = some (.cells cs t (0, 0))
section
variable {w w' : World} {g : Nat} {t : TypeId} {cs : Array Value}
theorem BoxAt.lt (h : BoxAt w g t cs) : g < w.heap.size := (Array.getElem?_eq_some_iff.1 h).1
theorem BoxAt.cell (h : BoxAt w g t cs) (i : Nat) : w.cell? ⟨g, i, none⟩ = cs[i]? := cell_of_row w g i cs t (0, 0) h
theorem BoxAt.frozen (h : BoxAt w g t cs) (i : Nat) : w.frozen? ⟨g, i, none⟩ = false := frozen_of_row w g i cs t h
theorem BoxAt.new (w : World) (t : TypeId) (cs : Array Value) : BoxAt (w.alloc (.cells cs t)) w.heap.size t cs := heap_alloc_new w _
theorem BoxAt.alloc (h : BoxAt w g t cs) (o : Obj) : BoxAt (w.alloc o) g t cs := (Below.heap_alloc w o g h.lt).trans h
theorem BoxAt.below (h : BoxAt w g t cs) (hb : Below w.heap.size w w') : BoxAt w' g t cs := (hb.block g h.lt).trans h
theorem BoxAt.drewN (h : BoxAt w g t cs) (n : Nat) : BoxAt (w.drewN n) g t cs := h
theorem BoxAt.far (h : BoxAt w g t cs) {p : Addr} (hp : g ≠ p.block) (u : Value) : BoxAt (w.setCell p u) g t cs := (Below.heap_setCell w p u g hp).trans h
theorem BoxAt.grown {row : Option Nat} (h : BoxAt w g t cs) (hg : w.grownBy w' row) (hne : some g ≠ row) : BoxAt w' g t cs := (hg.block g h.lt hne).trans h
theorem BoxAt.set_ (h : BoxAt w g t cs) (i : Nat) (u : Value) : BoxAt (w.setCell ⟨g, i, none⟩ u) g t (cs.setIfInBounds i u) := by
  unfold BoxAt at h ⊢
  simp [World.setCell, Array.getElem?_modify, h]
theorem BoxAt.two {v0 v1 : Value} (h : BoxAt w g t #[v0, v1]) : w.cell? ⟨g, 0, none⟩ = some v0 ∧ w.cell? ⟨g, 1, none⟩ = some v1 ∧ w.frozen? ⟨g, 0, none⟩ = false ∧ w.frozen? ⟨g, 1, none⟩ = false :=
  ⟨h.cell 0, h.cell 1, h.frozen 0, h.frozen 1⟩
end
/-- What a law asks. -/
def LawDone (w : World) (e : Ending) (w' : World) : Prop := e = .returned (.bool true) ∧ Below w.heap.size w w'
end Go.Proofs.YtnnbfoemmgddeaaDoor
