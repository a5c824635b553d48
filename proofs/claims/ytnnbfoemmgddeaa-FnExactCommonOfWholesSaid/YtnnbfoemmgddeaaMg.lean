/-
  Rows of numbers of the call's own. No conditions.
-/
import Derived.Test.YtnnbfoemmgddeaaMf
import Derived.Deep.RegionHeld3
namespace Go.Proofs.Ytnnbfoemmgddeaa
set_option linter.unusedVariables false
open Go Go.RowKit

/-- Block g is a row of integers that begins with xs. -/
def RowI (w : World) (g : Nat) (xs : List Int) : Prop :=
  ∃ cur : Array Value, w.heap[g]? = some (.cells cur 2 (0, 0)) ∧ ∀ (i : Nat) (h : i < xs.length), cur[i]? = some (.int .i64 xs[i])
section
variable {w w' : World} {g lo : Nat} {xs : List Int} {a : Option Addr}
theorem RowI.lt (h : RowI w g xs) : g < w.heap.size := by
  obtain ⟨cur, hg, _⟩ := h
  exact (Array.getElem?_eq_some_iff.1 hg).1
theorem RowI.cell (h : RowI w g xs) (i : Nat) (hi : i < xs.length) : w.cell? ⟨g, i, none⟩ = some (.int .i64 xs[i]) := by
  obtain ⟨cur, hg, hc⟩ := h
  rw [World.cell?]
  simp only [hg]
  exact hc i hi
theorem RowI.frozen (h : RowI w g xs) (i : Nat) : w.frozen? ⟨g, i, none⟩ = false := by
  obtain ⟨cur, hg, hc⟩ := h
  simp [World.frozen?, hg]
theorem RowI.keep (h : RowI w g xs) (e : w'.heap[g]? = w.heap[g]?) : RowI w' g xs := by
  obtain ⟨cur, hg, hc⟩ := h
  exact ⟨cur, e.trans hg, hc⟩
theorem RowI.drewN (h : RowI w g xs) (n : Nat) : RowI (w.drewN n) g xs := h
theorem RowI.drew (h : RowI w g xs) : RowI w.drew g xs := h
theorem RowI.alloc (h : RowI w g xs) (o : Obj) : RowI (w.alloc o) g xs := h.keep (Below.heap_alloc w o g h.lt)
theorem RowI.far (h : RowI w g xs) {p : Addr} (hp : g ≠ p.block) (u : Value) : RowI (w.setCell p u) g xs := h.keep (Below.heap_setCell w p u g hp)
theorem RowI.below {B : Nat} (h : RowI w g xs) (hb : Below B w w') (hg : g < B) : RowI w' g xs := h.keep (hb.block g hg)
theorem RowI.set_ (h : RowI w g xs) (i : Nat) (hi : i < xs.length) (x : Int) : RowI (w.setCell ⟨g, i, none⟩ (.int .i64 x)) g (xs.set i x) := by
  obtain ⟨cur, hg, hc⟩ := h
  refine ⟨cur.setIfInBounds i (.int .i64 x), by simp [World.setCell, Array.getElem?_modify, hg], fun j hj => ?_⟩
  have hj' : j < xs.length := by simpa using hj
  have hs := (Array.getElem?_eq_some_iff.1 (hc i hi)).1
  rw [Array.getElem?_setIfInBounds, List.getElem_set]
  split
  · rename_i e; simp [hs]
  · exact hc j hj'
theorem RowI.take (h : RowI w g xs) (n : Nat) : RowI w g (xs.take n) := by
  obtain ⟨cur, hg, hc⟩ := h
  refine ⟨cur, hg, fun i hi => ?_⟩
  rw [List.getElem_take]
  exact hc i (by rw [List.length_take] at hi; omega)
theorem RowI.ints (h : RowI w g xs) : Ints w w.heap.size (some ⟨g, 0, none⟩) xs := fun i hi => ⟨g, 0, rfl, h.lt, by rw [Nat.zero_add]; exact h.cell i hi⟩
theorem RowI.made (w : World) (n : Nat) : RowI (w.alloc (.cells (madeCells #[.int .i64 0] n) 2)) w.heap.size (List.replicate n 0) := by
  refine ⟨_, heap_alloc_new w _, fun i hi => ?_⟩
  have hi' : i < n := by simpa using hi
  simp [madeCells, hi', Nat.mod_one]

/-- A slice of the call's own: empty, or at the head of a row from block lo on. -/
def Own (w : World) (lo : Nat) (a : Option Addr) (xs : List Int) : Prop := xs = [] ∨ ∃ g, a = some ⟨g, 0, none⟩ ∧ lo ≤ g ∧ RowI w g xs
theorem Own.ints (h : Own w lo a xs) : Ints w w.heap.size a xs := by
  rcases h with rfl | ⟨g, rfl, _, hr⟩
  · exact Ints.none
  · exact hr.ints
theorem Own.row (hr : RowI w g xs) (hg : lo ≤ g) : Own w lo (some ⟨g, 0, none⟩) xs := .inr ⟨g, rfl, hg, hr⟩
theorem Own.nil : Own w lo a [] := .inl rfl
theorem Own.mono {lo' : Nat} (h : Own w lo a xs) (hl : lo' ≤ lo) : Own w lo' a xs := by
  rcases h with h | ⟨g, e, hg, hr⟩
  · exact .inl h
  · exact .inr ⟨g, e, by omega, hr⟩
theorem Own.keep (h : Own w lo a xs) (hk : ∀ b, lo ≤ b → b < w.heap.size → w'.heap[b]? = w.heap[b]?) : Own w' lo a xs := by
  rcases h with h | ⟨g, e, hg, hr⟩
  · exact .inl h
  · exact .inr ⟨g, e, hg, hr.keep (hk g hg hr.lt)⟩
theorem Own.below (h : Own w lo a xs) (hb : Below w.heap.size w w') : Own w' lo a xs := h.keep fun b _ hlt => hb.block b hlt
theorem Own.drewN (h : Own w lo a xs) (n : Nat) : Own (w.drewN n) lo a xs := h
theorem Own.alloc (h : Own w lo a xs) (o : Obj) : Own (w.alloc o) lo a xs := h.keep fun b _ hlt => Below.heap_alloc w o b hlt
theorem Own.setFar (h : Own w lo a xs) {p : Addr} (hp : p.block < lo) (u : Value) : Own (w.setCell p u) lo a xs := h.keep fun b hb _ => Below.heap_setCell w p u b (by omega)
theorem Ints.setFar {B : Nat} (h : Ints w B a xs) {p : Addr} (hp : B ≤ p.block) (u : Value) : Ints (w.setCell p u) B a xs := h.below ((Below.refl _ _).setCell hp u)
theorem Own.take (h : Own w lo a xs) (n : Nat) : Own w lo a (xs.take n) := by
  rcases h with rfl | ⟨g, e, hg, hr⟩
  · left; simp
  · exact .inr ⟨g, e, hg, hr.take n⟩
end

/-- The call returned new numbers; nothing that was there has turned. -/
def RetL (xs : List Int) (w : World) (e : Ending) (w' : World) : Prop := ∃ a c, e = .returned (.slice a xs.length c) ∧ xs.length ≤ c ∧ Own w' w.heap.size a xs ∧ Below w.heap.size w w'
theorem info_i64 : (Try.prog.info? 2).map (fun i => (i.zero, i.size, i.bytes)) = some (some (.int .i64 0), 1, 8) := by kernel_rfl
theorem mk_ints (n : Nat) (h : 8 * n ≤ 281474976710656) : ∀ w, (Instr.makeSlice 54 (.int .i64 (n : Int)) (.int .i64 (n : Int))).run Try.prog w = .ok (.slice (some ⟨w.heap.size, 0, none⟩) n n) (w.alloc (.cells (madeCells #[.int .i64 0] n) 2)) := fun w =>
  run_make_row' 54 2 (.int .i64 0) 8 Try.underlying54 info_i64 rfl .i64 .i64 n h (by omega) w

/-- What a copy under way holds: the first k numbers, behind them zeros. -/
def part (xs : List Int) (k : Nat) : List Int := xs.take k ++ List.replicate (xs.length - k) 0
theorem part_length (xs : List Int) (k : Nat) (hk : k ≤ xs.length) : (part xs k).length = xs.length := by unfold part; simp; omega
theorem part_zero (xs : List Int) : part xs 0 = List.replicate xs.length 0 := by unfold part; simp
theorem part_all (xs : List Int) : part xs xs.length = xs := by unfold part; simp
theorem part_set (xs : List Int) (k : Nat) (hk : k < xs.length) : (part xs k).set k xs[k] = part xs (k + 1) := by
  unfold part
  apply List.ext_getElem
  · simp; omega
  · intro i h1 h2
    rw [List.getElem_set]
    split
    · rename_i e
      subst e
      rw [List.getElem_append_left (by simp; omega)]
      simp
    · rename_i e
      by_cases hik : i < k
      · rw [List.getElem_append_left (by simp; omega), List.getElem_append_left (by simp; omega)]
        simp
      · rw [List.getElem_append_right (by simp; omega), List.getElem_append_right (by simp; omega)]
        simp

theorem grown_set {w w' : World} {g : Nat} (h : w.grownBy w' (some g)) (i : Nat) (u : Value) : w.grownBy (w'.setCell ⟨g, i, none⟩ u) (some g) :=
  ⟨h.os, h.tape, h.output, by simpa [World.setCell] using h.size, fun j hj hne => (Below.heap_setCell w' ⟨g, i, none⟩ u j (fun e => hne (by rw [e]))).trans (h.block j hj hne)⟩
theorem grown_below {w w' : World} {row : Option Nat} (h : w.grownBy w' row) {B : Nat} (hB : B ≤ w.heap.size) (hr : ∀ g, row = some g → B ≤ g) : Below B w w' := (Below.refl B w).grown h hB hr
theorem grown_of_below {w w' : World} (h : Below w.heap.size w w') (row : Option Nat) : w.grownBy w' row := ⟨h.os, h.tape, h.output, h.size, fun i hi _ => h.block i hi⟩
theorem grown_drewN {w w' : World} {row : Option Nat} (h : w.grownBy w' row) (n : Nat) : w.grownBy (w'.drewN n) row := ⟨h.os, h.tape, h.output, h.size, h.block⟩
theorem Ints.grown {w w' : World} {B : Nat} {a : Option Addr} {xs : List Int} {row : Option Nat} (h : Ints w B a xs) (hg : w.grownBy w' row) (hB : B ≤ w.heap.size) (hr : ∀ g, row = some g → B ≤ g) : Ints w' B a xs := h.below (grown_below hg hB hr)
theorem Own.grown {w w' : World} {lo : Nat} {a : Option Addr} {xs : List Int} {row : Option Nat} (h : Own w lo a xs) (hg : w.grownBy w' row) (hr : ∀ g, row = some g → g < lo) : Own w' lo a xs :=
  h.keep fun b hb hlt => hg.block b hlt (fun e => by have := hr b e.symm; omega)
end Go.Proofs.Ytnnbfoemmgddeaa
