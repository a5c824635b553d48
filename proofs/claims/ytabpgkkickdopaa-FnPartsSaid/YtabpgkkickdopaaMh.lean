/-
  Lists of numbers in memory, and what stays of them while new blocks are made. No conditions. Contracts: tests of whole numbers by the model, lists and whole numbers compared, copied and counted by the laws. Conditions: the limbs can be read. Rows of numbers of the call's own. No conditions. Contracts of the laws' own helpers over whole numbers: count, copy, compare, mark, look. Conditions: the limbs can be read.
-/
import Derived.Test.YtabpgkkickdopaaChecked
import Derived.Test.YtabpgkkickdopaaRe
import Derived.WalkKit
import Derived.WalkSpells
import Derived.WalkLawsBesides
import Derived.Deep.QuietTactic
import Derived.BigQuiet
import Derived.Lib.Hide
import Derived.Below
import Derived.LoopTactic
import Derived.OwnWalk
import Derived.Deep.OwnRows
import Derived.RegionTactic
import Derived.ChangeAlike
import Derived.BigRegion
import Derived.Lib.SmallJoins
import Derived.Deep.RegionHeld3
namespace Go.Proofs.Ytabpgkkickdopaa
set_option linter.unusedVariables false
open Go Go.RowKit

/-- Numbers that can be read from an address on, in a block below B. -/
def Ints (w : World) (B : Nat) (a : Option Addr) (xs : List Int) : Prop :=
  ∀ (i : Nat) (h : i < xs.length), ∃ c o, a = some ⟨c, o, none⟩ ∧ c < B ∧ w.cell? ⟨c, o + i, none⟩ = some (.int .i64 xs[i])
section
variable {w w' : World} {B B' : Nat} {a : Option Addr} {xs : List Int}
theorem Ints.keep (h : Ints w B a xs) (hk : ∀ b o, b < B → w'.cell? ⟨b, o, none⟩ = w.cell? ⟨b, o, none⟩) : Ints w' B a xs := fun i hi => by
  obtain ⟨c, o, e, hc, hx⟩ := h i hi
  exact ⟨c, o, e, hc, by rw [hk _ _ hc]; exact hx⟩
theorem Ints.below (h : Ints w B a xs) (hb : Below B w w') : Ints w' B a xs := h.keep fun b o hb' => hb.cell (p := ⟨b, o, none⟩) hb'
theorem Ints.more (h : Ints w B a xs) (hB : B ≤ B') : Ints w B' a xs := fun i hi => by
  obtain ⟨c, o, e, hc, hx⟩ := h i hi
  exact ⟨c, o, e, by omega, hx⟩
theorem Ints.drewN (h : Ints w B a xs) (n : Nat) : Ints (w.drewN n) B a xs := h
theorem Ints.drew (h : Ints w B a xs) : Ints w.drew B a xs := h
theorem Ints.alloc (h : Ints w B a xs) (hB : B ≤ w.heap.size) (o : Obj) : Ints (w.alloc o) B a xs := h.keep fun b o' hb => World.cell?_alloc_lt w o ⟨b, o', none⟩ (by show b < _; omega)
theorem Ints.none : Ints w B a [] := fun i hi => absurd hi (Nat.not_lt_zero i)
end

/-- Whether a sign and limbs are a whole number. -/
def IsWh (s : Int) (xs : List Int) : Prop :=
  (xs.length = 0 ∧ s = 0) ∨ (xs.length ≤ 200 ∧ (∃ h : 0 < xs.length, xs[xs.length - 1] ≠ 0) ∧ (∀ (i : Nat) (h : i < xs.length), 0 ≤ xs[i] ∧ xs[i] < 16777216) ∧ (s = 1 ∨ s = -1))
noncomputable def whB (s : Int) (xs : List Int) : Bool := @decide (IsWh s xs) (Classical.propDecidable _)
theorem whB_yes {s : Int} {xs : List Int} (h : IsWh s xs) : whB s xs = true := by unfold whB; exact @decide_eq_true _ (Classical.propDecidable _) h
theorem whB_no {s : Int} {xs : List Int} (h : ¬ IsWh s xs) : whB s xs = false := by unfold whB; exact @decide_eq_false _ (Classical.propDecidable _) h
theorem whB_iff {s : Int} {xs : List Int} : whB s xs = true ↔ IsWh s xs := by unfold whB; exact @decide_eq_true_iff _ (Classical.propDecidable _)

/-- The call returned v, and nothing that was there has turned. -/
def RetB (v : Value) (w : World) (e : Ending) (w' : World) : Prop := e = .returned v ∧ Below w.heap.size w w'
theorem RetB.mk {v : Value} {w w' : World} (h : Below w.heap.size w w') : RetB v w (.returned v) w' := ⟨rfl, h⟩
/-- What a world that has grown reads. -/
theorem bcell {W w1 : World} (hb : Below W.heap.size W w1) : (∀ b o, b < W.heap.size → w1.cell? ⟨b, o, none⟩ = W.cell? ⟨b, o, none⟩) ∧ (∀ b o, b < W.heap.size → w1.frozen? ⟨b, o, none⟩ = W.frozen? ⟨b, o, none⟩) :=
  ⟨fun b o h => hb.cell (p := ⟨b, o, none⟩) h, fun b o h => hb.frozen (p := ⟨b, o, none⟩) h⟩
theorem below_drewN {B : Nat} {a w : World} (h : Below B a w) (n : Nat) : Below B a (w.drewN n) := ⟨h.os, h.tape, h.output, h.size, h.block⟩

set_option maxHeartbeats 400000 in
theorem in_yes (x lo hi : Int) (w : World) (h1 : lo ≤ x) (h2 : x ≤ hi) : Calls Try.prog 78 #[.int .i64 x, .int .i64 lo, .int .i64 hi] w fun e w' => e = .returned (.bool true) ∧ w = w' := by
  go_enter Try.func78, Try.ntmps78
  go_wp2
  go_ret
  exact ⟨rfl, rfl⟩
set_option maxHeartbeats 400000 in
theorem in_no (x lo hi : Int) (w : World) (h1 : x < lo ∨ hi < x) : Calls Try.prog 78 #[.int .i64 x, .int .i64 lo, .int .i64 hi] w fun e w' => e = .returned (.bool false) ∧ w = w' := by
  by_cases h : lo ≤ x
  · have h2 : ¬ x ≤ hi := by omega
    have h3 : decide (x ≤ hi) = false := decide_eq_false h2
    clear h1
    go_enter Try.func78, Try.ntmps78
    go_wp2
    go_ret
    exact ⟨rfl, rfl⟩
  · have h3 : decide (lo ≤ x) = false := decide_eq_false h
    clear h1
    go_enter Try.func78, Try.ntmps78
    go_wp2
    go_ret
    exact ⟨rfl, rfl⟩

/-- Some draws, and v. -/
def RetQ (v : Value) (w : World) (e : Ending) (w' : World) : Prop := ∃ n : Nat, e = .returned v ∧ w' = w.drewN n
noncomputable def sameB (xs ys : List Int) : Bool := @decide (xs = ys) (Classical.propDecidable _)
theorem sameB_yes {xs ys : List Int} (h : xs = ys) : sameB xs ys = true := by unfold sameB; exact @decide_eq_true _ (Classical.propDecidable _) h
theorem sameB_no {xs ys : List Int} (h : xs ≠ ys) : sameB xs ys = false := by unfold sameB; exact @decide_eq_false _ (Classical.propDecidable _) h

/-- Block g is a row of integers that begins with xs. -/
def RowI (w : World) (g : Nat) (xs : List Int) : Prop :=
  ∃ cur : Array Value, w.heap[g]? = some (.cells cur 2 (0, 0)) ∧ ∀ (i : Nat) (h : i < xs.length), cur[i]? = some (.int .i64 xs[i])
section
variable {w w' : World} {g lo : Nat} {xs : List Int} {a : Option Addr}
theorem RowI.lt (h : RowI w g xs) : g < w.heap.size := by
  obtain ⟨cur, hg, _⟩ := h
  exact (Array.getElem?_eq_some_iff.1 hg).1
theorem RowI.cell (h : RowI w g xs) (i : Nat) (hi : i < xs.length) : w.cell? ⟨g, i, none⟩ = some (.int .i64 xs[i]) := by
  obtain ⟨cur, hg, hc⟩ := h
  rw [World.cell?]
  simp only [hg]
  exact hc i hi
theorem RowI.frozen (h : RowI w g xs) (i : Nat) : w.frozen? ⟨g, i, none⟩ = false := by
  obtain ⟨cur, hg, hc⟩ := h
  simp [World.frozen?, hg]
theorem RowI.keep (h : RowI w g xs) (e : w'.heap[g]? = w.heap[g]?) : RowI w' g xs := by
  obtain ⟨cur, hg, hc⟩ := h
  exact ⟨cur, e.trans hg, hc⟩
theorem RowI.drewN (h : RowI w g xs) (n : Nat) : RowI (w.drewN n) g xs := h
theorem RowI.drew (h : RowI w g xs) : RowI w.drew g xs := h
theorem RowI.alloc (h : RowI w g xs) (o : Obj) : RowI (w.alloc o) g xs := h.keep (Below.heap_alloc w o g h.lt)
theorem RowI.far (h : RowI w g xs) {p : Addr} (hp : g ≠ p.block) (u : Value) : RowI (w.setCell p u) g xs := h.keep (Below.heap_setCell w p u g hp)
theorem RowI.below {B : Nat} (h : RowI w g xs) (hb : Below B w w') (hg : g < B) : RowI w' g xs := h.keep (hb.block g hg)
theorem RowI.set_ (h : RowI w g xs) (i : Nat) (hi : i < xs.length) (x : Int) : RowI (w.setCell ⟨g, i, none⟩ (.int .i64 x)) g (xs.set i x) := by
  obtain ⟨cur, hg, hc⟩ := h
  refine ⟨cur.setIfInBounds i (.int .i64 x), by simp [World.setCell, Array.getElem?_modify, hg], fun j hj => ?_⟩
  have hj' : j < xs.length := by simpa using hj
  have hs := (Array.getElem?_eq_some_iff.1 (hc i hi)).1
  rw [Array.getElem?_setIfInBounds, List.getElem_set]
  split
  · rename_i e; simp [hs]
  · exact hc j hj'
theorem RowI.take (h : RowI w g xs) (n : Nat) : RowI w g (xs.take n) := by
  obtain ⟨cur, hg, hc⟩ := h
  refine ⟨cur, hg, fun i hi => ?_⟩
  rw [List.getElem_take]
  exact hc i (by rw [List.length_take] at hi; omega)
theorem RowI.ints (h : RowI w g xs) : Ints w w.heap.size (some ⟨g, 0, none⟩) xs := fun i hi => ⟨g, 0, rfl, h.lt, by rw [Nat.zero_add]; exact h.cell i hi⟩
theorem RowI.made (w : World) (n : Nat) : RowI (w.alloc (.cells (madeCells #[.int .i64 0] n) 2)) w.heap.size (List.replicate n 0) := by
  refine ⟨_, heap_alloc_new w _, fun i hi => ?_⟩
  have hi' : i < n := by simpa using hi
  simp [madeCells, hi', Nat.mod_one]

/-- A slice of the call's own: empty, or at the head of a row from block lo on. -/
def Own (w : World) (lo : Nat) (a : Option Addr) (xs : List Int) : Prop := xs = [] ∨ ∃ g, a = some ⟨g, 0, none⟩ ∧ lo ≤ g ∧ RowI w g xs
theorem Own.ints (h : Own w lo a xs) : Ints w w.heap.size a xs := by
  rcases h with rfl | ⟨g, rfl, _, hr⟩
  · exact Ints.none
  · exact hr.ints
theorem Own.row (hr : RowI w g xs) (hg : lo ≤ g) : Own w lo (some ⟨g, 0, none⟩) xs := .inr ⟨g, rfl, hg, hr⟩
theorem Own.nil : Own w lo a [] := .inl rfl
theorem Own.mono {lo' : Nat} (h : Own w lo a xs) (hl : lo' ≤ lo) : Own w lo' a xs := by
  rcases h with h | ⟨g, e, hg, hr⟩
  · exact .inl h
  · exact .inr ⟨g, e, by omega, hr⟩
theorem Own.keep (h : Own w lo a xs) (hk : ∀ b, lo ≤ b → b < w.heap.size → w'.heap[b]? = w.heap[b]?) : Own w' lo a xs := by
  rcases h with h | ⟨g, e, hg, hr⟩
  · exact .inl h
  · exact .inr ⟨g, e, hg, hr.keep (hk g hg hr.lt)⟩
theorem Own.below (h : Own w lo a xs) (hb : Below w.heap.size w w') : Own w' lo a xs := h.keep fun b _ hlt => hb.block b hlt
theorem Own.drewN (h : Own w lo a xs) (n : Nat) : Own (w.drewN n) lo a xs := h
theorem Own.alloc (h : Own w lo a xs) (o : Obj) : Own (w.alloc o) lo a xs := h.keep fun b _ hlt => Below.heap_alloc w o b hlt
theorem Own.setFar (h : Own w lo a xs) {p : Addr} (hp : p.block < lo) (u : Value) : Own (w.setCell p u) lo a xs := h.keep fun b hb _ => Below.heap_setCell w p u b (by omega)
theorem Ints.setFar {B : Nat} (h : Ints w B a xs) {p : Addr} (hp : B ≤ p.block) (u : Value) : Ints (w.setCell p u) B a xs := h.below ((Below.refl _ _).setCell hp u)
theorem Own.take (h : Own w lo a xs) (n : Nat) : Own w lo a (xs.take n) := by
  rcases h with rfl | ⟨g, e, hg, hr⟩
  · left; simp
  · exact .inr ⟨g, e, hg, hr.take n⟩
end

/-- The call returned new numbers; nothing that was there has turned. -/
def RetL (xs : List Int) (w : World) (e : Ending) (w' : World) : Prop := ∃ a c, e = .returned (.slice a xs.length c) ∧ xs.length ≤ c ∧ Own w' w.heap.size a xs ∧ Below w.heap.size w w'
theorem info_i64 : (Try.prog.info? 2).map (fun i => (i.zero, i.size, i.bytes)) = some (some (.int .i64 0), 1, 8) := by kernel_rfl
theorem mk_ints (n : Nat) (h : 8 * n ≤ 281474976710656) : ∀ w, (Instr.makeSlice 97 (.int .i64 (n : Int)) (.int .i64 (n : Int))).run Try.prog w = .ok (.slice (some ⟨w.heap.size, 0, none⟩) n n) (w.alloc (.cells (madeCells #[.int .i64 0] n) 2)) := fun w =>
  run_make_row' 97 2 (.int .i64 0) 8 Try.underlying97 info_i64 rfl .i64 .i64 n h (by omega) w

/-- What a copy under way holds: the first k numbers, behind them zeros. -/
def part (xs : List Int) (k : Nat) : List Int := xs.take k ++ List.replicate (xs.length - k) 0
theorem part_length (xs : List Int) (k : Nat) (hk : k ≤ xs.length) : (part xs k).length = xs.length := by unfold part; simp; omega
theorem part_zero (xs : List Int) : part xs 0 = List.replicate xs.length 0 := by unfold part; simp
theorem part_all (xs : List Int) : part xs xs.length = xs := by unfold part; simp
theorem part_set (xs : List Int) (k : Nat) (hk : k < xs.length) : (part xs k).set k xs[k] = part xs (k + 1) := by
  unfold part
  apply List.ext_getElem
  · simp; omega
  · intro i h1 h2
    rw [List.getElem_set]
    split
    · rename_i e
      subst e
      rw [List.getElem_append_left (by simp; omega)]
      simp
    · rename_i e
      by_cases hik : i < k
      · rw [List.getElem_append_left (by simp; omega), List.getElem_append_left (by simp; omega)]
        simp
      · rw [List.getElem_append_right (by simp; omega), List.getElem_append_right (by simp; omega)]
        simp

theorem grown_set {w w' : World} {g : Nat} (h : w.grownBy w' (some g)) (i : Nat) (u : Value) : w.grownBy (w'.setCell ⟨g, i, none⟩ u) (some g) :=
  ⟨h.os, h.tape, h.output, by simpa [World.setCell] using h.size, fun j hj hne => (Below.heap_setCell w' ⟨g, i, none⟩ u j (fun e => hne (by rw [e]))).trans (h.block j hj hne)⟩
theorem grown_below {w w' : World} {row : Option Nat} (h : w.grownBy w' row) {B : Nat} (hB : B ≤ w.heap.size) (hr : ∀ g, row = some g → B ≤ g) : Below B w w' := (Below.refl B w).grown h hB hr
theorem grown_of_below {w w' : World} (h : Below w.heap.size w w') (row : Option Nat) : w.grownBy w' row := ⟨h.os, h.tape, h.output, h.size, fun i hi _ => h.block i hi⟩
theorem grown_drewN {w w' : World} {row : Option Nat} (h : w.grownBy w' row) (n : Nat) : w.grownBy (w'.drewN n) row := ⟨h.os, h.tape, h.output, h.size, h.block⟩
theorem Ints.grown {w w' : World} {B : Nat} {a : Option Addr} {xs : List Int} {row : Option Nat} (h : Ints w B a xs) (hg : w.grownBy w' row) (hB : B ≤ w.heap.size) (hr : ∀ g, row = some g → B ≤ g) : Ints w' B a xs := h.below (grown_below hg hB hr)
theorem Own.grown {w w' : World} {lo : Nat} {a : Option Addr} {xs : List Int} {row : Option Nat} (h : Own w lo a xs) (hg : w.grownBy w' row) (hr : ∀ g, row = some g → g < lo) : Own w' lo a xs :=
  h.keep fun b hb hlt => hg.block b hlt (fun e => by have := hr b e.symm; omega)

/-- The marks that a law writes: m, m + 1, .. -/
def marks (m : Int) (n : Nat) : List Int := (List.range n).map (fun (i : Nat) => m + (i : Int))
theorem marks_length (m : Int) (n : Nat) : (marks m n).length = n := by simp [marks]
theorem marks_at (m : Int) (n i : Nat) (h : i < (marks m n).length) : (marks m n)[i] = m + i := by simp [marks]
/-- The first k are marked, the others as they were. -/
def markt (m : Int) (xs : List Int) (k : Nat) : List Int := marks m k ++ xs.drop k
theorem markt_length (m : Int) (xs : List Int) (k : Nat) (h : k ≤ xs.length) : (markt m xs k).length = xs.length := by simp [markt, marks_length]; omega
theorem markt_set (m : Int) (xs : List Int) (k : Nat) (h : k < xs.length) : (markt m xs k).set k (m + k) = markt m xs (k + 1) := by
  unfold markt
  apply List.ext_getElem
  · simp [marks_length]; omega
  · intro i h1 h2
    have hl : i < xs.length := by simp [marks_length] at h2; omega
    rw [List.getElem_set]
    split
    · rename_i e
      subst e
      rw [List.getElem_append_left (by rw [marks_length]; omega), marks_at]
    · by_cases hik : i < k
      · rw [List.getElem_append_left (by rw [marks_length]; omega), List.getElem_append_left (by rw [marks_length]; omega), marks_at, marks_at]
      · rw [List.getElem_append_right (by rw [marks_length]; omega), List.getElem_append_right (by rw [marks_length]; omega)]
        simp only [List.getElem_drop, marks_length]
        congr 1
        omega

/-- The slice's cells are written, nothing else. -/
def RetM (m : Int) (n : Nat) (a : Option Addr) (lo : Nat) (w : World) (e : Ending) (w' : World) : Prop :=
  e = .returned (.int .i64 (m + n)) ∧ Own w' lo a (marks m n) ∧ ∃ row, w.grownBy w' row ∧ ∀ g, row = some g → 0 < n ∧ a = some ⟨g, 0, none⟩

/-- The call returned a whole number in new memory. -/
def RetW (s : Int) (xs : List Int) (w : World) (e : Ending) (w' : World) : Prop := ∃ a c, e = .returned (.agg #[.int .i64 s, .slice a xs.length c]) ∧ xs.length ≤ c ∧ Own w' w.heap.size a xs ∧ Below w.heap.size w w'

/-- A variable's block. -/
def BoxAt (w : World) (g : Nat) (t : TypeId) (cs : Array Value) : Prop := w.heap[g]? = some (.cells cs t (0, 0))
section
variable {w w' : World} {g : Nat} {t : TypeId} {cs : Array Value}
theorem BoxAt.lt (h : BoxAt w g t cs) : g < w.heap.size := (Array.getElem?_eq_some_iff.1 h).1
theorem BoxAt.cell (h : BoxAt w g t cs) (i : Nat) : w.cell? ⟨g, i, none⟩ = cs[i]? := cell_of_row w g i cs t (0, 0) h
theorem BoxAt.frozen (h : BoxAt w g t cs) (i : Nat) : w.frozen? ⟨g, i, none⟩ = false := frozen_of_row w g i cs t h
theorem BoxAt.new (w : World) (t : TypeId) (cs : Array Value) : BoxAt (w.alloc (.cells cs t)) w.heap.size t cs := heap_alloc_new w _
theorem BoxAt.alloc (h : BoxAt w g t cs) (o : Obj) : BoxAt (w.alloc o) g t cs := (Below.heap_alloc w o g h.lt).trans h
theorem BoxAt.below (h : BoxAt w g t cs) (hb : Below w.heap.size w w') : BoxAt w' g t cs := (hb.block g h.lt).trans h
theorem BoxAt.drewN (h : BoxAt w g t cs) (n : Nat) : BoxAt (w.drewN n) g t cs := h
theorem BoxAt.far (h : BoxAt w g t cs) {p : Addr} (hp : g ≠ p.block) (u : Value) : BoxAt (w.setCell p u) g t cs := (Below.heap_setCell w p u g hp).trans h
theorem BoxAt.grown {row : Option Nat} (h : BoxAt w g t cs) (hg : w.grownBy w' row) (hne : some g ≠ row) : BoxAt w' g t cs := (hg.block g h.lt hne).trans h
theorem BoxAt.set_ (h : BoxAt w g t cs) (i : Nat) (u : Value) : BoxAt (w.setCell ⟨g, i, none⟩ u) g t (cs.setIfInBounds i u) := by
  unfold BoxAt at h ⊢
  simp [World.setCell, Array.getElem?_modify, h]
theorem BoxAt.two {v0 v1 : Value} (h : BoxAt w g t #[v0, v1]) : w.cell? ⟨g, 0, none⟩ = some v0 ∧ w.cell? ⟨g, 1, none⟩ = some v1 ∧ w.frozen? ⟨g, 0, none⟩ = false ∧ w.frozen? ⟨g, 1, none⟩ = false :=
  ⟨h.cell 0, h.cell 1, h.frozen 0, h.frozen 1⟩
end
/-- What a law asks. -/
def LawDone (w : World) (e : Ending) (w' : World) : Prop := e = .returned (.bool true) ∧ Below w.heap.size w w'
end Go.Proofs.Ytabpgkkickdopaa
