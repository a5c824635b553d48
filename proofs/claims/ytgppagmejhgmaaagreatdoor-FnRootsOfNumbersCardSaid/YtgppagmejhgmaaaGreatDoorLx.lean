/-
  What the laws' walks keep in mind. No conditions.
-/
import Derived.Test.YtgppagmejhgmaaaGreatDoorTf
import Derived.Deep.DeepCutAuto
namespace Go.Proofs.YtgppagmejhgmaaaGreatDoor
set_option linter.unusedVariables false
open Go Go.RowKit

theorem fitW_len (s : Int) (n : Nat) : (fitW s n).2.1.length ≤ 200 := by
  unfold fitW
  split
  · assumption
  · simp
theorem binR_len (f : Int → Int → Int) (s : Int) (xs : List Int) (t : Int) (ys : List Int) : (binR f s xs t ys).2.1.length ≤ 200 := by
  unfold binR
  split
  · exact fitW_len _ _
  · simp
/-- A slice of the call's own between two times. -/
def Own2 (w : World) (lo hi : Nat) (a : Option Addr) (xs : List Int) : Prop := xs = [] ∨ ∃ g, a = some ⟨g, 0, none⟩ ∧ lo ≤ g ∧ g < hi ∧ RowI w g xs
section
variable {w w' : World} {lo hi : Nat} {a : Option Addr} {xs : List Int}
theorem Own2.of (h : Own w lo a xs) : Own2 w lo w.heap.size a xs := by
  rcases h with h | ⟨g, e, hg, hr⟩
  · exact .inl h
  · exact .inr ⟨g, e, hg, hr.lt, hr⟩
theorem Own2.own (h : Own2 w lo hi a xs) : Own w lo a xs := by
  rcases h with h | ⟨g, e, hg, _, hr⟩
  · exact .inl h
  · exact .inr ⟨g, e, hg, hr⟩
theorem Own2.ints (h : Own2 w lo hi a xs) : Ints w hi a xs := by
  rcases h with rfl | ⟨g, rfl, _, hh, hr⟩
  · exact Ints.none
  · exact fun i hi' => ⟨g, 0, rfl, hh, by rw [Nat.zero_add]; exact hr.cell i hi'⟩
theorem Own2.below {B : Nat} (h : Own2 w lo hi a xs) (hb : Below B w w') (hB : hi ≤ B) : Own2 w' lo hi a xs := by
  rcases h with h | ⟨g, e, hg, hh, hr⟩
  · exact .inl h
  · exact .inr ⟨g, e, hg, hh, hr.below hb (by omega)⟩
theorem Own2.grown {row : Option Nat} (h : Own2 w lo hi a xs) (hg : w.grownBy w' row) (hr : ∀ g, row = some g → g < lo ∨ hi ≤ g) : Own2 w' lo hi a xs := by
  rcases h with h | ⟨g, e, hl, hh, hrow⟩
  · exact .inl h
  · exact .inr ⟨g, e, hl, hh, hrow.keep (hg.block g hrow.lt (fun e => by have := hr g e.symm; omega))⟩
theorem Own2.alloc (h : Own2 w lo hi a xs) (o : Obj) : Own2 (w.alloc o) lo hi a xs := by
  rcases h with h | ⟨g, e, hg, hh, hr⟩
  · exact .inl h
  · exact .inr ⟨g, e, hg, hh, hr.alloc o⟩
theorem Own2.row_ge {n : Nat} {row : Option Nat} (h : Own2 w lo hi a xs) (hn : n = xs.length) (hrow : ∀ g, row = some g → 0 < n ∧ a = some ⟨g, 0, none⟩) : ∀ g, row = some g → lo ≤ g ∧ g < hi := fun g hg => by
  obtain ⟨h1, h2⟩ := hrow g hg
  rcases h with rfl | ⟨g', e, hl, hh, _⟩
  · subst hn; simp at h1
  · rw [h2] at e; simp at e; subst e; exact ⟨hl, hh⟩
end
theorem BoxAt.belowB {w w' : World} {g : Nat} {t : TypeId} {cs : Array Value} {B : Nat} (h : BoxAt w g t cs) (hb : Below B w w') (hB : g < B) : BoxAt w' g t cs := (hb.block g hB).trans h
theorem below_of_grown {w w' : World} {row : Option Nat} {B : Nat} (hg : w.grownBy w' row) (hB : B ≤ w.heap.size) (hr : ∀ g, row = some g → B ≤ g) : Below B w w' := grown_below hg hB hr

/-- A variable that holds the result of a call: its block, its limbs. -/
structure Res (W0 W : World) (p : Value) (s : Int) (xs : List Int) (hi : Nat) : Prop where
  ex : ∃ g a c, p = .pointer (some ⟨g, 0, none⟩) ∧ W0.heap.size ≤ g ∧ g < hi ∧ BoxAt W g 60 #[.int .i64 s, .slice a xs.length c] ∧ xs.length ≤ c ∧ Own2 W W0.heap.size hi a xs
  bel : Below W0.heap.size W0 W
  size : hi ≤ W.heap.size
/-- A new variable that holds what a call returned, made before the call or behind it. -/
theorem Res.mk1 {W0 W W' : World} {s : Int} {xs : List Int} {a : Option Addr} {c : Nat} {lo : Nat} (hb : Below W0.heap.size W0 W) (ho : Own W lo a xs) (hlo : W0.heap.size ≤ lo) (hc : xs.length ≤ c) (hW : W' = W.alloc (.cells #[.int .i64 s, .slice a xs.length c] 60)) :
    Res W0 W' (.pointer (some ⟨W.heap.size, 0, none⟩)) s xs W'.heap.size := by
  subst hW
  exact ⟨⟨W.heap.size, a, c, rfl, hb.size, by simp, BoxAt.new _ _ _, hc, Own2.of ((ho.mono hlo).alloc _)⟩, hb.alloc hb.size _, Nat.le_refl _⟩
theorem Res.drew {W0 W : World} {p : Value} {s : Int} {xs : List Int} {hi : Nat} (h : Res W0 W p s xs hi) : Res W0 W.drew p s xs hi := ⟨h.ex, h.bel.drew, h.size⟩
theorem Res.below {W0 W W' : World} {p : Value} {s : Int} {xs : List Int} {hi : Nat} (h : Res W0 W p s xs hi) {B : Nat} (hb : Below B W W') (hB : hi ≤ B) : Res W0 W' p s xs hi := by
  obtain ⟨⟨g, a, c, e, hl, hh, hx, hc, ho⟩, hbl, hs⟩ := h
  have := hbl.size
  exact ⟨⟨g, a, c, e, hl, hh, hx.belowB hb (by omega), hc, ho.below hb hB⟩, hbl.trans (hb.mono (by omega)), Nat.le_trans hs hb.size⟩
theorem size_al (w : World) (o : Obj) : (w.alloc o).heap.size = w.heap.size + 1 := by simp
theorem BoxAt.newd (w : World) (t : TypeId) (cs : Array Value) : BoxAt (w.alloc (.cells cs t)).drew w.heap.size t cs := heap_alloc_new w _
theorem BoxAt.newe (w : World) (t : TypeId) (cs : Array Value) : BoxAt (w.drew.alloc (.cells cs t)) w.heap.size t cs := heap_alloc_new w _
theorem below_alloc {W0 W : World} (h : Below W0.heap.size W0 W) (o : Obj) : Below W0.heap.size W0 (W.alloc o) := h.alloc h.size o
theorem below_allocd {W0 W : World} (h : Below W0.heap.size W0 W) (o : Obj) : Below W0.heap.size W0 (W.alloc o).drew := (h.alloc h.size o).drew
theorem below_set2 {W0 W : World} {g : Nat} (h : Below W0.heap.size W0 W) (hg : W0.heap.size ≤ g) (u v : Value) : Below W0.heap.size W0 ((W.setCell ⟨g, 0, none⟩ u).setCell ⟨g, 1, none⟩ v) := (h.setCell hg u).setCell hg v
theorem Res.mk2 {W0 W : World} {g : Nat} {s : Int} {xs : List Int} {a : Option Addr} {c : Nat} {lo : Nat} {v0 v1 : Value} (hx : BoxAt W g 60 #[v0, v1]) (hg : W0.heap.size ≤ g) (hb : Below W0.heap.size W0 W) (ho : Own W lo a xs) (hlo : g < lo) (hc : xs.length ≤ c) :
    Res W0 ((W.setCell ⟨g, 0, none⟩ (.int .i64 s)).setCell ⟨g, 1, none⟩ (.slice a xs.length c)) (.pointer (some ⟨g, 0, none⟩)) s xs W.heap.size := by
  refine ⟨⟨g, a, c, rfl, hg, hx.lt, ?_, hc, ?_⟩, below_set2 hb hg _ _, by simp [World.setCell]⟩
  · have := (hx.set_ 0 (.int .i64 s)).set_ 1 (.slice a xs.length c)
    simpa using this
  · have h2 := Own2.of ho
    rcases h2 with h | ⟨g', e, h1, h2, hr⟩
    · exact .inl h
    · exact .inr ⟨g', e, by omega, h2, (hr.far (by simp; omega) _).far (by simp; omega) _⟩
end Go.Proofs.YtgppagmejhgmaaaGreatDoor
