/-
  What the laws' walks over exact numbers keep in mind: marks, variables that hold a result. Conditions: the limbs can be read.
-/
import Derived.Test.YtnnbfoemmgddeaaDoorOc
import Derived.Test.YtnnbfoemmgddeaaDoorLx
namespace Go.Proofs.YtnnbfoemmgddeaaDoor
set_option linter.unusedVariables false
open Go Go.RowKit
/-- A variable that holds the result of a call: its block, its limbs. -/
structure ResY (W0 W : World) (p : Value) (s : Int) (xs : List Int) (x : Int) (hi : Nat) : Prop where
  ex : ∃ g a c, p = .pointer (some ⟨g, 0, none⟩) ∧ W0.heap.size ≤ g ∧ g < hi ∧ BoxAt W g 30 #[.int .i64 s, .slice a xs.length c, .int .i64 x] ∧ xs.length ≤ c ∧ Own2 W W0.heap.size hi a xs
  bel : Below W0.heap.size W0 W
  size : hi ≤ W.heap.size
theorem ResY.mk1 {W0 W W' : World} {s x : Int} {xs : List Int} {a : Option Addr} {c : Nat} {lo : Nat} (hb : Below W0.heap.size W0 W) (ho : Own W lo a xs) (hlo : W0.heap.size ≤ lo) (hc : xs.length ≤ c) (hW : W' = W.alloc (.cells #[.int .i64 s, .slice a xs.length c, .int .i64 x] 30)) :
    ResY W0 W' (.pointer (some ⟨W.heap.size, 0, none⟩)) s xs x W'.heap.size := by
  subst hW
  exact ⟨⟨W.heap.size, a, c, rfl, hb.size, by simp, BoxAt.new _ _ _, hc, Own2.of ((ho.mono hlo).alloc _)⟩, hb.alloc hb.size _, Nat.le_refl _⟩
theorem below_set3 {W0 W : World} {g : Nat} (h : Below W0.heap.size W0 W) (hg : W0.heap.size ≤ g) (u v x : Value) : Below W0.heap.size W0 (((W.setCell ⟨g, 0, none⟩ u).setCell ⟨g, 1, none⟩ v).setCell ⟨g, 2, none⟩ x) := Below.set3 h hg u v x
theorem ResY.mk2 {W0 W : World} {g : Nat} {s x : Int} {xs : List Int} {a : Option Addr} {c : Nat} {lo : Nat} {v0 v1 v2 : Value} (hx : BoxAt W g 30 #[v0, v1, v2]) (hg : W0.heap.size ≤ g) (hb : Below W0.heap.size W0 W) (ho : Own W lo a xs) (hlo : g < lo) (hc : xs.length ≤ c) :
    ResY W0 (((W.setCell ⟨g, 0, none⟩ (.int .i64 s)).setCell ⟨g, 1, none⟩ (.slice a xs.length c)).setCell ⟨g, 2, none⟩ (.int .i64 x)) (.pointer (some ⟨g, 0, none⟩)) s xs x W.heap.size := by
  refine ⟨⟨g, a, c, rfl, hg, hx.lt, ?_, hc, ?_⟩, below_set3 hb hg _ _ _, by simp [World.setCell]⟩
  · have := ((hx.set_ 0 (.int .i64 s)).set_ 1 (.slice a xs.length c)).set_ 2 (.int .i64 x)
    simpa using this
  · rcases Own2.of ho with h | ⟨g', e, h1, h2, hr⟩
    · exact .inl h
    · exact .inr ⟨g', e, by omega, h2, ((hr.far (by simp; omega) _).far (by simp; omega) _).far (by simp; omega) _⟩
theorem two_boxT (w : World) (t1 t2 : TypeId) (p q : Array Value) : BoxAt ((w.alloc (.cells p t1)).alloc (.cells q t2)) w.heap.size t1 p ∧ BoxAt ((w.alloc (.cells p t1)).alloc (.cells q t2)) (w.heap.size + 1) t2 q ∧ Below w.heap.size w ((w.alloc (.cells p t1)).alloc (.cells q t2)) ∧ ((w.alloc (.cells p t1)).alloc (.cells q t2)).heap.size = w.heap.size + 2 := by
  have h1 := BoxAt.new w t1 p
  have h2 := BoxAt.new (w.alloc (.cells p t1)) t2 q
  exact ⟨h1.alloc _, by simpa using h2, ((Below.refl _ w).alloc (Nat.le_refl _) _).alloc (by simp) _, by simp⟩
end Go.Proofs.YtnnbfoemmgddeaaDoor
