/-
  What the source draws, handed on: numbers, picks out of lists. No conditions.
-/
import Derived.Test.YtfjfmlofhifkmaaDoorSd
namespace Go.Proofs.YtfjfmlofhifkmaaDoor
set_option linter.unusedVariables false
open Go Go.RowKit

section
variable {B : Nat} {a : Option Addr} {len cap b : Nat} {w W : World}
theorem Stay.alloc' (h : Stay B a len cap b w W) (o : Obj) : Stay B a len cap b w (W.alloc o) := h.alloc (by have := h.src.lo; have := h.src.hi; omega) o
theorem next_from (h : Stay B a len cap b w W) (n : Int) (hn : 1 ≤ n) (hn' : n ≤ 9223372036854775807) : Calls Tryd.prog 51 #[.pointer (some ⟨b, 0, none⟩), .int .i64 n] W (Nxt B a len cap b n w) :=
  (next_any B a len cap b n W h.src hn hn').mono fun _ _ ⟨v, hv, he, hst⟩ => ⟨v, hv, he, h.trans hst⟩
theorem SomeI.from {e : Ending} {w' : World} (h : Stay B a len cap b w W) (g : SomeI B a len cap b W e w') : SomeI B a len cap b w e w' := by
  obtain ⟨x, h1, h2, he, hst⟩ := g
  exact ⟨x, h1, h2, he, h.trans hst⟩

def InI64 (x : Int) : Prop := -9223372036854775808 ≤ x ∧ x ≤ 9223372036854775807
/-- A pick out of a list that was just made. -/
theorem pick_from (h : Stay B a len cap b w W) (xs : List Int) (t : TypeId) (m : Nat) (hm : m = xs.length) (hm1 : 1 ≤ m) (hm2 : m ≤ 1000) (hx : ∀ x ∈ xs, InI64 x) (V : World) (hV : V = W.alloc (.cells (xs.map (Value.int .i64)).toArray t)) :
    Calls Tryd.prog 71 #[.pointer (some ⟨b, 0, none⟩), .slice (some ⟨W.heap.size, 0, none⟩) m m] V (SomeI B a len cap b w) := by
  subst hm hV
  have h2 := h.alloc' (.cells (xs.map (Value.int .i64)).toArray t)
  have hb := h.src.hi
  refine (pick_any B a len cap b W.heap.size xs.length xs.length _ h2.src hm1 hm2 (by simp) (by omega) fun i hi => ?_).mono fun _ _ g => SomeI.from h2 g
  obtain ⟨h3, h4⟩ := hx xs[i] (List.getElem_mem _)
  exact ⟨xs[i], h3, h4, by simp [List.getElem?_eq_getElem hi]⟩
end

def AnyI (B : Nat) (a : Option Addr) (len cap : Nat) (b : Nat) (w : World) (e : Ending) (w' : World) : Prop :=
  ∃ x : Int, e = .returned (.int .i64 x) ∧ Stay B a len cap b w w'
section
variable {B : Nat} {a : Option Addr} {len cap b : Nat} {w W : World}
theorem pick_some (h : Stay B a len cap b w W) (xs : List Int) (t : TypeId) (m : Nat) (hm : m = xs.length) (hm1 : 1 ≤ m) (hm2 : m ≤ 1000) (hx : ∀ x ∈ xs, InI64 x) (V : World) (hV : V = W.alloc (.cells (xs.map (Value.int .i64)).toArray t)) :
    Calls Tryd.prog 71 #[.pointer (some ⟨b, 0, none⟩), .slice (some ⟨W.heap.size, 0, none⟩) m m] V (AnyI B a len cap b w) :=
  (pick_from h xs t m hm hm1 hm2 hx V hV).mono fun _ _ ⟨x, _, _, he, hst⟩ => ⟨x, he, hst⟩
end

end Go.Proofs.YtfjfmlofhifkmaaDoor
