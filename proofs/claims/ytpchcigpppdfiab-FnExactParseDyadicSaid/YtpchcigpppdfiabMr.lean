/-
  Contracts: sums and differences of whole numbers. Conditions: the limbs can be read.
-/
import Derived.Test.YtpchcigpppdfiabMq
namespace Go.Proofs.Ytpchcigpppdfiab
set_option linter.unusedVariables false
open Go Go.RowKit

theorem Sg.of (z : Int) : Sg z.sign z.natAbs := by
  unfold Sg
  rcases Int.lt_trichotomy z 0 with h | h | h
  · right; exact ⟨by omega, .inr (Int.sign_eq_neg_one_of_neg h)⟩
  · left; subst h; exact ⟨rfl, rfl⟩
  · right; exact ⟨by omega, .inl (Int.sign_eq_one_of_pos h)⟩
theorem Sg.mul (z : Int) : z.sign * (z.natAbs : Int) = z := Int.sign_mul_natAbs z
theorem Sg.eq {s z : Int} {n : Nat} (h : Sg s n) (e : s * n = z) : s = z.sign ∧ n = z.natAbs := by
  subst e
  unfold Sg at h
  rcases h with ⟨rfl, rfl⟩ | ⟨h, rfl | rfl⟩
  · exact ⟨rfl, rfl⟩
  · exact ⟨by rw [Int.one_mul]; exact (Int.sign_eq_one_of_pos (by omega)).symm, by omega⟩
  · exact ⟨(Int.sign_eq_neg_one_of_neg (by omega)).symm, by omega⟩
theorem sgnOf_eq {s z : Int} {n : Nat} (hs : s = 1 ∨ s = -1 ∨ n = 0) (e : s * n = z) : sgnOf s n = z.sign ∧ n = z.natAbs := by
  have h : Sg (sgnOf s n) n := by
    unfold Sg
    by_cases h0 : n = 0
    · left; subst h0; exact ⟨rfl, sgnOf_zero s⟩
    · right; rw [sgnOf_pos h0]; exact ⟨h0, by omega⟩
  refine h.eq ?_
  by_cases h0 : n = 0
  · subst h0; rw [sgnOf_zero]; rw [← e]; simp
  · rw [sgnOf_pos h0]; exact e
/-- The call returned the whole number z in new memory. -/
def RetZ (z : Int) (w : World) (e : Ending) (w' : World) : Prop := ∃ a c, e = .returned (.agg #[.int .i64 z.sign, .slice a (lim z.natAbs).length c]) ∧ (lim z.natAbs).length ≤ c ∧ Own w' w.heap.size a (lim z.natAbs) ∧ Below w.heap.size w w'

theorem three_box (w : World) (t : TypeId) (p q r : Array Value) : BoxAt (((w.alloc (.cells p t)).alloc (.cells q t)).alloc (.cells r t)) w.heap.size t p ∧ BoxAt (((w.alloc (.cells p t)).alloc (.cells q t)).alloc (.cells r t)) (w.heap.size + 1) t q ∧
    BoxAt (((w.alloc (.cells p t)).alloc (.cells q t)).alloc (.cells r t)) (w.heap.size + 2) t r ∧ Below w.heap.size w (((w.alloc (.cells p t)).alloc (.cells q t)).alloc (.cells r t)) ∧ (((w.alloc (.cells p t)).alloc (.cells q t)).alloc (.cells r t)).heap.size = w.heap.size + 3 := by
  obtain ⟨h1, h2, h3, h4⟩ := two_box w t p q
  refine ⟨h1.alloc _, h2.alloc _, ?_, h3.alloc (by omega) _, by simp⟩
  have := BoxAt.new ((w.alloc (.cells p t)).alloc (.cells q t)) t r
  simpa using this

/-- What a method with a result leaves. -/
theorem retZ_end {w W0 W : World} {z : Int} {a : Option Addr} {c : Nat} {s : Int} {k : Nat} (P3 : Below w.heap.size w W0) (P4 : W0.heap.size = w.heap.size + 3) (hb : Below W0.heap.size W0 W) (u v : Value) (ho : Own W W0.heap.size a (lim k)) (hc : (lim k).length ≤ c) (hs : s = z.sign ∧ k = z.natAbs) :
    RetZ z w (.returned (.agg #[.int .i64 s, .slice a (lim k).length c])) ((W.setCell ⟨w.heap.size + 1 + 1, 0, none⟩ u).setCell ⟨w.heap.size + 1 + 1, 1, none⟩ v) := by
  obtain ⟨rfl, rfl⟩ := hs
  exact ⟨a, c, rfl, hc, ((ho.setFar (by simp; omega) _).setFar (by simp; omega) _).mono (by omega), ((P3.trans (hb.mono (by omega))).setCell (by simp <;> omega) _).setCell (by simp <;> omega) _⟩

end Go.Proofs.Ytpchcigpppdfiab
