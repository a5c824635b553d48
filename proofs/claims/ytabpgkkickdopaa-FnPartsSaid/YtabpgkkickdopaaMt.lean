/-
  Contracts: order of magnitudes and of whole numbers; sums and differences of whole numbers. Conditions: the limbs can be read. Contracts: order, sums and differences of whole numbers. Conditions: the limbs can be read. Contracts: sums and differences of whole numbers. Conditions: the limbs can be read. Contracts: opposites and differences of whole numbers. Conditions: the limbs can be read. Contracts: AddWholes, SubtractWholes of the program. Conditions: the limbs can be read.
-/
import Derived.Test.YtabpgkkickdopaaMk
namespace Go.Proofs.Ytabpgkkickdopaa
set_option linter.unusedVariables false
open Go Go.RowKit

theorem quietL {P : Program} {f : FuncId} {args : Array Value} {w : World} {v : Value} (h : ∀ W, Calls P f args W fun e w' => e = .returned v ∧ W = w') (n : Nat) :
    Calls P f args (w.drewN n) fun e w'' => e = .returned v ∧ ∃ m, w'' = w.drewN m := (h _).mono fun _ _ ⟨he, hm⟩ => ⟨he, n, hm.symm⟩
theorem quietA {P : Program} {f : FuncId} {args : Array Value} {w : World} {v : Value} (h : ∀ W, Calls P f args W fun e w' => e = .returned v ∧ W = w') (q n : Nat) :
    Calls P f args (w.drewN (q + n)) fun e w'' => e = .returned v ∧ ∃ m, w'' = w.drewN (q + m) := (h _).mono fun _ _ ⟨he, hm⟩ => ⟨he, n, hm.symm⟩

theorem two_box (w : World) (t : TypeId) (p q : Array Value) : BoxAt ((w.alloc (.cells p t)).alloc (.cells q t)) w.heap.size t p ∧ BoxAt ((w.alloc (.cells p t)).alloc (.cells q t)) (w.heap.size + 1) t q ∧ Below w.heap.size w ((w.alloc (.cells p t)).alloc (.cells q t)) ∧ ((w.alloc (.cells p t)).alloc (.cells q t)).heap.size = w.heap.size + 2 :=
  ⟨(BoxAt.new w t p).alloc _, by have := BoxAt.new (w.alloc (.cells p t)) t q; simpa using this, ((Below.refl _ w).alloc (Nat.le_refl _) _).alloc (by simp) _, by simp⟩

/-- A sign and a size as they stand in a whole number. -/
def Sg (s : Int) (n : Nat) : Prop := (n = 0 ∧ s = 0) ∨ (n ≠ 0 ∧ (s = 1 ∨ s = -1))
theorem Sg.sgn {s : Int} {n : Nat} (h : Sg s n) : sgnOf s n = s := by
  rcases h with ⟨rfl, rfl⟩ | ⟨h, _⟩
  · exact sgnOf_zero 0
  · exact sgnOf_pos h
theorem sg_cmp_ne {s t : Int} {m n : Nat} (h : Sg s m) (k : Sg t n) (hne : s ≠ t) : cmpZ s t = cmpZ (s * m) (t * n) := by
  unfold Sg at h k
  rcases h with ⟨rfl, rfl⟩ | ⟨h, rfl | rfl⟩ <;> rcases k with ⟨rfl, rfl⟩ | ⟨k, rfl | rfl⟩ <;> first | exact absurd rfl hne | (unfold cmpZ; simp; omega) | (unfold cmpZ; repeat' split <;> omega)
theorem sg_cmp_eq {s : Int} {m n : Nat} (h : Sg s m) (k : Sg s n) : s * cmpZ m n = cmpZ (s * m) (s * n) := by
  unfold Sg at h k
  rcases h with ⟨rfl, rfl⟩ | ⟨h, rfl | rfl⟩
  · simp [cmpZ]
  · simp
  · unfold cmpZ; repeat' split <;> omega

theorem Sg.of (z : Int) : Sg z.sign z.natAbs := by
  unfold Sg
  rcases Int.lt_trichotomy z 0 with h | h | h
  · right; exact ⟨by omega, .inr (Int.sign_eq_neg_one_of_neg h)⟩
  · left; subst h; exact ⟨rfl, rfl⟩
  · right; exact ⟨by omega, .inl (Int.sign_eq_one_of_pos h)⟩
theorem Sg.mul (z : Int) : z.sign * (z.natAbs : Int) = z := Int.sign_mul_natAbs z
theorem Sg.eq {s z : Int} {n : Nat} (h : Sg s n) (e : s * n = z) : s = z.sign ∧ n = z.natAbs := by
  subst e
  unfold Sg at h
  rcases h with ⟨rfl, rfl⟩ | ⟨h, rfl | rfl⟩
  · exact ⟨rfl, rfl⟩
  · exact ⟨by rw [Int.one_mul]; exact (Int.sign_eq_one_of_pos (by omega)).symm, by omega⟩
  · exact ⟨(Int.sign_eq_neg_one_of_neg (by omega)).symm, by omega⟩
theorem sgnOf_eq {s z : Int} {n : Nat} (hs : s = 1 ∨ s = -1 ∨ n = 0) (e : s * n = z) : sgnOf s n = z.sign ∧ n = z.natAbs := by
  have h : Sg (sgnOf s n) n := by
    unfold Sg
    by_cases h0 : n = 0
    · left; subst h0; exact ⟨rfl, sgnOf_zero s⟩
    · right; rw [sgnOf_pos h0]; exact ⟨h0, by omega⟩
  refine h.eq ?_
  by_cases h0 : n = 0
  · subst h0; rw [sgnOf_zero]; rw [← e]; simp
  · rw [sgnOf_pos h0]; exact e
/-- The call returned the whole number z in new memory. -/
def RetZ (z : Int) (w : World) (e : Ending) (w' : World) : Prop := ∃ a c, e = .returned (.agg #[.int .i64 z.sign, .slice a (lim z.natAbs).length c]) ∧ (lim z.natAbs).length ≤ c ∧ Own w' w.heap.size a (lim z.natAbs) ∧ Below w.heap.size w w'

theorem three_box (w : World) (t : TypeId) (p q r : Array Value) : BoxAt (((w.alloc (.cells p t)).alloc (.cells q t)).alloc (.cells r t)) w.heap.size t p ∧ BoxAt (((w.alloc (.cells p t)).alloc (.cells q t)).alloc (.cells r t)) (w.heap.size + 1) t q ∧
    BoxAt (((w.alloc (.cells p t)).alloc (.cells q t)).alloc (.cells r t)) (w.heap.size + 2) t r ∧ Below w.heap.size w (((w.alloc (.cells p t)).alloc (.cells q t)).alloc (.cells r t)) ∧ (((w.alloc (.cells p t)).alloc (.cells q t)).alloc (.cells r t)).heap.size = w.heap.size + 3 := by
  obtain ⟨h1, h2, h3, h4⟩ := two_box w t p q
  refine ⟨h1.alloc _, h2.alloc _, ?_, h3.alloc (by omega) _, by simp⟩
  have := BoxAt.new ((w.alloc (.cells p t)).alloc (.cells q t)) t r
  simpa using this

/-- What a method with a result leaves. -/
theorem retZ_end {w W0 W : World} {z : Int} {a : Option Addr} {c : Nat} {s : Int} {k : Nat} (P3 : Below w.heap.size w W0) (P4 : W0.heap.size = w.heap.size + 3) (hb : Below W0.heap.size W0 W) (u v : Value) (ho : Own W W0.heap.size a (lim k)) (hc : (lim k).length ≤ c) (hs : s = z.sign ∧ k = z.natAbs) :
    RetZ z w (.returned (.agg #[.int .i64 s, .slice a (lim k).length c])) ((W.setCell ⟨w.heap.size + 1 + 1, 0, none⟩ u).setCell ⟨w.heap.size + 1 + 1, 1, none⟩ v) := by
  obtain ⟨rfl, rfl⟩ := hs
  exact ⟨a, c, rfl, hc, ((ho.setFar (by simp; omega) _).setFar (by simp; omega) _).mono (by omega), ((P3.trans (hb.mono (by omega))).setCell (by simp <;> omega) _).setCell (by simp <;> omega) _⟩

theorem retZ_end2 {w W0 W : World} {z : Int} {a : Option Addr} {c : Nat} {s : Int} {k : Nat} (P3 : Below w.heap.size w W0) (P4 : W0.heap.size = w.heap.size + 2) (hb : Below W0.heap.size W0 W) (u v : Value) (ho : Own W W0.heap.size a (lim k)) (hc : (lim k).length ≤ c) (hs : s = z.sign ∧ k = z.natAbs) :
    RetZ z w (.returned (.agg #[.int .i64 s, .slice a (lim k).length c])) ((W.setCell ⟨w.heap.size + 1, 0, none⟩ u).setCell ⟨w.heap.size + 1, 1, none⟩ v) := by
  obtain ⟨rfl, rfl⟩ := hs
  exact ⟨a, c, rfl, hc, ((ho.setFar (by simp; omega) _).setFar (by simp; omega) _).mono (by omega), ((P3.trans (hb.mono (by omega))).setCell (by simp <;> omega) _).setCell (by simp <;> omega) _⟩

/-- The value of a sign and limbs. -/
def wv (s : Int) (xs : List Int) : Int := s * (val (xs.map Int.toNat) : Int)
theorem wv_lim (s : Int) (n : Nat) : wv s (lim n) = s * n := by
  have : (lim n).map Int.toNat = dig n := by
    unfold lim ofN
    rw [List.map_map]
    have : (Int.toNat ∘ fun (x : Nat) => (x : Int)) = id := by funext x; simp
    rw [this, List.map_id]
  unfold wv
  rw [this, val_dig]
/-- A number if it fits, and the code. -/
def fitZ (z : Int) : Int × List Int × Int := fitW z.sign z.natAbs
noncomputable def binR (f : Int → Int → Int) (s : Int) (xs : List Int) (t : Int) (ys : List Int) : Int × List Int × Int := @ite _ (IsWh s xs ∧ IsWh t ys) (Classical.propDecidable _) (fitZ (f (wv s xs) (wv t ys))) (0, [], 1)
theorem binR_yes {f : Int → Int → Int} {s : Int} {xs : List Int} {t : Int} {ys : List Int} (h : IsWh s xs) (k : IsWh t ys) : binR f s xs t ys = fitZ (f (wv s xs) (wv t ys)) := by unfold binR; rw [if_pos ⟨h, k⟩]
theorem binR_no {f : Int → Int → Int} {s : Int} {xs : List Int} {t : Int} {ys : List Int} (h : ¬ (IsWh s xs ∧ IsWh t ys)) : binR f s xs t ys = (0, [], 1) := by unfold binR; rw [if_neg h]
theorem retWC_zero {w W0 W : World} (code : Int) (P3 : Below w.heap.size w W0) (P4 : W0.heap.size = w.heap.size + 3) (hb : Below W0.heap.size W0 W) (u v : Value) :
    RetWC (0, [], code) w.heap.size w (.returned (.tuple #[.agg #[.int .i64 0, .slice none 0 0], .int .i64 code])) ((W.setCell ⟨w.heap.size + 1 + 1, 0, none⟩ u).setCell ⟨w.heap.size + 1 + 1, 1, none⟩ v) :=
  ⟨none, 0, rfl, Nat.le_refl _, .inl rfl, ((P3.trans (hb.mono (by omega))).setCell (by simp <;> omega) _).setCell (by simp <;> omega) _⟩
theorem retWC_end {w W0 W : World} {r : Int × List Int × Int} {a : Option Addr} {c : Nat} (P3 : Below w.heap.size w W0) (P4 : W0.heap.size = w.heap.size + 3) (hb : Below W0.heap.size W0 W) (u v : Value) (ho : Own W W0.heap.size a r.2.1) (hc : r.2.1.length ≤ c) :
    RetWC r w.heap.size w (.returned (.tuple #[.agg #[.int .i64 r.1, .slice a r.2.1.length c], .int .i64 r.2.2])) ((W.setCell ⟨w.heap.size + 1 + 1, 0, none⟩ u).setCell ⟨w.heap.size + 1 + 1, 1, none⟩ v) :=
  ⟨a, c, rfl, hc, ((ho.setFar (by simp; omega) _).setFar (by simp; omega) _).mono (by omega), ((P3.trans (hb.mono (by omega))).setCell (by simp <;> omega) _).setCell (by simp <;> omega) _⟩

end Go.Proofs.Ytabpgkkickdopaa
