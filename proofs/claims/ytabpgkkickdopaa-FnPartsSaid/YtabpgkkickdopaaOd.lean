/-
  Contracts of the laws' own helpers over exact numbers, and the tests of exact numbers by the program and by the model. Conditions: the limbs can be read. What the laws' walks over exact numbers keep in mind: marks, variables that hold a result. Conditions: the limbs can be read. Contracts: IsDyadic of the program and of the model. Conditions: the limbs can be read.
-/
import Derived.Test.YtabpgkkickdopaaUd
import Derived.Test.YtabpgkkickdopaaLx
namespace Go.Proofs.Ytabpgkkickdopaa
set_option linter.unusedVariables false
open Go Go.RowKit

def IsDy (s : Int) (xs : List Int) (x : Int) : Prop := IsWh s xs ∧ -5000 ≤ x ∧ x ≤ 5000 ∧ ((s = 0 ∧ x = 0) ∨ (s ≠ 0 ∧ xs.getD 0 0 % 2 = 1))
noncomputable def dyB (s : Int) (xs : List Int) (x : Int) : Bool := @decide (IsDy s xs x) (Classical.propDecidable _)
theorem dyB_yes {s : Int} {xs : List Int} {x : Int} (h : IsDy s xs x) : dyB s xs x = true := by unfold dyB; exact @decide_eq_true _ (Classical.propDecidable _) h
theorem dyB_no {s : Int} {xs : List Int} {x : Int} (h : ¬ IsDy s xs x) : dyB s xs x = false := by unfold dyB; exact @decide_eq_false _ (Classical.propDecidable _) h
theorem dyB_iff {s : Int} {xs : List Int} {x : Int} : dyB s xs x = true ↔ IsDy s xs x := by unfold dyB; exact @decide_eq_true_iff _ (Classical.propDecidable _)

/-- The call returned an exact number in new memory. -/
def RetY (s : Int) (xs : List Int) (x : Int) (w : World) (e : Ending) (w' : World) : Prop := ∃ a c, e = .returned (.agg #[.int .i64 s, .slice a xs.length c, .int .i64 x]) ∧ xs.length ≤ c ∧ Own w' w.heap.size a xs ∧ Below w.heap.size w w'

theorem three_boxT (w : World) (t1 t2 t3 : TypeId) (p q r : Array Value) : BoxAt (((w.alloc (.cells p t1)).alloc (.cells q t2)).alloc (.cells r t3)) w.heap.size t1 p ∧ BoxAt (((w.alloc (.cells p t1)).alloc (.cells q t2)).alloc (.cells r t3)) (w.heap.size + 1) t2 q ∧
    BoxAt (((w.alloc (.cells p t1)).alloc (.cells q t2)).alloc (.cells r t3)) (w.heap.size + 1 + 1) t3 r ∧ Below w.heap.size w (((w.alloc (.cells p t1)).alloc (.cells q t2)).alloc (.cells r t3)) ∧ (((w.alloc (.cells p t1)).alloc (.cells q t2)).alloc (.cells r t3)).heap.size = w.heap.size + 3 := by
  have h1 := BoxAt.new w t1 p
  have h2 := BoxAt.new (w.alloc (.cells p t1)) t2 q
  have h3 := BoxAt.new ((w.alloc (.cells p t1)).alloc (.cells q t2)) t3 r
  refine ⟨(h1.alloc _).alloc _, by simpa using h2.alloc _, by simpa using h3, (((Below.refl _ w).alloc (Nat.le_refl _) _).alloc (by simp) _).alloc (by simp; omega) _, by simp⟩
theorem BoxAt.tri {w : World} {g : Nat} {t : TypeId} {a b c : Value} (h : BoxAt w g t #[a, b, c]) : w.cell? ⟨g, 0, none⟩ = some a ∧ w.cell? ⟨g, 1, none⟩ = some b ∧ w.cell? ⟨g, 2, none⟩ = some c := ⟨h.cell 0, h.cell 1, h.cell 2⟩
theorem BoxAt.tri6 {w : World} {g : Nat} {t : TypeId} {a b c : Value} (h : BoxAt w g t #[a, b, c]) : w.cell? ⟨g, 0, none⟩ = some a ∧ w.cell? ⟨g, 1, none⟩ = some b ∧ w.cell? ⟨g, 2, none⟩ = some c ∧ w.frozen? ⟨g, 0, none⟩ = false ∧ w.frozen? ⟨g, 1, none⟩ = false ∧ w.frozen? ⟨g, 2, none⟩ = false :=
  ⟨h.cell 0, h.cell 1, h.cell 2, h.frozen 0, h.frozen 1, h.frozen 2⟩
/-- Three cells of a variable are written. -/
theorem Own.set3 {w : World} {lo : Nat} {a : Option Addr} {xs : List Int} {g : Nat} (h : Own w lo a xs) (hg : g < lo) (u v x : Value) : Own (((w.setCell ⟨g, 0, none⟩ u).setCell ⟨g, 1, none⟩ v).setCell ⟨g, 2, none⟩ x) lo a xs :=
  ((h.setFar (by simpa using hg) _).setFar (by simpa using hg) _).setFar (by simpa using hg) _
theorem Below.set3 {w W : World} {B g : Nat} (h : Below B w W) (hg : B ≤ g) (u v x : Value) : Below B w (((W.setCell ⟨g, 0, none⟩ u).setCell ⟨g, 1, none⟩ v).setCell ⟨g, 2, none⟩ x) :=
  ((h.setCell (by simpa using hg) _).setCell (by simpa using hg) _).setCell (by simpa using hg) _

set_option maxHeartbeats 400000 in
theorem iBeyond (k l : Int) (w : World) (h0 : 0 ≤ l) (h1 : l ≤ 1000000) : Calls Try.prog 75 #[.int .i64 k, .int .i64 l] w fun e w' => e = .returned (.bool (decide (k < -l ∨ l < k))) ∧ w = w' := by
  by_cases hk : k < -l
  · have e : decide (k < -l ∨ l < k) = true := decide_eq_true (.inl hk)
    rw [e]
    go_enter Try.func75, Try.ntmps75
    go_wp2
    go_ret
    exact ⟨rfl, rfl⟩
  · have hd : decide (k < -l) = false := decide_eq_false hk
    by_cases hk2 : l < k
    · have e : decide (k < -l ∨ l < k) = true := decide_eq_true (.inr hk2)
      rw [e]
      have hd2 : decide (l < k) = true := decide_eq_true hk2
      go_enter Try.func75, Try.ntmps75
      go_wp2
      go_ret
      exact ⟨rfl, rfl⟩
    · have e : decide (k < -l ∨ l < k) = false := decide_eq_false (by omega)
      rw [e]
      have hd2 : decide (l < k) = false := decide_eq_false hk2
      go_enter Try.func75, Try.ntmps75
      go_wp2
      go_ret
      exact ⟨rfl, rfl⟩

theorem i64_and1 (y : Nat) : bits .and .i64 (y : Int) 1 = ((y % 2 : Nat) : Int) := by
  have hw : ((BitVec.ofInt 64 (y : Int) &&& BitVec.ofInt 64 1).toNat : Int) = ((y % 2 : Nat) : Int) := by
    have e : BitVec.ofInt 64 1 = BitVec.ofNat 64 (2^1-1) := by decide
    rw [e, BitVec.toNat_and, BitVec.toNat_ofInt, BitVec.toNat_ofNat, Nat.mod_eq_of_lt (show 2^1-1 < 2^64 by decide), Nat.and_two_pow_sub_one_eq_mod]
    omega
  show IntKind.i64.wrap ((BitVec.ofInt 64 (y : Int) &&& BitVec.ofInt 64 1).toNat : Int) = _
  rw [hw, IntKind.wrap_i64]
  omega

theorem sgn_ne {s : Int} {n : Nat} (h : IsWh s (lim n)) : s ≠ 0 ↔ n ≠ 0 := by
  obtain ⟨m, hm, _, hs⟩ := isWh_of h
  obtain rfl := lim_inj hm
  omega

/-- Whether a magnitude is odd. -/
theorem lim_getD (n : Nat) : (lim n).getD 0 0 = ((n % 16777216 : Nat) : Int) := by
  by_cases h : n = 0
  · subst h; rw [lim_zero]; rfl
  · rw [lim, dig_pos h]; rfl
theorem below_set3 {W0 W : World} {g : Nat} (h : Below W0.heap.size W0 W) (hg : W0.heap.size ≤ g) (u v x : Value) : Below W0.heap.size W0 (((W.setCell ⟨g, 0, none⟩ u).setCell ⟨g, 1, none⟩ v).setCell ⟨g, 2, none⟩ x) := Below.set3 h hg u v x
theorem two_boxT (w : World) (t1 t2 : TypeId) (p q : Array Value) : BoxAt ((w.alloc (.cells p t1)).alloc (.cells q t2)) w.heap.size t1 p ∧ BoxAt ((w.alloc (.cells p t1)).alloc (.cells q t2)) (w.heap.size + 1) t2 q ∧ Below w.heap.size w ((w.alloc (.cells p t1)).alloc (.cells q t2)) ∧ ((w.alloc (.cells p t1)).alloc (.cells q t2)).heap.size = w.heap.size + 2 := by
  have h1 := BoxAt.new w t1 p
  have h2 := BoxAt.new (w.alloc (.cells p t1)) t2 q
  exact ⟨h1.alloc _, by simpa using h2, ((Below.refl _ w).alloc (Nat.le_refl _) _).alloc (by simp) _, by simp⟩

theorem dy_odd {s x : Int} {n : Nat} (h : IsWh s (lim n)) (h1 : -5000 ≤ x) (h2 : x ≤ 5000) (hs : s ≠ 0) : dyB s (lim n) x = decide (n % 2 = 1) := by
  by_cases ho : n % 2 = 1
  · rw [decide_eq_true ho]
    refine dyB_yes ⟨h, h1, h2, .inr ⟨hs, ?_⟩⟩
    rw [lim_getD]
    omega
  · rw [decide_eq_false ho]
    refine dyB_no fun hd => ?_
    rcases hd.2.2.2 with ⟨h0, _⟩ | ⟨_, h0⟩
    · exact hs h0
    · rw [lim_getD] at h0
      omega

end Go.Proofs.Ytabpgkkickdopaa
