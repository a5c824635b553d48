/-
  Contracts of the laws' own helpers over exact numbers, and the tests of exact numbers by the program and by the model. Conditions: the limbs can be read.
-/
import Derived.Test.YtfjfmlofhifkmaaDoorUd
namespace Go.Proofs.YtfjfmlofhifkmaaDoor
set_option linter.unusedVariables false
open Go Go.RowKit

def IsDy (s : Int) (xs : List Int) (x : Int) : Prop := IsWh s xs ∧ -5000 ≤ x ∧ x ≤ 5000 ∧ ((s = 0 ∧ x = 0) ∨ (s ≠ 0 ∧ xs.getD 0 0 % 2 = 1))
noncomputable def dyB (s : Int) (xs : List Int) (x : Int) : Bool := @decide (IsDy s xs x) (Classical.propDecidable _)
theorem dyB_yes {s : Int} {xs : List Int} {x : Int} (h : IsDy s xs x) : dyB s xs x = true := by unfold dyB; exact @decide_eq_true _ (Classical.propDecidable _) h
theorem dyB_no {s : Int} {xs : List Int} {x : Int} (h : ¬ IsDy s xs x) : dyB s xs x = false := by unfold dyB; exact @decide_eq_false _ (Classical.propDecidable _) h
theorem dyB_iff {s : Int} {xs : List Int} {x : Int} : dyB s xs x = true ↔ IsDy s xs x := by unfold dyB; exact @decide_eq_true_iff _ (Classical.propDecidable _)

/-- The call returned an exact number in new memory. -/
def RetY (s : Int) (xs : List Int) (x : Int) (w : World) (e : Ending) (w' : World) : Prop := ∃ a c, e = .returned (.agg #[.int .i64 s, .slice a xs.length c, .int .i64 x]) ∧ xs.length ≤ c ∧ Own w' w.heap.size a xs ∧ Below w.heap.size w w'

set_option maxHeartbeats 400000 in
theorem szDy_ok (s : Int) (a : Option Addr) (n c : Nat) (x left : Int) (w : World) (h : (n : Int) ≤ left) (h0 : left ≤ 1048576) :
    Calls Tryd.prog 35 #[.agg #[.int .i64 s, .slice a n c, .int .i64 x], .int .i64 left] w (RetB (.int .i64 (left - n)) w) := by
  have H := Lib.hid fun W => szWhole_ok s a n c left W h h0
  have h1 : 0 ≤ left - (n : Int) := by omega
  have h2 : decide (left - (n : Int) < 0) = false := decide_eq_false (by omega)
  go_enter Tryd.func35, Tryd.ntmps35
  go_wp2_with fail
  refine (H.out _).mono ?_
  rintro e w' ⟨rfl, hb⟩
  have HB := Lib.hid (show Below w.heap.size w w' from Below.trans (by repeat (first | exact Below.refl _ _ | assumption | refine Below.alloc ?_ (by simp <;> omega) _ | refine Below.setCell ?_ (by simp <;> omega) _ | refine below_drewN ?_ _)) (hb.mono (by simp)))
  clear hb
  go_wp2_with fail
  go_ret
  exact ⟨rfl, HB.out⟩
set_option maxHeartbeats 400000 in
theorem szDy_no (s : Int) (a : Option Addr) (n c : Nat) (x left : Int) (w : World) (h : left < (n : Int)) (hn : n ≤ 9223372036854775807) (h0 : left ≤ 1048576) (h1 : 0 ≤ left) :
    Calls Tryd.prog 35 #[.agg #[.int .i64 s, .slice a n c, .int .i64 x], .int .i64 left] w (RetB (.int .i64 (-1)) w) := by
  have H := Lib.hid fun W => szWhole_no s a n c left W h hn h0 h1
  clear h hn h0
  go_enter Tryd.func35, Tryd.ntmps35
  go_wp2_with fail
  refine (H.out _).mono ?_
  rintro e w' ⟨rfl, hb⟩
  have HB := Lib.hid (show Below w.heap.size w w' from Below.trans (by repeat (first | exact Below.refl _ _ | assumption | refine Below.alloc ?_ (by simp <;> omega) _ | refine Below.setCell ?_ (by simp <;> omega) _ | refine below_drewN ?_ _)) (hb.mono (by simp)))
  clear hb
  go_wp2_with fail
  go_ret
  exact ⟨rfl, HB.out⟩

theorem three_boxT (w : World) (t1 t2 t3 : TypeId) (p q r : Array Value) : BoxAt (((w.alloc (.cells p t1)).alloc (.cells q t2)).alloc (.cells r t3)) w.heap.size t1 p ∧ BoxAt (((w.alloc (.cells p t1)).alloc (.cells q t2)).alloc (.cells r t3)) (w.heap.size + 1) t2 q ∧
    BoxAt (((w.alloc (.cells p t1)).alloc (.cells q t2)).alloc (.cells r t3)) (w.heap.size + 1 + 1) t3 r ∧ Below w.heap.size w (((w.alloc (.cells p t1)).alloc (.cells q t2)).alloc (.cells r t3)) ∧ (((w.alloc (.cells p t1)).alloc (.cells q t2)).alloc (.cells r t3)).heap.size = w.heap.size + 3 := by
  have h1 := BoxAt.new w t1 p
  have h2 := BoxAt.new (w.alloc (.cells p t1)) t2 q
  have h3 := BoxAt.new ((w.alloc (.cells p t1)).alloc (.cells q t2)) t3 r
  refine ⟨(h1.alloc _).alloc _, by simpa using h2.alloc _, by simpa using h3, (((Below.refl _ w).alloc (Nat.le_refl _) _).alloc (by simp) _).alloc (by simp; omega) _, by simp⟩
theorem BoxAt.tri {w : World} {g : Nat} {t : TypeId} {a b c : Value} (h : BoxAt w g t #[a, b, c]) : w.cell? ⟨g, 0, none⟩ = some a ∧ w.cell? ⟨g, 1, none⟩ = some b ∧ w.cell? ⟨g, 2, none⟩ = some c := ⟨h.cell 0, h.cell 1, h.cell 2⟩
theorem BoxAt.tri6 {w : World} {g : Nat} {t : TypeId} {a b c : Value} (h : BoxAt w g t #[a, b, c]) : w.cell? ⟨g, 0, none⟩ = some a ∧ w.cell? ⟨g, 1, none⟩ = some b ∧ w.cell? ⟨g, 2, none⟩ = some c ∧ w.frozen? ⟨g, 0, none⟩ = false ∧ w.frozen? ⟨g, 1, none⟩ = false ∧ w.frozen? ⟨g, 2, none⟩ = false :=
  ⟨h.cell 0, h.cell 1, h.cell 2, h.frozen 0, h.frozen 1, h.frozen 2⟩
/-- Three cells of a variable are written. -/
theorem Own.set3 {w : World} {lo : Nat} {a : Option Addr} {xs : List Int} {g : Nat} (h : Own w lo a xs) (hg : g < lo) (u v x : Value) : Own (((w.setCell ⟨g, 0, none⟩ u).setCell ⟨g, 1, none⟩ v).setCell ⟨g, 2, none⟩ x) lo a xs :=
  ((h.setFar (by simpa using hg) _).setFar (by simpa using hg) _).setFar (by simpa using hg) _
theorem Below.set3 {w W : World} {B g : Nat} (h : Below B w W) (hg : B ≤ g) (u v x : Value) : Below B w (((W.setCell ⟨g, 0, none⟩ u).setCell ⟨g, 1, none⟩ v).setCell ⟨g, 2, none⟩ x) :=
  ((h.setCell (by simpa using hg) _).setCell (by simpa using hg) _).setCell (by simpa using hg) _

set_option maxHeartbeats 1000000 in
theorem toDyadic (s : Int) (a : Option Addr) (xs : List Int) (c : Nat) (x : Int) (w : World) (B : Nat) (hB : B ≤ w.heap.size) (hl : xs.length ≤ 1048576) (hx : Ints w B a xs) :
    Calls Tryd.prog 37 #[.agg #[.int .i64 s, .slice a xs.length c, .int .i64 x]] w (RetY s xs x w) := by
  obtain ⟨W0, hW0⟩ : ∃ W0 : World, ((w.alloc (.cells #[.int .i64 s, .slice a xs.length c, .int .i64 x] 54)).alloc (.cells #[.int .i64 0, .slice none 0 0, .int .i64 0] 43)).alloc (.cells #[.int .i64 0, .slice none 0 0, .int .i64 0] 43) = W0 := ⟨_, rfl⟩
  obtain ⟨p1, p2, p5, p3, p4⟩ := three_boxT w 54 43 43 #[.int .i64 s, .slice a xs.length c, .int .i64 x] #[.int .i64 0, .slice none 0 0, .int .i64 0] #[.int .i64 0, .slice none 0 0, .int .i64 0]
  rw [hW0] at p1 p2 p3 p4 p5
  have HW0 := Lib.hid hW0
  have P3 := Lib.hid p3
  have P4 := Lib.hid p4
  have P1 := Lib.hid (fun W (hW : Below W0.heap.size W0 W) => (p1.below hW).tri)
  have P2 := Lib.hid (fun W (hW : Below W0.heap.size W0 W) => (p2.below hW).tri6)
  have P5 := Lib.hid (fun W (hW : Below W0.heap.size W0 W) => (p5.below hW).tri6)
  have hT : Below W0.heap.size W0 W0 := Below.refl _ _
  have H := Lib.hid (show ∀ W, Below W0.heap.size W0 W → Calls Tryd.prog 90 #[.agg #[.int .i64 s, .slice a xs.length c]] W fun e w' => ∃ a' c', e = .returned (.agg #[.int .i64 s, .slice a' xs.length c']) ∧ xs.length ≤ c' ∧ Own w' W0.heap.size a' xs ∧ Below W0.heap.size W0 w' from
    fun W hW => (toWhole s a xs c W B (by have := hW.size; omega) hl (hx.below ((p3.mono hB).trans (hW.mono (by omega))))).mono fun e w' ⟨a', c', he, hc, ho, hb⟩ => ⟨a', c', he, hc, ho.mono hW.size, hW.trans (hb.mono hW.size)⟩)
  obtain ⟨k1, k2, k3⟩ := P1.out _ hT
  clear p1 p2 p3 p4 p5 hx hl hB hW0
  go_enter Tryd.func37, Tryd.ntmps37
  go_wp2_with fail
  rw [HW0.out]
  refine (H.out _ hT).mono ?_
  rintro e w1 ⟨a1, c1, rfl, hc1, hown, hb⟩
  have HO := Lib.hid hown
  have HB := Lib.hid hb
  clear k1 k2 k3
  obtain ⟨k1, k2, k3⟩ := P1.out _ hb
  obtain ⟨q1, q2, q3, q4, q5, q6⟩ := P2.out _ hb
  obtain ⟨r1, r2, r3, r4, r5, r6⟩ := P5.out _ hb
  have HC := Lib.hid hc1
  clear hown hb hc1
  go_wp2_with fail
  refine bodyPost_ret (v := .agg #[.int .i64 s, .slice a1 xs.length c1, .int .i64 x]) (by simp [results, Tryd.results37, go_sem, *]) rfl ⟨a1, c1, rfl, HC.out, ?_, ?_⟩
  · have h4 := P4.out
    exact (Own.set3 (Own.set3 HO.out (by omega) _ _ _) (by omega) _ _ _).mono (by omega)
  · have h4 := P4.out
    exact Below.set3 (Below.set3 (P3.out.trans (HB.out.mono (by omega))) (by omega) _ _ _) (by omega) _ _ _

set_option maxHeartbeats 400000 in
theorem eqDyadic_yes (s : Int) (a b : Option Addr) (xs : List Int) (n c1 c2 : Nat) (x : Int) (hn : n = xs.length) (w : World) (B C : Nat) (hB : B ≤ w.heap.size) (hC : C ≤ w.heap.size) (hx : Ints w B a xs) (hy : Ints w C b xs) (hl : n ≤ 9223372036854775807) :
    Calls Tryd.prog 30 #[.agg #[.int .i64 s, .slice a n c1, .int .i64 x], .agg #[.int .i64 s, .slice b n c2, .int .i64 x]] w (RetB (.bool true) w) := by
  have H := Lib.hid fun W (hW : Below w.heap.size w W) => eqWhole_yes s a b xs n c1 c2 hn W B C (by have := hW.size; omega) (by have := hW.size; omega) (hx.below (hW.mono hB)) (hy.below (hW.mono hC)) hl
  clear hx hy hl hn
  have hz : (x != x) = false := by simp
  go_enter Tryd.func30, Tryd.ntmps30
  go_wp2_with fail
  refine (H.out _ (by repeat (first | exact Below.refl _ _ | assumption | refine Below.alloc ?_ (by simp <;> omega) _ | refine Below.setCell ?_ (by simp <;> omega) _ | refine below_drewN ?_ _))).mono ?_
  rintro e w1 ⟨rfl, hb⟩
  have HB := Lib.hid (show Below w.heap.size w w1 from Below.trans (by repeat (first | exact Below.refl _ _ | assumption | refine Below.alloc ?_ (by simp <;> omega) _ | refine Below.setCell ?_ (by simp <;> omega) _ | refine below_drewN ?_ _)) (hb.mono (by simp <;> omega)))
  obtain ⟨hc, hf⟩ := bcell hb
  clear hb
  go_wp2
  go_ret
  exact ⟨rfl, HB.out⟩

set_option maxHeartbeats 400000 in
theorem iBeyond (k l : Int) (w : World) (h0 : 0 ≤ l) (h1 : l ≤ 1000000) : Calls Tryd.prog 151 #[.int .i64 k, .int .i64 l] w fun e w' => e = .returned (.bool (decide (k < -l ∨ l < k))) ∧ w = w' := by
  by_cases hk : k < -l
  · have e : decide (k < -l ∨ l < k) = true := decide_eq_true (.inl hk)
    rw [e]
    go_enter Tryd.func151, Tryd.ntmps151
    go_wp2
    go_ret
    exact ⟨rfl, rfl⟩
  · have hd : decide (k < -l) = false := decide_eq_false hk
    by_cases hk2 : l < k
    · have e : decide (k < -l ∨ l < k) = true := decide_eq_true (.inr hk2)
      rw [e]
      have hd2 : decide (l < k) = true := decide_eq_true hk2
      go_enter Tryd.func151, Tryd.ntmps151
      go_wp2
      go_ret
      exact ⟨rfl, rfl⟩
    · have e : decide (k < -l ∨ l < k) = false := decide_eq_false (by omega)
      rw [e]
      have hd2 : decide (l < k) = false := decide_eq_false hk2
      go_enter Tryd.func151, Tryd.ntmps151
      go_wp2
      go_ret
      exact ⟨rfl, rfl⟩

theorem i64_and1 (y : Nat) : bits .and .i64 (y : Int) 1 = ((y % 2 : Nat) : Int) := by
  have hw : ((BitVec.ofInt 64 (y : Int) &&& BitVec.ofInt 64 1).toNat : Int) = ((y % 2 : Nat) : Int) := by
    have e : BitVec.ofInt 64 1 = BitVec.ofNat 64 (2^1-1) := by decide
    rw [e, BitVec.toNat_and, BitVec.toNat_ofInt, BitVec.toNat_ofNat, Nat.mod_eq_of_lt (show 2^1-1 < 2^64 by decide), Nat.and_two_pow_sub_one_eq_mod]
    omega
  show IntKind.i64.wrap ((BitVec.ofInt 64 (y : Int) &&& BitVec.ofInt 64 1).toNat : Int) = _
  rw [hw, IntKind.wrap_i64]
  omega

theorem sgn_ne {s : Int} {n : Nat} (h : IsWh s (lim n)) : s ≠ 0 ↔ n ≠ 0 := by
  obtain ⟨m, hm, _, hs⟩ := isWh_of h
  obtain rfl := lim_inj hm
  omega

/-- Whether a magnitude is odd. -/
theorem lim_getD (n : Nat) : (lim n).getD 0 0 = ((n % 16777216 : Nat) : Int) := by
  by_cases h : n = 0
  · subst h; rw [lim_zero]; rfl
  · rw [lim, dig_pos h]; rfl
set_option maxHeartbeats 400000 in
theorem iOdd (a : Option Addr) (n c1 : Nat) (w : World) (B : Nat) (hx : Ints w B a (lim n)) (hl : (lim n).length ≤ 1048576) :
    Calls Tryd.prog 152 #[.slice a (lim n).length c1] w fun e w' => e = .returned (.bool (decide (n % 2 = 1))) ∧ w = w' := by
  by_cases h0 : n = 0
  · have hz : (lim n).length = 0 := lim_len_zero.2 h0
    rw [hz]
    subst h0
    have e : decide (0 % 2 = 1) = false := by decide
    rw [e]
    clear hx hl hz
    go_enter Tryd.func152, Tryd.ntmps152
    go_wp2
    go_ret
    exact ⟨rfl, rfl⟩
  · have hpos : 0 < (lim n).length := by have := (not_congr (@lim_len_zero n)).2 h0; omega
    obtain ⟨b, o, ha, hcB, hcell⟩ := hx 0 hpos
    have hg : (lim n)[0] = (lim n).getD 0 0 := by simp [List.getD, List.getElem?_eq_getElem hpos]
    rw [hg, lim_getD, Nat.add_zero] at hcell
    subst ha
    obtain ⟨x, hxk⟩ : ∃ x : Nat, x = n % 16777216 := ⟨_, rfl⟩
    rw [← hxk] at hcell
    have hmod : n % 2 = x % 2 := by omega
    rw [hmod]
    have hand := i64_and1 x
    have hpI : (0 : Int) < ((lim n).length : Int) := by omega
    have hl2 : ((lim n).length : Int) ≤ 1048576 := by omega
    rcases Nat.mod_two_eq_zero_or_one x with h | h
    · rw [h] at hand ⊢
      clear hx hl hg hxk hmod h h0 hpos
      go_enter Tryd.func152, Tryd.ntmps152
      go_wp2
      go_ret
      exact ⟨rfl, rfl⟩
    · rw [h] at hand ⊢
      clear hx hl hg hxk hmod h h0 hpos
      go_enter Tryd.func152, Tryd.ntmps152
      go_wp2
      go_ret
      exact ⟨rfl, rfl⟩
end Go.Proofs.YtfjfmlofhifkmaaDoor
