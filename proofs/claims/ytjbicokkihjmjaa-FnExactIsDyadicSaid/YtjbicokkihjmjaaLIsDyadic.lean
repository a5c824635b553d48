/-
  The walk of laws.FnExactIsDyadic. Conditions: the limbs can be read.
-/
import Derived.Test.YtjbicokkihjmjaaOd
import Derived.Deep.DeepCutAuto
namespace Go.Proofs.Ytjbicokkihjmjaa
set_option linter.unusedVariables false
open Go Go.RowKit

set_option maxHeartbeats 1000000 in
theorem isDyadic_walk (s : Int) (a : Option Addr) (xs : List Int) (c : Nat) (x : Int) (w : World) (hl : xs.length ≤ 9223372036854775807) (hx : Ints w w.heap.size a xs) (bl : -9223372036854775808 ≤ x) (bh : x ≤ 9223372036854775807) :
    Calls Try.prog 8 #[.agg #[.int .i64 s, .slice a xs.length c, .int .i64 x]] w (LawDone w) := by
  by_cases hbig : (xs.length : Int) ≤ 1048576
  · have HX := Lib.hid hx
    have HL := Lib.hid hbig
    clear hx hl hbig
    have hneg : decide (1048576 - (xs.length : Int) < 0) = false := decide_eq_false (by have := HL.out; omega)
    have P0 := Lib.hid (BoxAt.new w 51 #[.int .i64 s, .slice a xs.length c, .int .i64 x])
    go_enter Try.func8, Try.ntmps8
    go_wp2_with fail
    refine (szDy_ok s a xs.length c x 1048576 _ HL.out (by omega)).mono ?_
    rintro e w1 ⟨rfl, hb1⟩
    have P1 := Lib.hid (P0.out.below hb1)
    have B1 := Lib.hid (((Below.refl _ w).alloc (Nat.le_refl _) _).trans (hb1.mono (by simp)))
    obtain ⟨k1, k2, k3⟩ := P1.out.tri
    have hz1 : w.heap.size + 1 ≤ w1.heap.size := by have := hb1.size; simp at this; omega
    clear hb1
    go_wp2_with fail
    refine (toDyadic s a xs c x w1 w.heap.size (by omega) (by have := HL.out; omega) (HX.out.below B1.out)).mono ?_
    rintro e w2 ⟨a2, c2, rfl, hcc2, hown2, hb2⟩
    clear k1 k2 k3
    have P2 := Lib.hid (P1.out.below hb2)
    have O2 := Lib.hid hown2
    have B2 := Lib.hid (B1.out.trans (hb2.mono (by omega)))
    obtain ⟨k1, k2, k3⟩ := P2.out.tri
    have hz2 : w.heap.size + 1 ≤ w2.heap.size := by have := hb2.size; omega
    clear hown2 hb2
    go_wp2_with fail
    refine (sIsDyadic s a2 xs c2 x w2 w2.heap.size (Nat.le_refl _) (by have := HL.out; omega) O2.out.ints).mono ?_
    rintro e w3 ⟨rfl, hb3⟩
    clear k1 k2 k3
    have P3 := Lib.hid (P2.out.below hb3)
    have B3 := Lib.hid (B2.out.trans (hb3.mono (by omega)))
    obtain ⟨k1, k2, k3⟩ := P3.out.tri
    have hz3 : w.heap.size + 1 ≤ w3.heap.size := by have := hb3.size; omega
    clear hb3
    go_wp2_with fail
    refine (toDyadic s a xs c x w3 w.heap.size (by omega) (by have := HL.out; omega) (HX.out.below B3.out)).mono ?_
    rintro e w4 ⟨a4, c4, rfl, hcc4, hown4, hb4⟩
    clear k1 k2 k3
    have P4 := Lib.hid (P3.out.below hb4)
    have O4 := Lib.hid hown4
    have B4 := Lib.hid (B3.out.trans (hb4.mono (by omega)))
    obtain ⟨k1, k2, k3⟩ := P4.out.tri
    have hz4 : w.heap.size + 1 ≤ w4.heap.size := by have := hb4.size; omega
    clear hown4 hb4
    have Q4 := Lib.hid (BoxAt.new w4 55 #[.int .i64 s, .slice a4 xs.length c4, .int .i64 x])
    go_wp2_with fail
    refine (iIsDyadic s a4 xs c4 x _ w4.heap.size (by simp) (by have := HL.out; omega) (O4.out.ints.alloc (Nat.le_refl _) _)).mono ?_
    rintro e w5 ⟨rfl, hb5⟩
    clear k1 k2 k3
    have P5 := Lib.hid ((P4.out.alloc _).below hb5)
    have O5 := Lib.hid ((O4.out.alloc _).below hb5)
    have Q5 := Lib.hid (Q4.out.below hb5)
    have B5 := Lib.hid ((B4.out.alloc (by omega) _).trans (hb5.mono (by simp; omega)))
    have hz5 : w.heap.size + 1 ≤ w5.heap.size ∧ w4.heap.size + 1 ≤ w5.heap.size := by have := hb5.size; simp at this; omega
    obtain ⟨hz5, hz5'⟩ := hz5
    obtain ⟨k1, k2, k3⟩ := P5.out.tri
    obtain ⟨q1, q2, q3⟩ := Q5.out.tri
    have he : (dyB s xs x != dyB s xs x) = false := by simp
    have SS := Lib.hid (show ∀ W, Below w5.heap.size w5 W → (Below w5.heap.size w5 W ∧ W.cell? ⟨w.heap.size, 0, none⟩ = some (.int .i64 s) ∧ W.cell? ⟨w.heap.size, 1, none⟩ = some (.slice a xs.length c) ∧ W.cell? ⟨w.heap.size, 2, none⟩ = some (.int .i64 x) ∧ W.cell? ⟨w4.heap.size, 0, none⟩ = some (.int .i64 s) ∧ W.cell? ⟨w4.heap.size, 1, none⟩ = some (.slice a4 xs.length c4) ∧ W.cell? ⟨w4.heap.size, 2, none⟩ = some (.int .i64 x)) from
      fun W hW => ⟨hW, (P5.out.below hW).cell 0, (P5.out.below hW).cell 1, (P5.out.below hW).cell 2, (Q5.out.below hW).cell 0, (Q5.out.below hW).cell 1, (Q5.out.below hW).cell 2⟩)
    clear hb5 k1 k2 k3 q1 q2 q3
    go_wp2_with fail
    go_region_held3 (fun W => Below w5.heap.size w5 W ∧ W.cell? ⟨w.heap.size, 0, none⟩ = some (.int .i64 s) ∧ W.cell? ⟨w.heap.size, 1, none⟩ = some (.slice a xs.length c) ∧ W.cell? ⟨w.heap.size, 2, none⟩ = some (.int .i64 x) ∧ W.cell? ⟨w4.heap.size, 0, none⟩ = some (.int .i64 s) ∧ W.cell? ⟨w4.heap.size, 1, none⟩ = some (.slice a4 xs.length c4) ∧ W.cell? ⟨w4.heap.size, 2, none⟩ = some (.int .i64 x))
      (first | exact SS.out _ (Below.refl _ _).drew | exact SS.out _ (by assumption))
      (first
      | (go_at_call 41; refine (toDyadic s a xs c x _ w.heap.size (by have := (And.left (by assumption : Below w5.heap.size w5 _ ∧ _)).size; omega) (by have := HL.out; omega) (HX.out.below (B5.out.trans (Below.mono (B := w5.heap.size) (And.left (by assumption)) (by omega))))).mono ?_; rintro e w6 ⟨a6, c6, rfl, hcc6, hown6, hb6⟩; have hbel := (And.left (by assumption : Below w5.heap.size w5 _ ∧ _)).trans (hb6.mono (And.left (by assumption : Below w5.heap.size w5 _ ∧ _)).size))
      | (go_at_call 43; refine (eqDyadic_yes s a4 _ xs xs.length c4 _ x rfl _ w5.heap.size _ (And.left (by assumption : Below w5.heap.size w5 _ ∧ _)).size (Nat.le_refl _) (O5.out.ints.below (And.left (by assumption))) (Own.ints (by assumption)) (by have := HL.out; omega)).mono ?_; rintro e w7 ⟨rfl, hb7⟩; have hbel := (And.left (by assumption : Below w5.heap.size w5 _ ∧ _)).trans (hb7.mono (And.left (by assumption : Below w5.heap.size w5 _ ∧ _)).size)))
    have B7 := Lib.hid (B5.out.trans (Below.mono hbel (by omega) : Below w.heap.size w5 w7))
    clear hown6 hb6 hb7 hbel
    go_wp2_with fail
    go_ret
    exact ⟨rfl, B7.out⟩
  · have hlt : (1048576 : Int) < (xs.length : Int) := by omega
    clear hx hbig
    go_enter Try.func8, Try.ntmps8
    go_wp2_with fail
    refine (szDy_no s a xs.length c x 1048576 _ hlt hl (by omega) (by omega)).mono ?_
    rintro e w1 ⟨rfl, hb1⟩
    have B1 := Lib.hid (((Below.refl _ w).alloc (Nat.le_refl _) _).trans (hb1.mono (by simp)))
    clear hb1
    go_wp2_with fail
    go_ret
    exact ⟨rfl, B1.out⟩
end Go.Proofs.Ytjbicokkihjmjaa
