/-
  The walk of laws.FnExactCompareDyadics. Conditions: the limbs can be read; the library's table is as its initialiser lays it.
-/
import Derived.Test.YtiohacnkiikmcaaDoorQi
import Derived.Deep.DeepCutAuto
import Derived.Deep.RegionHeld3
namespace Go.Proofs.YtiohacnkiikmcaaDoor
set_option linter.unusedVariables false
open Go Go.RowKit

set_option maxRecDepth 100000 in
set_option maxHeartbeats 8000000 in
theorem CompareDyadics_walk (s0 : Int) (a0 : Option Addr) (xs0 : List Int) (c0 : Nat) (ex0 : Int) (s1 : Int) (a1 : Option Addr) (xs1 : List Int) (c1 : Nat) (ex1 : Int) (w : World) (hl0 : xs0.length ≤ 9223372036854775807) (hx0 : Ints w w.heap.size a0 xs0) (bl0 : -9223372036854775808 ≤ ex0) (bh0 : ex0 ≤ 9223372036854775807) (hl1 : xs1.length ≤ 9223372036854775807) (hx1 : Ints w w.heap.size a1 xs1) (bl1 : -9223372036854775808 ≤ ex1) (bh1 : ex1 ≤ 9223372036854775807) (hTab : Tab w) :
    Calls Tryd.prog 3 #[.agg #[.int .i64 s0, .slice a0 xs0.length c0, .int .i64 ex0], .agg #[.int .i64 s1, .slice a1 xs1.length c1, .int .i64 ex1]] w (LawDone w) := by
  by_cases hbig : (xs0.length : Int) + (xs1.length : Int) ≤ 1048576
  · have HL := Lib.hid hbig
    obtain ⟨⟨r1, r2⟩, hr⟩ : ∃ r : Int × Int, r = cmpY subW s0 xs0 ex0 s1 xs1 ex1 := ⟨_, rfl⟩
    obtain ⟨W0, hW0⟩ : ∃ W0 : World, ((w.alloc (.cells #[.int .i64 s0, .slice a0 xs0.length c0, .int .i64 ex0] 26)).alloc (.cells #[.int .i64 s1, .slice a1 xs1.length c1, .int .i64 ex1] 26)) = W0 := ⟨_, rfl⟩
    obtain ⟨p0, p1, p8, p9⟩ := two_box w 26 #[.int .i64 s0, .slice a0 xs0.length c0, .int .i64 ex0] #[.int .i64 s1, .slice a1 xs1.length c1, .int .i64 ex1]
    rw [hW0] at p0 p1 p8 p9
    have HW0 := Lib.hid hW0
    have P3 := Lib.hid p8
    have P4 := Lib.hid p9
    have SS := Lib.hid (show ∀ W, Below W0.heap.size W0 W → (W.cell? ⟨w.heap.size, 0, none⟩ = some (.int .i64 s0) ∧ W.cell? ⟨w.heap.size, 1, none⟩ = some (.slice a0 xs0.length c0) ∧ W.cell? ⟨w.heap.size, 2, none⟩ = some (.int .i64 ex0) ∧ W.cell? ⟨w.heap.size + 1, 0, none⟩ = some (.int .i64 s1) ∧ W.cell? ⟨w.heap.size + 1, 1, none⟩ = some (.slice a1 xs1.length c1) ∧ W.cell? ⟨w.heap.size + 1, 2, none⟩ = some (.int .i64 ex1)) from fun W hW => ⟨(p0.below hW).cell 0, (p0.below hW).cell 1, (p0.below hW).cell 2, (p1.below hW).cell 0, (p1.below hW).cell 1, (p1.below hW).cell 2⟩)
    have HTB := Lib.hid (show ∀ W, Below W0.heap.size W0 W → Tab W from fun W hW => (hTab.below p8).below hW)
    clear hTab
    have HT0 := Lib.hid (show ∀ W, Below W0.heap.size W0 W → Calls Tryd.prog 7 #[.agg #[.int .i64 s0, .slice a0 xs0.length c0, .int .i64 ex0]] W fun e w' => ∃ a' c', e = .returned (.agg #[.int .i64 s0, .slice a' xs0.length c', .int .i64 ex0]) ∧ xs0.length ≤ c' ∧ Own2 w' W.heap.size w'.heap.size a' xs0 ∧ Below W.heap.size W w' ∧ Below W0.heap.size W0 w' from
      fun W hW => (toDyadic s0 a0 xs0 c0 ex0 W w.heap.size (by have := hW.size; omega) (by omega) (hx0.below (p8.trans (hW.mono (by omega))))).mono fun e w' ⟨a, c, he, hc, ho, hb⟩ => ⟨a, c, he, hc, Own2.of ho, hb, hW.trans (hb.mono hW.size)⟩)
    have HT1 := Lib.hid (show ∀ W, Below W0.heap.size W0 W → Calls Tryd.prog 7 #[.agg #[.int .i64 s1, .slice a1 xs1.length c1, .int .i64 ex1]] W fun e w' => ∃ a' c', e = .returned (.agg #[.int .i64 s1, .slice a' xs1.length c', .int .i64 ex1]) ∧ xs1.length ≤ c' ∧ Own2 w' W.heap.size w'.heap.size a' xs1 ∧ Below W.heap.size W w' ∧ Below W0.heap.size W0 w' from
      fun W hW => (toDyadic s1 a1 xs1 c1 ex1 W w.heap.size (by have := hW.size; omega) (by omega) (hx1.below (p8.trans (hW.mono (by omega))))).mono fun e w' ⟨a, c, he, hc, ho, hb⟩ => ⟨a, c, he, hc, Own2.of ho, hb, hW.trans (hb.mono hW.size)⟩)
    have HSP := Lib.hid (show ∀ (b0 : Option Addr) (d0 : Nat) (b1 : Option Addr) (d1 : Nat) W, Below W0.heap.size W0 W → xs0.length ≤ d0 → xs1.length ≤ d1 → Ints W W.heap.size b0 xs0 → Ints W W.heap.size b1 xs1 → Calls Tryd.prog 6 #[.agg #[.int .i64 s0, .slice b0 xs0.length d0, .int .i64 ex0], .agg #[.int .i64 s1, .slice b1 xs1.length d1, .int .i64 ex1]] W fun e w' => e = .returned (.tuple #[.int .i64 r1, .int .i64 r2]) ∧ Below W.heap.size W w' ∧ Below W0.heap.size W0 w' from
      fun b0 d0 b1 d1 W hW h0 h1 i0 i1 => by
        have := sCompareDyadics s0 b0 xs0 d0 ex0 s1 b1 xs1 d1 ex1 W _ _ (Nat.le_refl _) (Nat.le_refl _) i0 i1 hl0 hl1 h0 h1
        rw [← hr] at this
        exact this.mono fun e w' ⟨he, hb⟩ => ⟨he, hb, hW.trans (hb.mono hW.size)⟩)
    have HIM := Lib.hid (show ∀ (b0 : Option Addr) (d0 : Nat) (b1 : Option Addr) (d1 : Nat) W, Below W0.heap.size W0 W → xs0.length ≤ d0 → xs1.length ≤ d1 → Ints W W.heap.size b0 xs0 → Ints W W.heap.size b1 xs1 → Calls Tryd.prog 8 #[.agg #[.int .i64 s0, .slice b0 xs0.length d0, .int .i64 ex0], .agg #[.int .i64 s1, .slice b1 xs1.length d1, .int .i64 ex1]] W fun e w' => e = .returned (.tuple #[.int .i64 r1, .int .i64 r2]) ∧ Below W.heap.size W w' ∧ Below W0.heap.size W0 w' from
      fun b0 d0 b1 d1 W hW h0 h1 i0 i1 => by
        have := iCompareDyadics s0 b0 xs0 d0 ex0 s1 b1 xs1 d1 ex1 W _ _ (Nat.le_refl _) (Nat.le_refl _) i0 i1 hl0 hl1 (HTB.out W hW)
        rw [← hr] at this
        exact this.mono fun e w' ⟨he, hb⟩ => ⟨he, hb, hW.trans (hb.mono hW.size)⟩)
    have hT : Below W0.heap.size W0 W0 := Below.refl _ _
    have hn0 : decide (1048576 - (xs0.length : Int) < 0) = false := decide_eq_false (by omega)
    have hn1 : decide (1048576 - (xs0.length : Int) - (xs1.length : Int) < 0) = false := decide_eq_false (by omega)
    have HN0 := Lib.hid (show xs0.length ≤ 1048576 by omega)
    have HN1 := Lib.hid (show xs1.length ≤ 1048576 by omega)
    have hr1 : (r1 != r1) = false := by simp
    have hr2 : (r2 != r2) = false := by simp
    clear p0 p1 p8 p9 hx0 hx1 hW0 hl0 hl1 hbig hr
    go_enter Tryd.func3, Tryd.ntmps3
    go_wp2_with fail
    rw [HW0.out]
    refine (szDy_ok s0 a0 xs0.length c0 ex0 (1048576) _ (by have := HL.out; omega) (by omega)).mono ?_
    rintro e w1 ⟨rfl, hb⟩
    have hU1 : Below W0.heap.size W0 w1 := hT.trans (hb.mono hT.size)
    clear hb
    obtain ⟨k0, k1, k2, k3, k4, k5⟩ := SS.out _ hU1
    go_wp2_with fail
    refine (szDy_ok s1 a1 xs1.length c1 ex1 (1048576 - (xs0.length : Int)) _ (by have := HL.out; omega) (by omega)).mono ?_
    rintro e w2 ⟨rfl, hb⟩
    clear k0 k1 k2 k3 k4 k5
    have hU2 : Below W0.heap.size W0 w2 := hU1.trans (hb.mono hU1.size)
    clear hb
    obtain ⟨k0, k1, k2, k3, k4, k5⟩ := SS.out _ hU2
    go_wp2_with fail
    have hTd := hU2.drew
    clear k0 k1 k2 k3 k4 k5
    go_region_held3 (fun W => W.cell? ⟨w.heap.size, 0, none⟩ = some (.int .i64 s0) ∧ W.cell? ⟨w.heap.size, 1, none⟩ = some (.slice a0 xs0.length c0) ∧ W.cell? ⟨w.heap.size, 2, none⟩ = some (.int .i64 ex0) ∧ W.cell? ⟨w.heap.size + 1, 0, none⟩ = some (.int .i64 s1) ∧ W.cell? ⟨w.heap.size + 1, 1, none⟩ = some (.slice a1 xs1.length c1) ∧ W.cell? ⟨w.heap.size + 1, 2, none⟩ = some (.int .i64 ex1))
      (exact SS.out _ (by assumption))
      (first
      | (go_at_call 7; with_reducible refine (HT0.out _ (by assumption)).mono ?_; rintro e v1 ⟨e1, f1, rfl, hc1, ho1, hbb1, hbz1⟩)
      | (go_at_call 7; with_reducible refine (HT1.out _ (by assumption)).mono ?_; rintro e v2 ⟨e2, f2, rfl, hc2, ho2, hbb2, hbz2⟩; have ho12 := Own2.below ho1 hbb2 (by simp))
      | (go_at_call 6; with_reducible refine (HSP.out _ _ _ _ _ (by assumption) hc1 hc2 (Own2.own ho12).ints (Own2.own ho2).ints).mono ?_; rintro e wc ⟨rfl, hbb, hU⟩))
    have hWs := hU.size
    have hU' := Lib.hid hU
    clear hU hbb hTd hbb1 hbz1 hc1 hbb2 hbz2 hc2 ho1 ho2 ho12
    clear hU1
    clear hU2
    clear HSP hT HL
    obtain ⟨x1_0, x1_1, x1_2, x1_3, x1_4, x1_5⟩ := SS.out _ hU'.out
    go_wp2_with fail
    refine (HT0.out _ hU'.out).mono ?_
    rintro e wx1 ⟨b0, d0, rfl, hd0, ho, hb, hz⟩
    have hsz_wx1 := hb.size
    (try simp at hsz_wx1)
    clear x1_0 x1_1 x1_2 x1_3 x1_4 x1_5
    clear hU'
    have hU_wx1 := Lib.hid hz
    have OX0 := Lib.hid ho
    have HD0 := Lib.hid hd0
    clear ho hb hz hd0
    have OX0_2 := Lib.hid (OX0.out.alloc (.cells #[.int .i64 s0, .slice b0 xs0.length d0, .int .i64 ex0] 32))
    clear OX0
    have hU_3 := Lib.hid (below_alloc hU_wx1.out (.cells #[.int .i64 s0, .slice b0 xs0.length d0, .int .i64 ex0] 32))
    clear hU_wx1
    have BX0 := Lib.hid (BoxAt.new wx1 32 #[.int .i64 s0, .slice b0 xs0.length d0, .int .i64 ex0])
    obtain ⟨x4_0, x4_1, x4_2, x4_3, x4_4, x4_5⟩ := SS.out _ hU_3.out
    go_wp2_with fail
    refine (HT1.out _ hU_3.out).mono ?_
    rintro e wx2 ⟨b1, d1, rfl, hd1, ho, hb, hz⟩
    have hsz_wx2 := hb.size
    (try simp at hsz_wx2)
    clear x4_0 x4_1 x4_2 x4_3 x4_4 x4_5
    have BX0_5 := Lib.hid (BX0.out.below hb)
    have OX0_6 := Lib.hid (OX0_2.out.below hb (by first | omega | (simp; done) | (simp; omega)))
    clear BX0 OX0_2
    clear hU_3
    have hU_wx2 := Lib.hid hz
    have OX1 := Lib.hid ho
    have HD1 := Lib.hid hd1
    clear ho hb hz hd1
    have BX0_7 := Lib.hid (BX0_5.out.alloc (.cells #[.int .i64 s1, .slice b1 xs1.length d1, .int .i64 ex1] 32))
    have OX0_8 := Lib.hid (OX0_6.out.alloc (.cells #[.int .i64 s1, .slice b1 xs1.length d1, .int .i64 ex1] 32))
    have OX1_9 := Lib.hid (OX1.out.alloc (.cells #[.int .i64 s1, .slice b1 xs1.length d1, .int .i64 ex1] 32))
    clear BX0_5 OX0_6 OX1
    have hU_10 := Lib.hid (below_alloc hU_wx2.out (.cells #[.int .i64 s1, .slice b1 xs1.length d1, .int .i64 ex1] 32))
    clear hU_wx2
    have BX1 := Lib.hid (BoxAt.new wx2 32 #[.int .i64 s1, .slice b1 xs1.length d1, .int .i64 ex1])
    obtain ⟨y11_0, y11_1, y11_2, y11_3, y11_4, y11_5⟩ := BX0_7.out.tri6
    obtain ⟨y12_0, y12_1, y12_2, y12_3, y12_4, y12_5⟩ := BX1.out.tri6
    go_wp2_with fail
    refine (HIM.out _ _ _ _ _ hU_10.out HD0.out HD1.out (Own2.own OX0_8.out).ints (Own2.own OX1_9.out).ints).mono ?_
    rintro e wg ⟨rfl, hb, hz⟩
    have hsz_g := hb.size
    (try simp at hsz_g)
    clear y11_0 y11_1 y11_2 y11_3 y11_4 y11_5 y12_0 y12_1 y12_2 y12_3 y12_4 y12_5
    have BX0_13 := Lib.hid (BX0_7.out.below hb)
    have BX1_14 := Lib.hid (BX1.out.below hb)
    have OX0_15 := Lib.hid (OX0_8.out.below hb (by first | omega | (simp; done) | (simp; omega)))
    have OX1_16 := Lib.hid (OX1_9.out.below hb (by first | omega | (simp; done) | (simp; omega)))
    clear BX0_7 BX1 OX0_8 OX1_9
    clear hU_10
    have hU_g := Lib.hid hz
    clear hb hz
    obtain ⟨x17_0, x17_1, x17_2, x17_3, x17_4, x17_5⟩ := SS.out _ hU_g.out
    have SX := Lib.hid (show ∀ W, Below wg.heap.size wg W → (W.cell? ⟨w.heap.size, 0, none⟩ = some (.int .i64 s0) ∧ W.cell? ⟨w.heap.size, 1, none⟩ = some (.slice a0 xs0.length c0) ∧ W.cell? ⟨w.heap.size, 2, none⟩ = some (.int .i64 ex0) ∧ W.cell? ⟨w.heap.size + 1, 0, none⟩ = some (.int .i64 s1) ∧ W.cell? ⟨w.heap.size + 1, 1, none⟩ = some (.slice a1 xs1.length c1) ∧ W.cell? ⟨w.heap.size + 1, 2, none⟩ = some (.int .i64 ex1) ∧ W.cell? ⟨wx1.heap.size, 0, none⟩ = some (.int .i64 s0) ∧ W.cell? ⟨wx1.heap.size, 1, none⟩ = some (.slice b0 xs0.length d0) ∧ W.cell? ⟨wx1.heap.size, 2, none⟩ = some (.int .i64 ex0)) from fun W hW => ⟨(SS.out _ (hU_g.out.trans (hW.mono hU_g.out.size))).1, (SS.out _ (hU_g.out.trans (hW.mono hU_g.out.size))).2.1, (SS.out _ (hU_g.out.trans (hW.mono hU_g.out.size))).2.2.1, (SS.out _ (hU_g.out.trans (hW.mono hU_g.out.size))).2.2.2.1, (SS.out _ (hU_g.out.trans (hW.mono hU_g.out.size))).2.2.2.2.1, (SS.out _ (hU_g.out.trans (hW.mono hU_g.out.size))).2.2.2.2.2, (BX0_13.out.below hW).cell 0, (BX0_13.out.below hW).cell 1, (BX0_13.out.below hW).cell 2⟩)
    have TX := Lib.hid (show ∀ W, Below wg.heap.size wg W → Calls Tryd.prog 7 #[.agg #[.int .i64 s0, .slice a0 xs0.length c0, .int .i64 ex0]] W fun e w' => ∃ a' c', e = .returned (.agg #[.int .i64 s0, .slice a' xs0.length c', .int .i64 ex0]) ∧ Own w' W.heap.size a' xs0 ∧ Below wg.heap.size wg w' from fun W hW => (HT0.out W (hU_g.out.trans (hW.mono hU_g.out.size))).mono fun e w' ⟨a, c, he, _, ho, hb, _⟩ => ⟨a, c, he, ho.own, hW.trans (hb.mono hW.size)⟩)
    have EX := Lib.hid (show ∀ a' c' lo W, Below wg.heap.size wg W → Own W lo a' xs0 → Calls Tryd.prog 9 #[.agg #[.int .i64 s0, .slice b0 xs0.length d0, .int .i64 ex0], .agg #[.int .i64 s0, .slice a' xs0.length c', .int .i64 ex0]] W fun e w' => e = .returned (.bool true) ∧ Below wg.heap.size wg w' from fun a' c' lo W hW ho => (eqDyadic_yes s0 _ _ xs0 _ _ _ ex0 rfl _ _ _ hW.size (Nat.le_refl _) ((Own2.own OX0_15.out).ints.below hW) ho.ints (by have := HN0.out; omega)).mono fun e w' ⟨he, hb⟩ => ⟨he, hW.trans (hb.mono hW.size)⟩)
    have hTT : Below wg.heap.size wg wg.drew := (Below.refl _ _).drew
    clear x17_0 x17_1 x17_2 x17_3 x17_4 x17_5
    go_wp2_with fail
    go_region_held3 (fun W => W.cell? ⟨w.heap.size, 0, none⟩ = some (.int .i64 s0) ∧ W.cell? ⟨w.heap.size, 1, none⟩ = some (.slice a0 xs0.length c0) ∧ W.cell? ⟨w.heap.size, 2, none⟩ = some (.int .i64 ex0) ∧ W.cell? ⟨w.heap.size + 1, 0, none⟩ = some (.int .i64 s1) ∧ W.cell? ⟨w.heap.size + 1, 1, none⟩ = some (.slice a1 xs1.length c1) ∧ W.cell? ⟨w.heap.size + 1, 2, none⟩ = some (.int .i64 ex1) ∧ W.cell? ⟨wx1.heap.size, 0, none⟩ = some (.int .i64 s0) ∧ W.cell? ⟨wx1.heap.size, 1, none⟩ = some (.slice b0 xs0.length d0) ∧ W.cell? ⟨wx1.heap.size, 2, none⟩ = some (.int .i64 ex0))
      (exact SX.out _ (by assumption))
      (first
      | (go_at_call 7; refine (TX.out _ (by assumption)).mono ?_; rintro e u1_0 ⟨e1, f1, rfl, ho1, hb1⟩)
      | (go_at_call 9; refine (EX.out _ _ _ _ (by assumption) (by assumption)).mono ?_; rintro e wd0 ⟨rfl, hbd⟩))
    have hsz_d0 := hbd.size
    have hU_18 := Lib.hid (hU_g.out.trans (hbd.mono hU_g.out.size))
    clear hU_g
    have BX0_19 := Lib.hid (BX0_13.out.below hbd)
    have BX1_20 := Lib.hid (BX1_14.out.below hbd)
    have OX0_21 := Lib.hid (OX0_15.out.below hbd (by first | omega | (simp; done) | (simp; omega)))
    have OX1_22 := Lib.hid (OX1_16.out.below hbd (by first | omega | (simp; done) | (simp; omega)))
    clear BX0_13 BX1_14 OX0_15 OX1_16
    clear ho1 hb1 hbd hTT SX TX EX
    obtain ⟨x23_0, x23_1, x23_2, x23_3, x23_4, x23_5⟩ := SS.out _ hU_18.out
    have SX := Lib.hid (show ∀ W, Below wd0.heap.size wd0 W → (W.cell? ⟨w.heap.size, 0, none⟩ = some (.int .i64 s0) ∧ W.cell? ⟨w.heap.size, 1, none⟩ = some (.slice a0 xs0.length c0) ∧ W.cell? ⟨w.heap.size, 2, none⟩ = some (.int .i64 ex0) ∧ W.cell? ⟨w.heap.size + 1, 0, none⟩ = some (.int .i64 s1) ∧ W.cell? ⟨w.heap.size + 1, 1, none⟩ = some (.slice a1 xs1.length c1) ∧ W.cell? ⟨w.heap.size + 1, 2, none⟩ = some (.int .i64 ex1) ∧ W.cell? ⟨wx2.heap.size, 0, none⟩ = some (.int .i64 s1) ∧ W.cell? ⟨wx2.heap.size, 1, none⟩ = some (.slice b1 xs1.length d1) ∧ W.cell? ⟨wx2.heap.size, 2, none⟩ = some (.int .i64 ex1)) from fun W hW => ⟨(SS.out _ (hU_18.out.trans (hW.mono hU_18.out.size))).1, (SS.out _ (hU_18.out.trans (hW.mono hU_18.out.size))).2.1, (SS.out _ (hU_18.out.trans (hW.mono hU_18.out.size))).2.2.1, (SS.out _ (hU_18.out.trans (hW.mono hU_18.out.size))).2.2.2.1, (SS.out _ (hU_18.out.trans (hW.mono hU_18.out.size))).2.2.2.2.1, (SS.out _ (hU_18.out.trans (hW.mono hU_18.out.size))).2.2.2.2.2, (BX1_20.out.below hW).cell 0, (BX1_20.out.below hW).cell 1, (BX1_20.out.below hW).cell 2⟩)
    have TX := Lib.hid (show ∀ W, Below wd0.heap.size wd0 W → Calls Tryd.prog 7 #[.agg #[.int .i64 s1, .slice a1 xs1.length c1, .int .i64 ex1]] W fun e w' => ∃ a' c', e = .returned (.agg #[.int .i64 s1, .slice a' xs1.length c', .int .i64 ex1]) ∧ Own w' W.heap.size a' xs1 ∧ Below wd0.heap.size wd0 w' from fun W hW => (HT1.out W (hU_18.out.trans (hW.mono hU_18.out.size))).mono fun e w' ⟨a, c, he, _, ho, hb, _⟩ => ⟨a, c, he, ho.own, hW.trans (hb.mono hW.size)⟩)
    have EX := Lib.hid (show ∀ a' c' lo W, Below wd0.heap.size wd0 W → Own W lo a' xs1 → Calls Tryd.prog 9 #[.agg #[.int .i64 s1, .slice b1 xs1.length d1, .int .i64 ex1], .agg #[.int .i64 s1, .slice a' xs1.length c', .int .i64 ex1]] W fun e w' => e = .returned (.bool true) ∧ Below wd0.heap.size wd0 w' from fun a' c' lo W hW ho => (eqDyadic_yes s1 _ _ xs1 _ _ _ ex1 rfl _ _ _ hW.size (Nat.le_refl _) ((Own2.own OX1_22.out).ints.below hW) ho.ints (by have := HN1.out; omega)).mono fun e w' ⟨he, hb⟩ => ⟨he, hW.trans (hb.mono hW.size)⟩)
    have hTT : Below wd0.heap.size wd0 wd0.drew := (Below.refl _ _).drew
    clear x23_0 x23_1 x23_2 x23_3 x23_4 x23_5
    go_wp2_with fail
    go_region_held3 (fun W => W.cell? ⟨w.heap.size, 0, none⟩ = some (.int .i64 s0) ∧ W.cell? ⟨w.heap.size, 1, none⟩ = some (.slice a0 xs0.length c0) ∧ W.cell? ⟨w.heap.size, 2, none⟩ = some (.int .i64 ex0) ∧ W.cell? ⟨w.heap.size + 1, 0, none⟩ = some (.int .i64 s1) ∧ W.cell? ⟨w.heap.size + 1, 1, none⟩ = some (.slice a1 xs1.length c1) ∧ W.cell? ⟨w.heap.size + 1, 2, none⟩ = some (.int .i64 ex1) ∧ W.cell? ⟨wx2.heap.size, 0, none⟩ = some (.int .i64 s1) ∧ W.cell? ⟨wx2.heap.size, 1, none⟩ = some (.slice b1 xs1.length d1) ∧ W.cell? ⟨wx2.heap.size, 2, none⟩ = some (.int .i64 ex1))
      (exact SX.out _ (by assumption))
      (first
      | (go_at_call 7; refine (TX.out _ (by assumption)).mono ?_; rintro e u1_1 ⟨e1, f1, rfl, ho1, hb1⟩)
      | (go_at_call 9; refine (EX.out _ _ _ _ (by assumption) (by assumption)).mono ?_; rintro e wd1 ⟨rfl, hbd⟩))
    have hsz_d1 := hbd.size
    have hU_24 := Lib.hid (hU_18.out.trans (hbd.mono hU_18.out.size))
    clear hU_18
    have BX0_25 := Lib.hid (BX0_19.out.below hbd)
    have BX1_26 := Lib.hid (BX1_20.out.below hbd)
    have OX0_27 := Lib.hid (OX0_21.out.below hbd (by first | omega | (simp; done) | (simp; omega)))
    have OX1_28 := Lib.hid (OX1_22.out.below hbd (by first | omega | (simp; done) | (simp; omega)))
    clear BX0_19 BX1_20 OX0_21 OX1_22
    clear ho1 hb1 hbd hTT SX TX EX
    go_wp2_with fail
    go_ret
    exact ⟨rfl, P3.out.trans (hU_24.out.mono (by have := P4.out; omega))⟩
  · have hT : Below w.heap.size w w := Below.refl _ _
    obtain ⟨W0, hW0⟩ : ∃ W0 : World, ((w.alloc (.cells #[.int .i64 s0, .slice a0 xs0.length c0, .int .i64 ex0] 26)).alloc (.cells #[.int .i64 s1, .slice a1 xs1.length c1, .int .i64 ex1] 26)) = W0 := ⟨_, rfl⟩
    obtain ⟨p0, p1, p8, p9⟩ := two_box w 26 #[.int .i64 s0, .slice a0 xs0.length c0, .int .i64 ex0] #[.int .i64 s1, .slice a1 xs1.length c1, .int .i64 ex1]
    rw [hW0] at p0 p1 p8 p9
    have HW0 := Lib.hid hW0
    have P3 := Lib.hid p8
    have P4 := Lib.hid p9
    have SS := Lib.hid (show ∀ W, Below W0.heap.size W0 W → (W.cell? ⟨w.heap.size, 0, none⟩ = some (.int .i64 s0) ∧ W.cell? ⟨w.heap.size, 1, none⟩ = some (.slice a0 xs0.length c0) ∧ W.cell? ⟨w.heap.size, 2, none⟩ = some (.int .i64 ex0) ∧ W.cell? ⟨w.heap.size + 1, 0, none⟩ = some (.int .i64 s1) ∧ W.cell? ⟨w.heap.size + 1, 1, none⟩ = some (.slice a1 xs1.length c1) ∧ W.cell? ⟨w.heap.size + 1, 2, none⟩ = some (.int .i64 ex1)) from fun W hW => ⟨(p0.below hW).cell 0, (p0.below hW).cell 1, (p0.below hW).cell 2, (p1.below hW).cell 0, (p1.below hW).cell 1, (p1.below hW).cell 2⟩)
    clear hT hW0 p8 p9 p0 p1 hx0 hx1
    by_cases hf : (xs0.length : Int) ≤ 1048576
    · have hn : decide (1048576 - (xs0.length : Int) < 0) = false := decide_eq_false (by omega)
      go_enter Tryd.func3, Tryd.ntmps3
      go_wp2_with fail
      rw [HW0.out]
      refine (szDy_ok s0 a0 xs0.length c0 ex0 (1048576) _ (by omega) (by omega)).mono ?_
      rintro e w1 ⟨rfl, hb⟩
      have hU1 : Below W0.heap.size W0 w1 := Below.trans (Below.refl W0.heap.size W0) (hb.mono (Below.size (Below.refl W0.heap.size W0)))
      clear hb
      obtain ⟨k0, k1, k2, k3, k4, k5⟩ := SS.out _ hU1
      go_wp2_with fail
      refine (szDy_no s1 a1 xs1.length c1 ex1 (1048576 - (xs0.length : Int)) _ (by omega) hl1 (by omega) (by omega)).mono ?_
      rintro e wq ⟨rfl, hb⟩
      have hB := Lib.hid (P3.out.trans ((Below.trans hU1 (hb.mono (Below.size hU1))).mono (by have := P4.out; omega)))
      clear hb
      go_wp2_with fail
      go_ret
      exact ⟨rfl, hB.out⟩
    · have hn : True := trivial
      go_enter Tryd.func3, Tryd.ntmps3
      go_wp2_with fail
      rw [HW0.out]
      refine (szDy_no s0 a0 xs0.length c0 ex0 (1048576) _ (by omega) hl0 (by omega) (by omega)).mono ?_
      rintro e wq ⟨rfl, hb⟩
      have hB := Lib.hid (P3.out.trans ((Below.trans (Below.refl W0.heap.size W0) (hb.mono (Below.size (Below.refl W0.heap.size W0)))).mono (by have := P4.out; omega)))
      clear hb
      go_wp2_with fail
      go_ret
      exact ⟨rfl, hB.out⟩
end Go.Proofs.YtiohacnkiikmcaaDoor
