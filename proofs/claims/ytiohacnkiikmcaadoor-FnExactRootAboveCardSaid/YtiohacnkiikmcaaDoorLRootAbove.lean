/-
  The walk of laws.FnExactRootAbove. Conditions: the limbs can be read; the library's table is as its initialiser lays it.
-/
import Derived.Test.YtiohacnkiikmcaaDoorRc
import Derived.Deep.DeepCutAuto
import Derived.Deep.RegionHeld3
namespace Go.Proofs.YtiohacnkiikmcaaDoor
set_option linter.unusedVariables false
open Go Go.RowKit

set_option maxRecDepth 100000 in
set_option maxHeartbeats 8000000 in
theorem RootAbove_walk (s0 : Int) (a0 : Option Addr) (xs0 : List Int) (c0 : Nat) (ex0 : Int) (n1 : Int) (w : World) (hl0 : xs0.length ≤ 9223372036854775807) (hx0 : Ints w w.heap.size a0 xs0) (bl0 : -9223372036854775808 ≤ ex0) (bh0 : ex0 ≤ 9223372036854775807) (bl1 : -9223372036854775808 ≤ n1) (bh1 : n1 ≤ 9223372036854775807) (hTab : Tab w) :
    Calls Tryd.prog 4 #[.agg #[.int .i64 s0, .slice a0 xs0.length c0, .int .i64 ex0], .int .i64 n1] w (LawDone w) := by
  by_cases hbig : (xs0.length : Int) ≤ 1048576
  · have HL := Lib.hid hbig
    obtain ⟨⟨r1, r2, r4, r3⟩, hr⟩ : ∃ r : Int × List Int × Int × Int, r = rtY s0 xs0 ex0 n1 := ⟨_, rfl⟩
    obtain ⟨W0, hW0⟩ : ∃ W0 : World, (w.alloc (.cells #[.int .i64 s0, .slice a0 xs0.length c0, .int .i64 ex0] 26)) = W0 := ⟨_, rfl⟩
    obtain ⟨p0, p8, p9⟩ := one_box w 26 #[.int .i64 s0, .slice a0 xs0.length c0, .int .i64 ex0]
    rw [hW0] at p0 p8 p9
    have HW0 := Lib.hid hW0
    have P3 := Lib.hid p8
    have P4 := Lib.hid p9
    have SS := Lib.hid (show ∀ W, Below W0.heap.size W0 W → (W.cell? ⟨w.heap.size, 0, none⟩ = some (.int .i64 s0) ∧ W.cell? ⟨w.heap.size, 1, none⟩ = some (.slice a0 xs0.length c0) ∧ W.cell? ⟨w.heap.size, 2, none⟩ = some (.int .i64 ex0)) from fun W hW => ⟨(p0.below hW).cell 0, (p0.below hW).cell 1, (p0.below hW).cell 2⟩)
    have HTB := Lib.hid (show ∀ W, Below W0.heap.size W0 W → Tab W from fun W hW => (hTab.below p8).below hW)
    clear hTab
    have HT0 := Lib.hid (show ∀ W, Below W0.heap.size W0 W → Calls Tryd.prog 7 #[.agg #[.int .i64 s0, .slice a0 xs0.length c0, .int .i64 ex0]] W fun e w' => ∃ a' c', e = .returned (.agg #[.int .i64 s0, .slice a' xs0.length c', .int .i64 ex0]) ∧ xs0.length ≤ c' ∧ Own2 w' W.heap.size w'.heap.size a' xs0 ∧ Below W.heap.size W w' ∧ Below W0.heap.size W0 w' from
      fun W hW => (toDyadic s0 a0 xs0 c0 ex0 W w.heap.size (by have := hW.size; omega) (by omega) (hx0.below (p8.trans (hW.mono (by omega))))).mono fun e w' ⟨a, c, he, hc, ho, hb⟩ => ⟨a, c, he, hc, Own2.of ho, hb, hW.trans (hb.mono hW.size)⟩)
    have HSP := Lib.hid (show ∀ (b0 : Option Addr) (d0 : Nat) W, Below W0.heap.size W0 W → xs0.length ≤ d0 → Ints W W.heap.size b0 xs0 → Calls Tryd.prog 10 #[.agg #[.int .i64 s0, .slice b0 xs0.length d0, .int .i64 ex0], .int .i64 n1] W fun e w' => ∃ a c, e = .returned (.tuple #[.agg #[.int .i64 r1, .slice a r2.length c, .int .i64 r4], .int .i64 r3]) ∧ r2.length ≤ c ∧ Own w' W.heap.size a r2 ∧ Below W.heap.size W w' ∧ Below W0.heap.size W0 w' from
      fun b0 d0 W hW h0 i0 => by
        have := sRootAbove s0 b0 xs0 d0 ex0 n1 W _ (Nat.le_refl _) i0 hl0 h0
        rw [← hr] at this
        exact this.mono fun e w' ⟨a, c, he, hc, ho, hb⟩ => ⟨a, c, he, hc, ho, hb, hW.trans (hb.mono hW.size)⟩)
    have HIM := Lib.hid (show ∀ (b0 : Option Addr) (d0 : Nat) W, Below W0.heap.size W0 W → xs0.length ≤ d0 → Ints W W.heap.size b0 xs0 → Calls Tryd.prog 11 #[.agg #[.int .i64 s0, .slice b0 xs0.length d0, .int .i64 ex0], .int .i64 n1] W fun e w' => ∃ a c, e = .returned (.tuple #[.agg #[.int .i64 r1, .slice a r2.length c, .int .i64 r4], .int .i64 r3]) ∧ r2.length ≤ c ∧ Own w' W.heap.size a r2 ∧ Below W.heap.size W w' ∧ Below W0.heap.size W0 w' from
      fun b0 d0 W hW h0 i0 => by
        have := iRootAbove s0 b0 xs0 d0 ex0 n1 W _ (Nat.le_refl _) i0 hl0 (HTB.out W hW)
        rw [← hr] at this
        exact this.mono fun e w' ⟨a, c, he, hc, ho, hb⟩ => ⟨a, c, he, hc, ho, hb, hW.trans (hb.mono hW.size)⟩)
    have hT : Below W0.heap.size W0 W0 := Below.refl _ _
    have hn0 : decide (1048576 - (xs0.length : Int) < 0) = false := decide_eq_false (by omega)
    have HN0 := Lib.hid (show xs0.length ≤ 1048576 by omega)
    have HR2 := Lib.hid (show r2.length ≤ 4611686018427387904 from (by have h1 : r2 = (rtY s0 xs0 ex0 n1).2.1 := congrArg (fun r => r.2.1) hr; rw [h1]; exact Nat.le_trans (rtY_len _ _ _ _) (by omega)))
    clear p0 p8 p9 hx0 hW0 hl0 hbig hr
    go_enter Tryd.func4, Tryd.ntmps4
    go_wp2_with fail
    rw [HW0.out]
    refine (szDy_ok s0 a0 xs0.length c0 ex0 (1048576) _ (by have := HL.out; omega) (by omega)).mono ?_
    rintro e w1 ⟨rfl, hb⟩
    have hU1 : Below W0.heap.size W0 w1 := hT.trans (hb.mono hT.size)
    clear hb
    obtain ⟨k0, k1, k2⟩ := SS.out _ hU1
    go_wp2_with fail
    all_goals
      refine (HT0.out _ hU1).mono ?_
      rintro e v1 ⟨b9, d9, rfl, hd9, ho, hb, hz⟩
      go_wp2_with fail
      refine (HSP.out _ _ _ hz hd9 (Own2.own ho).ints).mono ?_
      rintro e v2 ⟨a6, c6, rfl, hc6, ho6, hbb, hbz⟩
      have hsv1 := hz.size
      have hsv2 := hbz.size
      have hsv3 := hbb.size
      have hWs := (below_alloc hbz (.cells #[.int .i64 r1, .slice a6 r2.length c6, .int .i64 r4] 32)).size
      have hU := Lib.hid (below_alloc hbz (.cells #[.int .i64 r1, .slice a6 r2.length c6, .int .i64 r4] 32))
      have B6 := Lib.hid (BoxAt.new v2 32 #[.int .i64 r1, .slice a6 r2.length c6, .int .i64 r4])
      have O6 := Lib.hid ((Own2.of (ho6.mono hsv1)).alloc (.cells #[.int .i64 r1, .slice a6 r2.length c6, .int .i64 r4] 32))
      have HC6 := Lib.hid hc6
      have hr3 : (r3 != r3) = false := by simp
      clear ho6 hc6 hbb hbz ho hb hz hd9 HSP hT HL
      clear hU1
      clear k0 k1 k2
      have hr4 : (r4 != r4) = false := by simp
      obtain ⟨x1_0, x1_1, x1_2⟩ := SS.out _ hU.out
      go_wp2_with fail
      refine (HT0.out _ hU.out).mono ?_
      rintro e wx1 ⟨b0, d0, rfl, hd0, ho, hb, hz⟩
      have hsz_wx1 := hb.size
      (try simp at hsz_wx1)
      clear x1_0 x1_1 x1_2
      have B6_2 := Lib.hid (B6.out.below hb)
      have O6_3 := Lib.hid (O6.out.below hb (by first | omega | (simp; done) | (simp; omega)))
      clear B6 O6
      clear hU
      have hU_wx1 := Lib.hid hz
      have OX0 := Lib.hid ho
      have HD0 := Lib.hid hd0
      clear ho hb hz hd0
      have B6_4 := Lib.hid (B6_2.out.alloc (.cells #[.int .i64 s0, .slice b0 xs0.length d0, .int .i64 ex0] 32))
      have O6_5 := Lib.hid (O6_3.out.alloc (.cells #[.int .i64 s0, .slice b0 xs0.length d0, .int .i64 ex0] 32))
      have OX0_6 := Lib.hid (OX0.out.alloc (.cells #[.int .i64 s0, .slice b0 xs0.length d0, .int .i64 ex0] 32))
      clear B6_2 O6_3 OX0
      have hU_7 := Lib.hid (below_alloc hU_wx1.out (.cells #[.int .i64 s0, .slice b0 xs0.length d0, .int .i64 ex0] 32))
      clear hU_wx1
      have BX0 := Lib.hid (BoxAt.new wx1 32 #[.int .i64 s0, .slice b0 xs0.length d0, .int .i64 ex0])
      obtain ⟨y8_0, y8_1, y8_2, y8_3, y8_4, y8_5⟩ := BX0.out.tri6
      go_wp2_with fail
      refine (HIM.out _ _ _ hU_7.out HD0.out (Own2.own OX0_6.out).ints).mono ?_
      rintro e wg ⟨ag, cg, rfl, hcg, ho, hb, hz⟩
      have hsz_g := hb.size
      (try simp at hsz_g)
      clear y8_0 y8_1 y8_2 y8_3 y8_4 y8_5
      have B6_9 := Lib.hid (B6_4.out.below hb)
      have BX0_10 := Lib.hid (BX0.out.below hb)
      have O6_11 := Lib.hid (O6_5.out.below hb (by first | omega | (simp; done) | (simp; omega)))
      have OX0_12 := Lib.hid (OX0_6.out.below hb (by first | omega | (simp; done) | (simp; omega)))
      clear B6_4 BX0 O6_5 OX0_6
      clear hU_7
      have hU_g := Lib.hid hz
      have OG := Lib.hid (Own2.of ho)
      have HCG := Lib.hid hcg
      clear ho hb hz hcg
      have B6_13 := Lib.hid (B6_9.out.alloc (.cells #[.int .i64 r1, .slice ag r2.length cg, .int .i64 r4] 32))
      have BX0_14 := Lib.hid (BX0_10.out.alloc (.cells #[.int .i64 r1, .slice ag r2.length cg, .int .i64 r4] 32))
      have O6_15 := Lib.hid (O6_11.out.alloc (.cells #[.int .i64 r1, .slice ag r2.length cg, .int .i64 r4] 32))
      have OX0_16 := Lib.hid (OX0_12.out.alloc (.cells #[.int .i64 r1, .slice ag r2.length cg, .int .i64 r4] 32))
      have OG_17 := Lib.hid (OG.out.alloc (.cells #[.int .i64 r1, .slice ag r2.length cg, .int .i64 r4] 32))
      clear B6_9 BX0_10 O6_11 OX0_12 OG
      have hU_18 := Lib.hid (below_alloc hU_g.out (.cells #[.int .i64 r1, .slice ag r2.length cg, .int .i64 r4] 32))
      clear hU_g
      have BG := Lib.hid (BoxAt.new wg 32 #[.int .i64 r1, .slice ag r2.length cg, .int .i64 r4])
      obtain ⟨y19_0, y19_1, y19_2, y19_3, y19_4, y19_5⟩ := BG.out.tri6
      obtain ⟨y20_0, y20_1, y20_2, y20_3, y20_4, y20_5⟩ := B6_13.out.tri6
      go_wp2_with fail
      refine (eqDyadic_yes r1 _ _ r2 _ _ _ r4 rfl _ _ _ (Nat.le_refl _) (Nat.le_refl _) (Own2.own OG_17.out).ints (Own2.own O6_15.out).ints (by have := HR2.out; omega)).mono ?_
      rintro e we ⟨rfl, hb⟩
      have hsz_we := hb.size
      (try simp at hsz_we)
      clear y19_0 y19_1 y19_2 y19_3 y19_4 y19_5 y20_0 y20_1 y20_2 y20_3 y20_4 y20_5
      have hU_21 := Lib.hid (hU_18.out.trans (hb.mono hU_18.out.size))
      clear hU_18
      have B6_22 := Lib.hid (B6_13.out.below hb)
      have BX0_23 := Lib.hid (BX0_14.out.below hb)
      have BG_24 := Lib.hid (BG.out.below hb)
      have O6_25 := Lib.hid (O6_15.out.below hb (by first | omega | (simp; done) | (simp; omega)))
      have OX0_26 := Lib.hid (OX0_16.out.below hb (by first | omega | (simp; done) | (simp; omega)))
      have OG_27 := Lib.hid (OG_17.out.below hb (by first | omega | (simp; done) | (simp; omega)))
      clear B6_13 BX0_14 BG O6_15 OX0_16 OG_17
      clear hb
      obtain ⟨x28_0, x28_1, x28_2⟩ := SS.out _ hU_21.out
      have SX := Lib.hid (show ∀ W, Below we.heap.size we W → (W.cell? ⟨w.heap.size, 0, none⟩ = some (.int .i64 s0) ∧ W.cell? ⟨w.heap.size, 1, none⟩ = some (.slice a0 xs0.length c0) ∧ W.cell? ⟨w.heap.size, 2, none⟩ = some (.int .i64 ex0) ∧ W.cell? ⟨wx1.heap.size, 0, none⟩ = some (.int .i64 s0) ∧ W.cell? ⟨wx1.heap.size, 1, none⟩ = some (.slice b0 xs0.length d0) ∧ W.cell? ⟨wx1.heap.size, 2, none⟩ = some (.int .i64 ex0)) from fun W hW => ⟨(SS.out _ (hU_21.out.trans (hW.mono hU_21.out.size))).1, (SS.out _ (hU_21.out.trans (hW.mono hU_21.out.size))).2.1, (SS.out _ (hU_21.out.trans (hW.mono hU_21.out.size))).2.2, (BX0_23.out.below hW).cell 0, (BX0_23.out.below hW).cell 1, (BX0_23.out.below hW).cell 2⟩)
      have TX := Lib.hid (show ∀ W, Below we.heap.size we W → Calls Tryd.prog 7 #[.agg #[.int .i64 s0, .slice a0 xs0.length c0, .int .i64 ex0]] W fun e w' => ∃ a' c', e = .returned (.agg #[.int .i64 s0, .slice a' xs0.length c', .int .i64 ex0]) ∧ Own w' W.heap.size a' xs0 ∧ Below we.heap.size we w' from fun W hW => (HT0.out W (hU_21.out.trans (hW.mono hU_21.out.size))).mono fun e w' ⟨a, c, he, _, ho, hb, _⟩ => ⟨a, c, he, ho.own, hW.trans (hb.mono hW.size)⟩)
      have EX := Lib.hid (show ∀ a' c' lo W, Below we.heap.size we W → Own W lo a' xs0 → Calls Tryd.prog 9 #[.agg #[.int .i64 s0, .slice b0 xs0.length d0, .int .i64 ex0], .agg #[.int .i64 s0, .slice a' xs0.length c', .int .i64 ex0]] W fun e w' => e = .returned (.bool true) ∧ Below we.heap.size we w' from fun a' c' lo W hW ho => (eqDyadic_yes s0 _ _ xs0 _ _ _ ex0 rfl _ _ _ hW.size (Nat.le_refl _) ((Own2.own OX0_26.out).ints.below hW) ho.ints (by have := HN0.out; omega)).mono fun e w' ⟨he, hb⟩ => ⟨he, hW.trans (hb.mono hW.size)⟩)
      have hTT : Below we.heap.size we we.drew := (Below.refl _ _).drew
      clear x28_0 x28_1 x28_2
      go_wp2_with fail
      go_region_held3 (fun W => W.cell? ⟨w.heap.size, 0, none⟩ = some (.int .i64 s0) ∧ W.cell? ⟨w.heap.size, 1, none⟩ = some (.slice a0 xs0.length c0) ∧ W.cell? ⟨w.heap.size, 2, none⟩ = some (.int .i64 ex0) ∧ W.cell? ⟨wx1.heap.size, 0, none⟩ = some (.int .i64 s0) ∧ W.cell? ⟨wx1.heap.size, 1, none⟩ = some (.slice b0 xs0.length d0) ∧ W.cell? ⟨wx1.heap.size, 2, none⟩ = some (.int .i64 ex0))
        (exact SX.out _ (by assumption))
        (first
        | (go_at_call 7; refine (TX.out _ (by assumption)).mono ?_; rintro e u1_0 ⟨e1, f1, rfl, ho1, hb1⟩)
        | (go_at_call 9; refine (EX.out _ _ _ _ (by assumption) (by assumption)).mono ?_; rintro e wd0 ⟨rfl, hbd⟩))
      have hsz_d0 := hbd.size
      have hU_29 := Lib.hid (hU_21.out.trans (hbd.mono hU_21.out.size))
      clear hU_21
      have B6_30 := Lib.hid (B6_22.out.below hbd)
      have BX0_31 := Lib.hid (BX0_23.out.below hbd)
      have BG_32 := Lib.hid (BG_24.out.below hbd)
      have O6_33 := Lib.hid (O6_25.out.below hbd (by first | omega | (simp; done) | (simp; omega)))
      have OX0_34 := Lib.hid (OX0_26.out.below hbd (by first | omega | (simp; done) | (simp; omega)))
      have OG_35 := Lib.hid (OG_27.out.below hbd (by first | omega | (simp; done) | (simp; omega)))
      clear B6_22 BX0_23 BG_24 O6_25 OX0_26 OG_27
      clear ho1 hb1 hbd hTT SX TX EX
      obtain ⟨y36_0, y36_1, y36_2, y36_3, y36_4, y36_5⟩ := BX0_31.out.tri6
      go_wp2_with fail
      refine (markDyadic s0 _ xs0 _ ex0 (1) _ _ (by have := HN0.out; omega) (Own2.own OX0_34.out) (by omega) (by have := HN0.out;  omega)).mono ?_
      rintro e wm0 ⟨rfl, hom, row, hgr, hrow⟩
      have hrw := Own2.row_ge OX0_34.out rfl hrow
      have hsz_wm0 := hgr.size
      clear y36_0 y36_1 y36_2 y36_3 y36_4 y36_5
      have B6_37 := Lib.hid (B6_30.out.grown hgr (fun e => by have := hrw _ e.symm; (try simp only [size_al] at this); (try simp only [size_al]); omega))
      have BX0_38 := Lib.hid (BX0_31.out.grown hgr (fun e => by have := hrw _ e.symm; (try simp only [size_al] at this); (try simp only [size_al]); omega))
      have BG_39 := Lib.hid (BG_32.out.grown hgr (fun e => by have := hrw _ e.symm; (try simp only [size_al] at this); (try simp only [size_al]); omega))
      have O6_40 := Lib.hid (O6_33.out.grown hgr (fun g e => by have := hrw g e; (try simp only [size_al] at this); (try simp only [size_al]); omega))
      have OG_41 := Lib.hid (OG_35.out.grown hgr (fun g e => by have := hrw g e; (try simp only [size_al] at this); (try simp only [size_al]); omega))
      clear B6_30 BX0_31 BG_32 O6_33 OG_35
      have hU_42 := Lib.hid (hU_29.out.trans (below_of_grown hgr hU_29.out.size (fun g e => by have := hrw g e; (try simp only [size_al] at this); have := hWs; omega)))
      clear hU_29
      clear hgr hrow hrw hom OX0_34
      have hmneg : decide (1 + (xs0.length : Int) < 0) = false := decide_eq_false (by omega)
      obtain ⟨y43_0, y43_1, y43_2, y43_3, y43_4, y43_5⟩ := BG_39.out.tri6
      obtain ⟨y44_0, y44_1, y44_2, y44_3, y44_4, y44_5⟩ := B6_37.out.tri6
      go_wp2_with fail
      refine (eqDyadic_yes r1 _ _ r2 _ _ _ r4 rfl _ _ _ (Nat.le_refl _) (Nat.le_refl _) (Own2.own OG_41.out).ints (Own2.own O6_40.out).ints (by have := HR2.out; omega)).mono ?_
      rintro e wf ⟨rfl, hb⟩
      have hsz_wf := hb.size
      (try simp at hsz_wf)
      clear y43_0 y43_1 y43_2 y43_3 y43_4 y43_5 y44_0 y44_1 y44_2 y44_3 y44_4 y44_5
      have hU_45 := Lib.hid (hU_42.out.trans (hb.mono hU_42.out.size))
      clear hU_42
      have B6_46 := Lib.hid (B6_37.out.below hb)
      have BX0_47 := Lib.hid (BX0_38.out.below hb)
      have BG_48 := Lib.hid (BG_39.out.below hb)
      have O6_49 := Lib.hid (O6_40.out.below hb (by first | omega | (simp; done) | (simp; omega)))
      have OG_50 := Lib.hid (OG_41.out.below hb (by first | omega | (simp; done) | (simp; omega)))
      clear B6_37 BX0_38 BG_39 O6_40 OG_41
      clear hb
      obtain ⟨y51_0, y51_1, y51_2, y51_3, y51_4, y51_5⟩ := BG_48.out.tri6
      go_wp2_with fail
      refine (markDyadic r1 _ r2 _ r4 1 _ _ (by have := HR2.out; omega) (Own2.own OG_50.out) (by omega) (by omega)).mono ?_
      rintro e wk ⟨rfl, hom, row, hgr, hrow⟩
      have hrw := Own2.row_ge OG_50.out rfl hrow
      have hsz_wk := hgr.size
      clear y51_0 y51_1 y51_2 y51_3 y51_4 y51_5
      have B6_52 := Lib.hid (B6_46.out.grown hgr (fun e => by have := hrw _ e.symm; (try simp only [size_al] at this); (try simp only [size_al]); omega))
      have BX0_53 := Lib.hid (BX0_47.out.grown hgr (fun e => by have := hrw _ e.symm; (try simp only [size_al] at this); (try simp only [size_al]); omega))
      have BG_54 := Lib.hid (BG_48.out.grown hgr (fun e => by have := hrw _ e.symm; (try simp only [size_al] at this); (try simp only [size_al]); omega))
      have O6_55 := Lib.hid (O6_49.out.grown hgr (fun g e => by have := hrw g e; (try simp only [size_al] at this); (try simp only [size_al]); omega))
      clear B6_46 BX0_47 BG_48 O6_49
      have hU_56 := Lib.hid (hU_45.out.trans (below_of_grown hgr hU_45.out.size (fun g e => by have := hrw g e; (try simp only [size_al] at this); have := hWs; omega)))
      clear hU_45
      clear hgr hrow hrw OG_50
      have OM := Lib.hid hom
      clear hom
      have hmneg2 : decide ((1 : Int) + (r2.length : Int) < 0) = false := decide_eq_false (by omega)
      have hmne : ((1 : Int) + (r2.length : Int) != (1 : Int) + (r2.length : Int)) = false := by simp
      obtain ⟨y57_0, y57_1, y57_2, y57_3, y57_4, y57_5⟩ := BG_54.out.tri6
      go_wp2_with fail
      refine (heldDyadic r1 _ r2.length _ r4 1 _ _ (Nat.le_refl _) (by have := HR2.out; omega) OM.out.ints (by omega) (by omega)).mono ?_
      rintro e wh ⟨rfl, hb⟩
      have hsz_wh := hb.size
      clear y57_0 y57_1 y57_2 y57_3 y57_4 y57_5
      have hU_58 := Lib.hid (hU_56.out.trans (hb.mono hU_56.out.size))
      clear hU_56
      have B6_59 := Lib.hid (B6_52.out.below hb)
      have BX0_60 := Lib.hid (BX0_53.out.below hb)
      have BG_61 := Lib.hid (BG_54.out.below hb)
      have O6_62 := Lib.hid (O6_55.out.below hb (by first | omega | (simp; done) | (simp; omega)))
      have OM_63 := Lib.hid (OM.out.below hb)
      clear B6_52 BX0_53 BG_54 O6_55 OM
      clear hb
      obtain ⟨x64_0, x64_1, x64_2⟩ := SS.out _ hU_58.out
      go_wp2_with fail
      refine (HT0.out _ hU_58.out).mono ?_
      rintro e vy1 ⟨b7, d7, rfl, hd7, hoy, hb, hz⟩
      have hsz_vy1 := hb.size
      (try simp at hsz_vy1)
      clear x64_0 x64_1 x64_2
      have B6_65 := Lib.hid (B6_59.out.below hb)
      have BX0_66 := Lib.hid (BX0_60.out.below hb)
      have BG_67 := Lib.hid (BG_61.out.below hb)
      have O6_68 := Lib.hid (O6_62.out.below hb (by first | omega | (simp; done) | (simp; omega)))
      have OM_69 := Lib.hid (OM_63.out.below hb)
      clear B6_59 BX0_60 BG_61 O6_62 OM_63
      clear hU_58
      have hU_vy1 := Lib.hid hz
      clear hb hz
      go_wp2_with fail
      refine (HIM.out _ _ _ hU_vy1.out hd7 (Own2.own hoy).ints).mono ?_
      rintro e vy2 ⟨a7, c7, rfl, hc7, ho7, hb, hz⟩
      have hsz_vy2 := hb.size
      (try simp at hsz_vy2)
      have B6_70 := Lib.hid (B6_65.out.below hb)
      have BX0_71 := Lib.hid (BX0_66.out.below hb)
      have BG_72 := Lib.hid (BG_67.out.below hb)
      have O6_73 := Lib.hid (O6_68.out.below hb (by first | omega | (simp; done) | (simp; omega)))
      have OM_74 := Lib.hid (OM_69.out.below hb)
      clear B6_65 BX0_66 BG_67 O6_68 OM_69
      clear hU_vy1
      have hU_vy2 := Lib.hid hz
      clear hb hz hoy hd7
      have B6_75 := Lib.hid (B6_70.out.alloc (.cells #[.int .i64 r1, .slice a7 r2.length c7, .int .i64 r4] 32))
      have BX0_76 := Lib.hid (BX0_71.out.alloc (.cells #[.int .i64 r1, .slice a7 r2.length c7, .int .i64 r4] 32))
      have BG_77 := Lib.hid (BG_72.out.alloc (.cells #[.int .i64 r1, .slice a7 r2.length c7, .int .i64 r4] 32))
      have O6_78 := Lib.hid (O6_73.out.alloc (.cells #[.int .i64 r1, .slice a7 r2.length c7, .int .i64 r4] 32))
      have OM_79 := Lib.hid (OM_74.out.alloc (.cells #[.int .i64 r1, .slice a7 r2.length c7, .int .i64 r4] 32))
      clear B6_70 BX0_71 BG_72 O6_73 OM_74
      have hU_80 := Lib.hid (below_alloc hU_vy2.out (.cells #[.int .i64 r1, .slice a7 r2.length c7, .int .i64 r4] 32))
      clear hU_vy2
      have B7 := Lib.hid (BoxAt.new vy2 32 #[.int .i64 r1, .slice a7 r2.length c7, .int .i64 r4])
      have O7 := Lib.hid (ho7.alloc (.cells #[.int .i64 r1, .slice a7 r2.length c7, .int .i64 r4] 32))
      clear ho7 hc7
      all_goals
        obtain ⟨m0, m1, m2, m3, m4, m5⟩ := B7.out.tri6
        obtain ⟨m6, m7, m8, m9, m10, m11⟩ := B6_75.out.tri6
        go_wp2_with fail
        refine (eqDyadic_yes r1 _ _ r2 _ _ _ r4 rfl _ _ _ (Nat.le_refl _) (Nat.le_refl _) O7.out.ints (Own2.own O6_78.out).ints (by have := HR2.out; omega)).mono ?_
        rintro e wy ⟨rfl, hb⟩
        have hsz_wy := hb.size
        clear m0 m1 m2 m3 m4 m5 m6 m7 m8 m9 m10 m11
        have hU_81 := Lib.hid (hU_80.out.trans (hb.mono hU_80.out.size))
        clear hU_80
        have BG_82 := Lib.hid (BG_77.out.below hb)
        have OM_83 := Lib.hid (OM_79.out.below hb)
        clear BG_77 OM_79
        clear hb
        obtain ⟨y84_0, y84_1, y84_2, y84_3, y84_4, y84_5⟩ := BG_82.out.tri6
        go_wp2_with fail
        refine (heldDyadic r1 _ r2.length _ r4 1 _ _ (Nat.le_refl _) (by have := HR2.out; omega) OM_83.out.ints (by omega) (by omega)).mono ?_
        rintro e wz ⟨rfl, hb⟩
        have hU_85 := Lib.hid (hU_81.out.trans (hb.mono hU_81.out.size))
        clear hU_81
        clear hb
        go_wp2_with fail
        go_ret
        exact ⟨rfl, P3.out.trans (hU_85.out.mono (by have := P4.out; omega))⟩
  · have hT : Below w.heap.size w w := Below.refl _ _
    obtain ⟨W0, hW0⟩ : ∃ W0 : World, (w.alloc (.cells #[.int .i64 s0, .slice a0 xs0.length c0, .int .i64 ex0] 26)) = W0 := ⟨_, rfl⟩
    obtain ⟨p0, p8, p9⟩ := one_box w 26 #[.int .i64 s0, .slice a0 xs0.length c0, .int .i64 ex0]
    rw [hW0] at p0 p8 p9
    have HW0 := Lib.hid hW0
    have P3 := Lib.hid p8
    have P4 := Lib.hid p9
    have SS := Lib.hid (show ∀ W, Below W0.heap.size W0 W → (W.cell? ⟨w.heap.size, 0, none⟩ = some (.int .i64 s0) ∧ W.cell? ⟨w.heap.size, 1, none⟩ = some (.slice a0 xs0.length c0) ∧ W.cell? ⟨w.heap.size, 2, none⟩ = some (.int .i64 ex0)) from fun W hW => ⟨(p0.below hW).cell 0, (p0.below hW).cell 1, (p0.below hW).cell 2⟩)
    clear hT hW0 p8 p9 p0 hx0
    go_enter Tryd.func4, Tryd.ntmps4
    go_wp2_with fail
    rw [HW0.out]
    refine (szDy_no s0 a0 xs0.length c0 ex0 (1048576) _ (by omega) hl0 (by omega) (by omega)).mono ?_
    rintro e wq ⟨rfl, hb⟩
    have hB := Lib.hid (P3.out.trans ((Below.trans (Below.refl W0.heap.size W0) (hb.mono (Below.size (Below.refl W0.heap.size W0)))).mono (by have := P4.out; omega)))
    clear hb
    go_wp2_with fail
    go_ret
    exact ⟨rfl, hB.out⟩
end Go.Proofs.YtiohacnkiikmcaaDoor
