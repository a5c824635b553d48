/-
  The walk of laws.FnExactSquareOfExact. Conditions: the limbs can be read; the library's table is as its initialiser lays it.
-/
import Derived.Test.YtebkpaonmeokgaaDoorEc
import Derived.Deep.DeepCutAuto
import Derived.Deep.RegionHeld3
namespace Go.Proofs.YtebkpaonmeokgaaDoor
set_option linter.unusedVariables false
open Go Go.RowKit

set_option maxRecDepth 100000 in
set_option maxHeartbeats 8000000 in
theorem SquareOfExact_walk (s0 : Int) (a0 : Option Addr) (xs0 : List Int) (c0 : Nat) (ex0 : Int) (s1 : Int) (a1 : Option Addr) (xs1 : List Int) (c1 : Nat) (ex1 : Int) (w : World) (hl0 : xs0.length ≤ 9223372036854775807) (hx0 : Ints w w.heap.size a0 xs0) (bl0 : -9223372036854775808 ≤ ex0) (bh0 : ex0 ≤ 9223372036854775807) (hl1 : xs1.length ≤ 9223372036854775807) (hx1 : Ints w w.heap.size a1 xs1) (bl1 : -9223372036854775808 ≤ ex1) (bh1 : ex1 ≤ 9223372036854775807) (hTab : Tab w) :
    Calls Tryd.prog 9 #[.agg #[.int .i64 s0, .slice a0 xs0.length c0, .int .i64 ex0, .int .i64 s1, .slice a1 xs1.length c1, .int .i64 ex1]] w (LawDone w) := by
  by_cases hbig : (xs0.length : Int) + (xs1.length : Int) ≤ 1048576
  · have HL := Lib.hid hbig
    obtain ⟨⟨r1, r2, r4, r3⟩, hr⟩ : ∃ r : Int × List Int × Int × Int, r = sqY s0 xs0 ex0 s1 xs1 ex1 := ⟨_, rfl⟩
    obtain ⟨W0, hW0⟩ : ∃ W0 : World, w.alloc (.cells #[.int .i64 s0, .slice a0 xs0.length c0, .int .i64 ex0, .int .i64 s1, .slice a1 xs1.length c1, .int .i64 ex1] 61) = W0 := ⟨_, rfl⟩
    obtain ⟨p0, p8, p9⟩ := one_box w 61 #[.int .i64 s0, .slice a0 xs0.length c0, .int .i64 ex0, .int .i64 s1, .slice a1 xs1.length c1, .int .i64 ex1]
    rw [hW0] at p0 p8 p9
    have HW0 := Lib.hid hW0
    have P3 := Lib.hid p8
    have P4 := Lib.hid p9
    have SS := Lib.hid (show ∀ W, Below W0.heap.size W0 W → (W.cell? ⟨w.heap.size, 0, none⟩ = some (.int .i64 s0) ∧ W.cell? ⟨w.heap.size, 1, none⟩ = some (.slice a0 xs0.length c0) ∧ W.cell? ⟨w.heap.size, 2, none⟩ = some (.int .i64 ex0) ∧ W.cell? ⟨w.heap.size, 3, none⟩ = some (.int .i64 s1) ∧ W.cell? ⟨w.heap.size, 4, none⟩ = some (.slice a1 xs1.length c1) ∧ W.cell? ⟨w.heap.size, 5, none⟩ = some (.int .i64 ex1)) from fun W hW => (p0.below hW).six)
    have HTB := Lib.hid (show ∀ W, Below W0.heap.size W0 W → Tab W from fun W hW => (hTab.below p8).below hW)
    clear hTab
    have HT0 := Lib.hid (show ∀ W, Below W0.heap.size W0 W → Calls Tryd.prog 51 #[.agg #[.int .i64 s0, .slice a0 xs0.length c0, .int .i64 ex0, .int .i64 s1, .slice a1 xs1.length c1, .int .i64 ex1]] W fun e w' => ∃ a' c' b' d', e = .returned (.agg #[.int .i64 s0, .slice a' xs0.length c', .int .i64 ex0, .int .i64 s1, .slice b' xs1.length d', .int .i64 ex1]) ∧ xs0.length ≤ c' ∧ xs1.length ≤ d' ∧ Own2 w' W.heap.size w'.heap.size a' xs0 ∧ Own2 w' W.heap.size w'.heap.size b' xs1 ∧ Apart a' b' xs0 xs1 ∧ Below W.heap.size W w' ∧ Below W0.heap.size W0 w' from
      fun W hW => (toExact s0 a0 xs0 c0 ex0 s1 a1 xs1 c1 ex1 W w.heap.size (by have := hW.size; omega) (by omega) (by omega) (hx0.below (p8.trans (hW.mono (by omega)))) (hx1.below (p8.trans (hW.mono (by omega))))).mono fun e w' ⟨a, c, b, d, he, hc, hd, ho, hp, hap, hb⟩ => ⟨a, c, b, d, he, hc, hd, Own2.of ho, Own2.of hp, hap, hb, hW.trans (hb.mono hW.size)⟩)
    have HSP := Lib.hid (show ∀ (b0 : Option Addr) (d0 : Nat) (b1 : Option Addr) (d1 : Nat) W, Below W0.heap.size W0 W → xs0.length ≤ d0 → xs1.length ≤ d1 → Ints W W.heap.size b0 xs0 → Ints W W.heap.size b1 xs1 → Calls Tryd.prog 58 #[.agg #[.int .i64 s0, .slice b0 xs0.length d0, .int .i64 ex0, .int .i64 s1, .slice b1 xs1.length d1, .int .i64 ex1]] W fun e w' => ∃ a c, e = .returned (.tuple #[.agg #[.int .i64 r1, .slice a r2.length c, .int .i64 r4], .int .i64 r3]) ∧ r2.length ≤ c ∧ Own w' W.heap.size a r2 ∧ Below W.heap.size W w' ∧ Below W0.heap.size W0 w' from
      fun b0 d0 b1 d1 W hW h0 h1 i0 i1 => by
        have := sSquareOfExact s0 b0 xs0 d0 ex0 s1 b1 xs1 d1 ex1 W _ (Nat.le_refl _) i0 i1 hl0 hl1 h0 h1
        rw [← hr] at this
        exact this.mono fun e w' ⟨a, c, he, hc, ho, hb⟩ => ⟨a, c, he, hc, ho, hb, hW.trans (hb.mono hW.size)⟩)
    have HIM := Lib.hid (show ∀ (b0 : Option Addr) (d0 : Nat) (b1 : Option Addr) (d1 : Nat) W, Below W0.heap.size W0 W → xs0.length ≤ d0 → xs1.length ≤ d1 → Ints W W.heap.size b0 xs0 → Ints W W.heap.size b1 xs1 → Calls Tryd.prog 59 #[.agg #[.int .i64 s0, .slice b0 xs0.length d0, .int .i64 ex0, .int .i64 s1, .slice b1 xs1.length d1, .int .i64 ex1]] W fun e w' => ∃ a c, e = .returned (.tuple #[.agg #[.int .i64 r1, .slice a r2.length c, .int .i64 r4], .int .i64 r3]) ∧ r2.length ≤ c ∧ Own w' W.heap.size a r2 ∧ Below W.heap.size W w' ∧ Below W0.heap.size W0 w' from
      fun b0 d0 b1 d1 W hW h0 h1 i0 i1 => by
        have := iSquareOfExact s0 b0 xs0 d0 ex0 s1 b1 xs1 d1 ex1 W _ (Nat.le_refl _) i0 i1 hl0 hl1 (HTB.out W hW)
        rw [← hr] at this
        exact this.mono fun e w' ⟨a, c, he, hc, ho, hb⟩ => ⟨a, c, he, hc, ho, hb, hW.trans (hb.mono hW.size)⟩)
    have hT : Below W0.heap.size W0 W0 := Below.refl _ _
    have hn0 : decide (1048576 - (xs0.length : Int) - (xs1.length : Int) < 0) = false := decide_eq_false (by omega)
    have HN0 := Lib.hid (show xs0.length ≤ 1048576 by omega)
    have HN1 := Lib.hid (show xs1.length ≤ 1048576 by omega)
    have HR2 := Lib.hid (show r2.length ≤ 4611686018427387904 from (by have h1 : r2 = (sqY s0 xs0 ex0 s1 xs1 ex1).2.1 := congrArg (fun r => r.2.1) hr; rw [h1]; exact Nat.le_trans (sqY_len _ _ _ _ _ _) (by omega)))
    clear p0 p8 p9 hx0 hx1 hW0 hl0 hl1 hbig hr
    go_enter Tryd.func9, Tryd.ntmps9
    go_wp2_with fail
    rw [HW0.out]
    refine (szEx_ok s0 a0 xs0.length c0 ex0 s1 a1 xs1.length c1 ex1 1048576 _ (by have := HL.out; omega) (by omega)).mono ?_
    rintro e w1 ⟨rfl, hb⟩
    have hU1 : Below W0.heap.size W0 w1 := hT.trans (hb.mono hT.size)
    clear hb
    obtain ⟨k0, k1, k2, k3, k4, k5⟩ := SS.out _ hU1
    go_wp2_with fail
    refine (HT0.out _ hU1).mono ?_
    rintro e v1 ⟨b9, d9, b8, d8, rfl, hd9, hd8, ho, ho8, hap, hb, hz⟩
    go_wp2_with fail
    refine (HSP.out _ _ _ _ _ hz hd9 hd8 (Own2.own ho).ints (Own2.own ho8).ints).mono ?_
    rintro e v2 ⟨a6, c6, rfl, hc6, ho6, hbb, hbz⟩
    have hsv1 := hz.size
    have hsv2 := hbz.size
    have hsv3 := hbb.size
    have hWs := (below_alloc hbz (.cells #[.int .i64 r1, .slice a6 r2.length c6, .int .i64 r4] 53)).size
    have hU := Lib.hid (below_alloc hbz (.cells #[.int .i64 r1, .slice a6 r2.length c6, .int .i64 r4] 53))
    have B6 := Lib.hid (BoxAt.new v2 53 #[.int .i64 r1, .slice a6 r2.length c6, .int .i64 r4])
    have O6 := Lib.hid ((Own2.of (ho6.mono hsv1)).alloc (.cells #[.int .i64 r1, .slice a6 r2.length c6, .int .i64 r4] 53))
    have hr3 : (r3 != r3) = false := by simp
    have hr4 : (r4 != r4) = false := by simp
    clear ho6 hc6 hbb hbz ho ho8 hap hb hz hd9 hd8 HSP hT HL hU1 k0 k1 k2 k3 k4 k5
    obtain ⟨x1_0, x1_1, x1_2, x1_3, x1_4, x1_5⟩ := SS.out _ hU.out
    go_wp2_with fail
    refine (HT0.out _ hU.out).mono ?_
    rintro e wx1 ⟨b0, d0, b1, d1, rfl, hd0, hd1, ho, hp, hap, hb, hz⟩
    have hsz_wx1 := hb.size
    (try simp at hsz_wx1)
    clear x1_0 x1_1 x1_2 x1_3 x1_4 x1_5
    have B6_2 := Lib.hid (B6.out.below hb)
    have O6_3 := Lib.hid (O6.out.below hb (by first | omega | (simp; done) | (simp; omega)))
    clear B6 O6
    clear hU
    have hU_wx1 := Lib.hid hz
    have OX0 := Lib.hid ho
    have OX1 := Lib.hid hp
    have HD0 := Lib.hid hd0
    have HD1 := Lib.hid hd1
    have HAP := Lib.hid hap
    clear ho hp hb hz hd0 hd1 hap
    have B6_4 := Lib.hid (B6_2.out.alloc (.cells #[.int .i64 s0, .slice b0 xs0.length d0, .int .i64 ex0, .int .i64 s1, .slice b1 xs1.length d1, .int .i64 ex1] 64))
    have O6_5 := Lib.hid (O6_3.out.alloc (.cells #[.int .i64 s0, .slice b0 xs0.length d0, .int .i64 ex0, .int .i64 s1, .slice b1 xs1.length d1, .int .i64 ex1] 64))
    have OX0_6 := Lib.hid (OX0.out.alloc (.cells #[.int .i64 s0, .slice b0 xs0.length d0, .int .i64 ex0, .int .i64 s1, .slice b1 xs1.length d1, .int .i64 ex1] 64))
    have OX1_7 := Lib.hid (OX1.out.alloc (.cells #[.int .i64 s0, .slice b0 xs0.length d0, .int .i64 ex0, .int .i64 s1, .slice b1 xs1.length d1, .int .i64 ex1] 64))
    clear B6_2 O6_3 OX0 OX1
    have hU_8 := Lib.hid (below_alloc hU_wx1.out (.cells #[.int .i64 s0, .slice b0 xs0.length d0, .int .i64 ex0, .int .i64 s1, .slice b1 xs1.length d1, .int .i64 ex1] 64))
    clear hU_wx1
    have BX := Lib.hid (BoxAt.new wx1 64 #[.int .i64 s0, .slice b0 xs0.length d0, .int .i64 ex0, .int .i64 s1, .slice b1 xs1.length d1, .int .i64 ex1])
    obtain ⟨y9_0, y9_1, y9_2, y9_3, y9_4, y9_5, y9_6, y9_7, y9_8, y9_9, y9_10, y9_11⟩ := BX.out.six12
    go_wp2_with fail
    refine (HIM.out _ _ _ _ _ hU_8.out HD0.out HD1.out (Own2.own OX0_6.out).ints (Own2.own OX1_7.out).ints).mono ?_
    rintro e wg ⟨ag, cg, rfl, hcg, ho, hb, hz⟩
    have hsz_g := hb.size
    (try simp at hsz_g)
    clear y9_0 y9_1 y9_2 y9_3 y9_4 y9_5 y9_6 y9_7 y9_8 y9_9 y9_10 y9_11
    have B6_10 := Lib.hid (B6_4.out.below hb)
    have BX_11 := Lib.hid (BX.out.below hb)
    have O6_12 := Lib.hid (O6_5.out.below hb (by first | omega | (simp; done) | (simp; omega)))
    have OX0_13 := Lib.hid (OX0_6.out.below hb (by first | omega | (simp; done) | (simp; omega)))
    have OX1_14 := Lib.hid (OX1_7.out.below hb (by first | omega | (simp; done) | (simp; omega)))
    clear B6_4 BX O6_5 OX0_6 OX1_7
    clear hU_8
    have hU_g := Lib.hid hz
    have OG := Lib.hid (Own2.of ho)
    clear ho hb hz hcg
    have B6_15 := Lib.hid (B6_10.out.alloc (.cells #[.int .i64 r1, .slice ag r2.length cg, .int .i64 r4] 53))
    have BX_16 := Lib.hid (BX_11.out.alloc (.cells #[.int .i64 r1, .slice ag r2.length cg, .int .i64 r4] 53))
    have O6_17 := Lib.hid (O6_12.out.alloc (.cells #[.int .i64 r1, .slice ag r2.length cg, .int .i64 r4] 53))
    have OX0_18 := Lib.hid (OX0_13.out.alloc (.cells #[.int .i64 r1, .slice ag r2.length cg, .int .i64 r4] 53))
    have OX1_19 := Lib.hid (OX1_14.out.alloc (.cells #[.int .i64 r1, .slice ag r2.length cg, .int .i64 r4] 53))
    have OG_20 := Lib.hid (OG.out.alloc (.cells #[.int .i64 r1, .slice ag r2.length cg, .int .i64 r4] 53))
    clear B6_10 BX_11 O6_12 OX0_13 OX1_14 OG
    have hU_21 := Lib.hid (below_alloc hU_g.out (.cells #[.int .i64 r1, .slice ag r2.length cg, .int .i64 r4] 53))
    clear hU_g
    have BG := Lib.hid (BoxAt.new wg 53 #[.int .i64 r1, .slice ag r2.length cg, .int .i64 r4])
    obtain ⟨y22_0, y22_1, y22_2, y22_3, y22_4, y22_5⟩ := BG.out.tri6
    obtain ⟨y23_0, y23_1, y23_2, y23_3, y23_4, y23_5⟩ := B6_15.out.tri6
    go_wp2_with fail
    refine (eqDyadic_yes r1 _ _ r2 _ _ _ r4 rfl _ _ _ (Nat.le_refl _) (Nat.le_refl _) (Own2.own OG_20.out).ints (Own2.own O6_17.out).ints (by have := HR2.out; omega)).mono ?_
    rintro e we ⟨rfl, hb⟩
    have hsz_we := hb.size
    (try simp at hsz_we)
    clear y22_0 y22_1 y22_2 y22_3 y22_4 y22_5 y23_0 y23_1 y23_2 y23_3 y23_4 y23_5
    have hU_24 := Lib.hid (hU_21.out.trans (hb.mono hU_21.out.size))
    clear hU_21
    have B6_25 := Lib.hid (B6_15.out.below hb)
    have BX_26 := Lib.hid (BX_16.out.below hb)
    have BG_27 := Lib.hid (BG.out.below hb)
    have O6_28 := Lib.hid (O6_17.out.below hb (by first | omega | (simp; done) | (simp; omega)))
    have OX0_29 := Lib.hid (OX0_18.out.below hb (by first | omega | (simp; done) | (simp; omega)))
    have OX1_30 := Lib.hid (OX1_19.out.below hb (by first | omega | (simp; done) | (simp; omega)))
    have OG_31 := Lib.hid (OG_20.out.below hb (by first | omega | (simp; done) | (simp; omega)))
    clear B6_15 BX_16 BG O6_17 OX0_18 OX1_19 OG_20
    clear hb
    obtain ⟨x32_0, x32_1, x32_2, x32_3, x32_4, x32_5⟩ := SS.out _ hU_24.out
    have SX := Lib.hid (show ∀ W, Below we.heap.size we W → (W.cell? ⟨w.heap.size, 0, none⟩ = some (.int .i64 s0) ∧ W.cell? ⟨w.heap.size, 1, none⟩ = some (.slice a0 xs0.length c0) ∧ W.cell? ⟨w.heap.size, 2, none⟩ = some (.int .i64 ex0) ∧ W.cell? ⟨w.heap.size, 3, none⟩ = some (.int .i64 s1) ∧ W.cell? ⟨w.heap.size, 4, none⟩ = some (.slice a1 xs1.length c1) ∧ W.cell? ⟨w.heap.size, 5, none⟩ = some (.int .i64 ex1) ∧ W.cell? ⟨wx1.heap.size, 0, none⟩ = some (.int .i64 s0) ∧ W.cell? ⟨wx1.heap.size, 1, none⟩ = some (.slice b0 xs0.length d0) ∧ W.cell? ⟨wx1.heap.size, 2, none⟩ = some (.int .i64 ex0) ∧ W.cell? ⟨wx1.heap.size, 3, none⟩ = some (.int .i64 s1) ∧ W.cell? ⟨wx1.heap.size, 4, none⟩ = some (.slice b1 xs1.length d1) ∧ W.cell? ⟨wx1.heap.size, 5, none⟩ = some (.int .i64 ex1)) from fun W hW => ⟨(SS.out _ (hU_24.out.trans (hW.mono hU_24.out.size))).1, (SS.out _ (hU_24.out.trans (hW.mono hU_24.out.size))).2.1, (SS.out _ (hU_24.out.trans (hW.mono hU_24.out.size))).2.2.1, (SS.out _ (hU_24.out.trans (hW.mono hU_24.out.size))).2.2.2.1, (SS.out _ (hU_24.out.trans (hW.mono hU_24.out.size))).2.2.2.2.1, (SS.out _ (hU_24.out.trans (hW.mono hU_24.out.size))).2.2.2.2.2, (BX_26.out.below hW).cell 0, (BX_26.out.below hW).cell 1, (BX_26.out.below hW).cell 2, (BX_26.out.below hW).cell 3, (BX_26.out.below hW).cell 4, (BX_26.out.below hW).cell 5⟩)
    have TX := Lib.hid (show ∀ W, Below we.heap.size we W → Calls Tryd.prog 51 #[.agg #[.int .i64 s0, .slice a0 xs0.length c0, .int .i64 ex0, .int .i64 s1, .slice a1 xs1.length c1, .int .i64 ex1]] W fun e w' => ∃ a' c' b' d', e = .returned (.agg #[.int .i64 s0, .slice a' xs0.length c', .int .i64 ex0, .int .i64 s1, .slice b' xs1.length d', .int .i64 ex1]) ∧ Own w' W.heap.size a' xs0 ∧ Own w' W.heap.size b' xs1 ∧ Below we.heap.size we w' from fun W hW => (HT0.out W (hU_24.out.trans (hW.mono hU_24.out.size))).mono fun e w' ⟨a, c, b, d, he, _, _, ho, hp, _, hb, _⟩ => ⟨a, c, b, d, he, ho.own, hp.own, hW.trans (hb.mono hW.size)⟩)
    have EX := Lib.hid (show ∀ a' c' lo b' d' lo' W, Below we.heap.size we W → Own W lo a' xs0 → Own W lo' b' xs1 → Calls Tryd.prog 53 #[.agg #[.int .i64 s0, .slice b0 xs0.length d0, .int .i64 ex0, .int .i64 s1, .slice b1 xs1.length d1, .int .i64 ex1], .agg #[.int .i64 s0, .slice a' xs0.length c', .int .i64 ex0, .int .i64 s1, .slice b' xs1.length d', .int .i64 ex1]] W fun e w' => e = .returned (.bool true) ∧ Below we.heap.size we w' from fun a' c' lo b' d' lo' W hW ho hp => (eqExact_yes s0 _ _ xs0 _ _ _ ex0 s1 _ _ xs1 _ _ _ ex1 rfl rfl _ _ _ _ _ hW.size hW.size (Nat.le_refl _) (Nat.le_refl _) ((Own2.own OX0_29.out).ints.below hW) ho.ints ((Own2.own OX1_30.out).ints.below hW) hp.ints (by have := HN0.out; omega) (by have := HN1.out; omega)).mono fun e w' ⟨he, hb⟩ => ⟨he, hW.trans (hb.mono hW.size)⟩)
    have hTT : Below we.heap.size we we.drew := (Below.refl _ _).drew
    clear x32_0 x32_1 x32_2 x32_3 x32_4 x32_5
    go_wp2_with fail
    go_region_held3 (fun W => W.cell? ⟨w.heap.size, 0, none⟩ = some (.int .i64 s0) ∧ W.cell? ⟨w.heap.size, 1, none⟩ = some (.slice a0 xs0.length c0) ∧ W.cell? ⟨w.heap.size, 2, none⟩ = some (.int .i64 ex0) ∧ W.cell? ⟨w.heap.size, 3, none⟩ = some (.int .i64 s1) ∧ W.cell? ⟨w.heap.size, 4, none⟩ = some (.slice a1 xs1.length c1) ∧ W.cell? ⟨w.heap.size, 5, none⟩ = some (.int .i64 ex1) ∧ W.cell? ⟨wx1.heap.size, 0, none⟩ = some (.int .i64 s0) ∧ W.cell? ⟨wx1.heap.size, 1, none⟩ = some (.slice b0 xs0.length d0) ∧ W.cell? ⟨wx1.heap.size, 2, none⟩ = some (.int .i64 ex0) ∧ W.cell? ⟨wx1.heap.size, 3, none⟩ = some (.int .i64 s1) ∧ W.cell? ⟨wx1.heap.size, 4, none⟩ = some (.slice b1 xs1.length d1) ∧ W.cell? ⟨wx1.heap.size, 5, none⟩ = some (.int .i64 ex1))
      (exact SX.out _ (by assumption))
      (first
      | (go_at_call 51; refine (TX.out _ (by assumption)).mono ?_; rintro e u1 ⟨y1, f1, y2, f2, rfl, ho1, ho2, hb1⟩)
      | (go_at_call 53; refine (EX.out _ _ _ _ _ _ _ (by assumption) ho1 ho2).mono ?_; rintro e wd ⟨rfl, hbd⟩))
    have hsz_d := hbd.size
    have hU_33 := Lib.hid (hU_24.out.trans (hbd.mono hU_24.out.size))
    clear hU_24
    have B6_34 := Lib.hid (B6_25.out.below hbd)
    have BX_35 := Lib.hid (BX_26.out.below hbd)
    have BG_36 := Lib.hid (BG_27.out.below hbd)
    have O6_37 := Lib.hid (O6_28.out.below hbd (by first | omega | (simp; done) | (simp; omega)))
    have OX0_38 := Lib.hid (OX0_29.out.below hbd (by first | omega | (simp; done) | (simp; omega)))
    have OX1_39 := Lib.hid (OX1_30.out.below hbd (by first | omega | (simp; done) | (simp; omega)))
    have OG_40 := Lib.hid (OG_31.out.below hbd (by first | omega | (simp; done) | (simp; omega)))
    clear B6_25 BX_26 BG_27 O6_28 OX0_29 OX1_30 OG_31
    clear ho1 ho2 hb1 hbd hTT SX TX EX
    obtain ⟨y41_0, y41_1, y41_2, y41_3, y41_4, y41_5, y41_6, y41_7, y41_8, y41_9, y41_10, y41_11⟩ := BX_35.out.six12
    go_wp2_with fail
    refine (markExact s0 _ xs0 _ ex0 s1 _ xs1 _ ex1 1 _ _ (by have := HN0.out; omega) (by have := HN1.out; omega) (Own2.own OX0_38.out) (Own2.own OX1_39.out) HAP.out (by omega) (by omega)).mono ?_
    rintro e wm ⟨rfl, hom, hom2, wq, row, row', hgr, hgr', hrow, hrow'⟩
    have hrw := Own2.row_ge OX0_38.out rfl hrow
    have hrw' := Own2.row_ge OX1_39.out rfl hrow'
    have hsz_wq := hgr.size
    have hsz_wm := hgr'.size
    clear y41_0 y41_1 y41_2 y41_3 y41_4 y41_5 y41_6 y41_7 y41_8 y41_9 y41_10 y41_11
    have B6_42 := Lib.hid (B6_34.out.grown hgr (fun e => by have := hrw _ e.symm; (try simp only [size_al] at this); (try simp only [size_al]); omega))
    have BX_43 := Lib.hid (BX_35.out.grown hgr (fun e => by have := hrw _ e.symm; (try simp only [size_al] at this); (try simp only [size_al]); omega))
    have BG_44 := Lib.hid (BG_36.out.grown hgr (fun e => by have := hrw _ e.symm; (try simp only [size_al] at this); (try simp only [size_al]); omega))
    have O6_45 := Lib.hid (O6_37.out.grown hgr (fun g e => by have := hrw g e; (try simp only [size_al] at this); (try simp only [size_al]); omega))
    have OG_46 := Lib.hid (OG_40.out.grown hgr (fun g e => by have := hrw g e; (try simp only [size_al] at this); (try simp only [size_al]); omega))
    clear B6_34 BX_35 BG_36 O6_37 OG_40
    have hU_47 := Lib.hid (hU_33.out.trans (below_of_grown hgr hU_33.out.size (fun g e => by have := hrw g e; (try simp only [size_al] at this); have := hWs; omega)))
    clear hU_33
    have B6_48 := Lib.hid (B6_42.out.grown hgr' (fun e => by have := hrw' _ e.symm; (try simp only [size_al] at this); (try simp only [size_al]); omega))
    have BX_49 := Lib.hid (BX_43.out.grown hgr' (fun e => by have := hrw' _ e.symm; (try simp only [size_al] at this); (try simp only [size_al]); omega))
    have BG_50 := Lib.hid (BG_44.out.grown hgr' (fun e => by have := hrw' _ e.symm; (try simp only [size_al] at this); (try simp only [size_al]); omega))
    have O6_51 := Lib.hid (O6_45.out.grown hgr' (fun g e => by have := hrw' g e; (try simp only [size_al] at this); (try simp only [size_al]); omega))
    have OG_52 := Lib.hid (OG_46.out.grown hgr' (fun g e => by have := hrw' g e; (try simp only [size_al] at this); (try simp only [size_al]); omega))
    clear B6_42 BX_43 BG_44 O6_45 OG_46
    have hU_53 := Lib.hid (hU_47.out.trans (below_of_grown hgr' hU_47.out.size (fun g e => by have := hrw' g e; (try simp only [size_al] at this); have := hWs; omega)))
    clear hU_47
    clear hgr hgr' hrow hrow' hrw hrw' hom hom2 OX0_38 OX1_39
    have hmneg : decide ((1 : Int) + (xs0.length : Int) + (xs1.length : Int) < 0) = false := decide_eq_false (by omega)
    obtain ⟨y54_0, y54_1, y54_2, y54_3, y54_4, y54_5⟩ := BG_50.out.tri6
    obtain ⟨y55_0, y55_1, y55_2, y55_3, y55_4, y55_5⟩ := B6_48.out.tri6
    go_wp2_with fail
    refine (eqDyadic_yes r1 _ _ r2 _ _ _ r4 rfl _ _ _ (Nat.le_refl _) (Nat.le_refl _) (Own2.own OG_52.out).ints (Own2.own O6_51.out).ints (by have := HR2.out; omega)).mono ?_
    rintro e wf ⟨rfl, hb⟩
    have hsz_wf := hb.size
    (try simp at hsz_wf)
    clear y54_0 y54_1 y54_2 y54_3 y54_4 y54_5 y55_0 y55_1 y55_2 y55_3 y55_4 y55_5
    have hU_56 := Lib.hid (hU_53.out.trans (hb.mono hU_53.out.size))
    clear hU_53
    have B6_57 := Lib.hid (B6_48.out.below hb)
    have BX_58 := Lib.hid (BX_49.out.below hb)
    have BG_59 := Lib.hid (BG_50.out.below hb)
    have O6_60 := Lib.hid (O6_51.out.below hb (by first | omega | (simp; done) | (simp; omega)))
    have OG_61 := Lib.hid (OG_52.out.below hb (by first | omega | (simp; done) | (simp; omega)))
    clear B6_48 BX_49 BG_50 O6_51 OG_52
    clear hb
    obtain ⟨y62_0, y62_1, y62_2, y62_3, y62_4, y62_5⟩ := BG_59.out.tri6
    go_wp2_with fail
    refine (markDyadic r1 _ r2 _ r4 1 _ _ (by have := HR2.out; omega) (Own2.own OG_61.out) (by omega) (by omega)).mono ?_
    rintro e wk ⟨rfl, hom, row, hgr, hrow⟩
    have hrw := Own2.row_ge OG_61.out rfl hrow
    have hsz_wk := hgr.size
    clear y62_0 y62_1 y62_2 y62_3 y62_4 y62_5
    have B6_63 := Lib.hid (B6_57.out.grown hgr (fun e => by have := hrw _ e.symm; (try simp only [size_al] at this); (try simp only [size_al]); omega))
    have BX_64 := Lib.hid (BX_58.out.grown hgr (fun e => by have := hrw _ e.symm; (try simp only [size_al] at this); (try simp only [size_al]); omega))
    have BG_65 := Lib.hid (BG_59.out.grown hgr (fun e => by have := hrw _ e.symm; (try simp only [size_al] at this); (try simp only [size_al]); omega))
    have O6_66 := Lib.hid (O6_60.out.grown hgr (fun g e => by have := hrw g e; (try simp only [size_al] at this); (try simp only [size_al]); omega))
    clear B6_57 BX_58 BG_59 O6_60
    have hU_67 := Lib.hid (hU_56.out.trans (below_of_grown hgr hU_56.out.size (fun g e => by have := hrw g e; (try simp only [size_al] at this); have := hWs; omega)))
    clear hU_56
    clear hgr hrow hrw OG_61
    have OM := Lib.hid hom
    clear hom
    have hmneg2 : decide ((1 : Int) + (r2.length : Int) < 0) = false := decide_eq_false (by omega)
    have hmne : ((1 : Int) + (r2.length : Int) != (1 : Int) + (r2.length : Int)) = false := by simp
    obtain ⟨y68_0, y68_1, y68_2, y68_3, y68_4, y68_5⟩ := BG_65.out.tri6
    go_wp2_with fail
    refine (heldDyadic r1 _ r2.length _ r4 1 _ _ (Nat.le_refl _) (by have := HR2.out; omega) OM.out.ints (by omega) (by omega)).mono ?_
    rintro e wh ⟨rfl, hb⟩
    have hsz_wh := hb.size
    clear y68_0 y68_1 y68_2 y68_3 y68_4 y68_5
    have hU_69 := Lib.hid (hU_67.out.trans (hb.mono hU_67.out.size))
    clear hU_67
    have B6_70 := Lib.hid (B6_63.out.below hb)
    have BX_71 := Lib.hid (BX_64.out.below hb)
    have BG_72 := Lib.hid (BG_65.out.below hb)
    have O6_73 := Lib.hid (O6_66.out.below hb (by first | omega | (simp; done) | (simp; omega)))
    have OM_74 := Lib.hid (OM.out.below hb)
    clear B6_63 BX_64 BG_65 O6_66 OM
    clear hb
    obtain ⟨x75_0, x75_1, x75_2, x75_3, x75_4, x75_5⟩ := SS.out _ hU_69.out
    go_wp2_with fail
    refine (HT0.out _ hU_69.out).mono ?_
    rintro e vy1 ⟨b7, d7, b5, d5, rfl, hd7, hd5, hoy, hoz, hapy, hb, hz⟩
    have hsz_vy1 := hb.size
    (try simp at hsz_vy1)
    clear x75_0 x75_1 x75_2 x75_3 x75_4 x75_5
    have B6_76 := Lib.hid (B6_70.out.below hb)
    have BX_77 := Lib.hid (BX_71.out.below hb)
    have BG_78 := Lib.hid (BG_72.out.below hb)
    have O6_79 := Lib.hid (O6_73.out.below hb (by first | omega | (simp; done) | (simp; omega)))
    have OM_80 := Lib.hid (OM_74.out.below hb)
    clear B6_70 BX_71 BG_72 O6_73 OM_74
    clear hU_69
    have hU_vy1 := Lib.hid hz
    clear hb hz
    go_wp2_with fail
    refine (HIM.out _ _ _ _ _ hU_vy1.out hd7 hd5 (Own2.own hoy).ints (Own2.own hoz).ints).mono ?_
    rintro e vy2 ⟨a7, c7, rfl, hc7, ho7, hb, hz⟩
    have hsz_vy2 := hb.size
    (try simp at hsz_vy2)
    have B6_81 := Lib.hid (B6_76.out.below hb)
    have BX_82 := Lib.hid (BX_77.out.below hb)
    have BG_83 := Lib.hid (BG_78.out.below hb)
    have O6_84 := Lib.hid (O6_79.out.below hb (by first | omega | (simp; done) | (simp; omega)))
    have OM_85 := Lib.hid (OM_80.out.below hb)
    clear B6_76 BX_77 BG_78 O6_79 OM_80
    clear hU_vy1
    have hU_vy2 := Lib.hid hz
    have O7 := Lib.hid (Own2.of ho7)
    clear hb hz hoy hoz hapy hd7 hd5 ho7 hc7
    have B6_86 := Lib.hid (B6_81.out.alloc (.cells #[.int .i64 r1, .slice a7 r2.length c7, .int .i64 r4] 53))
    have BX_87 := Lib.hid (BX_82.out.alloc (.cells #[.int .i64 r1, .slice a7 r2.length c7, .int .i64 r4] 53))
    have BG_88 := Lib.hid (BG_83.out.alloc (.cells #[.int .i64 r1, .slice a7 r2.length c7, .int .i64 r4] 53))
    have O6_89 := Lib.hid (O6_84.out.alloc (.cells #[.int .i64 r1, .slice a7 r2.length c7, .int .i64 r4] 53))
    have O7_90 := Lib.hid (O7.out.alloc (.cells #[.int .i64 r1, .slice a7 r2.length c7, .int .i64 r4] 53))
    have OM_91 := Lib.hid (OM_85.out.alloc (.cells #[.int .i64 r1, .slice a7 r2.length c7, .int .i64 r4] 53))
    clear B6_81 BX_82 BG_83 O6_84 O7 OM_85
    have hU_92 := Lib.hid (below_alloc hU_vy2.out (.cells #[.int .i64 r1, .slice a7 r2.length c7, .int .i64 r4] 53))
    clear hU_vy2
    have B7 := Lib.hid (BoxAt.new vy2 53 #[.int .i64 r1, .slice a7 r2.length c7, .int .i64 r4])
    obtain ⟨y93_0, y93_1, y93_2, y93_3, y93_4, y93_5⟩ := B7.out.tri6
    obtain ⟨y94_0, y94_1, y94_2, y94_3, y94_4, y94_5⟩ := B6_86.out.tri6
    go_wp2_with fail
    refine (eqDyadic_yes r1 _ _ r2 _ _ _ r4 rfl _ _ _ (Nat.le_refl _) (Nat.le_refl _) (Own2.own O7_90.out).ints (Own2.own O6_89.out).ints (by have := HR2.out; omega)).mono ?_
    rintro e wy ⟨rfl, hb⟩
    have hsz_wy := hb.size
    (try simp at hsz_wy)
    clear y93_0 y93_1 y93_2 y93_3 y93_4 y93_5 y94_0 y94_1 y94_2 y94_3 y94_4 y94_5
    have hU_95 := Lib.hid (hU_92.out.trans (hb.mono hU_92.out.size))
    clear hU_92
    have B6_96 := Lib.hid (B6_86.out.below hb)
    have BX_97 := Lib.hid (BX_87.out.below hb)
    have BG_98 := Lib.hid (BG_88.out.below hb)
    have B7_99 := Lib.hid (B7.out.below hb)
    have O6_100 := Lib.hid (O6_89.out.below hb (by first | omega | (simp; done) | (simp; omega)))
    have O7_101 := Lib.hid (O7_90.out.below hb (by first | omega | (simp; done) | (simp; omega)))
    have OM_102 := Lib.hid (OM_91.out.below hb)
    clear B6_86 BX_87 BG_88 B7 O6_89 O7_90 OM_91
    clear hb
    obtain ⟨y103_0, y103_1, y103_2, y103_3, y103_4, y103_5⟩ := BG_98.out.tri6
    go_wp2_with fail
    refine (heldDyadic r1 _ r2.length _ r4 1 _ _ (Nat.le_refl _) (by have := HR2.out; omega) OM_102.out.ints (by omega) (by omega)).mono ?_
    rintro e wz ⟨rfl, hb⟩
    have hsz_wz := hb.size
    clear y103_0 y103_1 y103_2 y103_3 y103_4 y103_5
    have hU_104 := Lib.hid (hU_95.out.trans (hb.mono hU_95.out.size))
    clear hU_95
    have B6_105 := Lib.hid (B6_96.out.below hb)
    have BX_106 := Lib.hid (BX_97.out.below hb)
    have BG_107 := Lib.hid (BG_98.out.below hb)
    have B7_108 := Lib.hid (B7_99.out.below hb)
    have O6_109 := Lib.hid (O6_100.out.below hb (by first | omega | (simp; done) | (simp; omega)))
    have O7_110 := Lib.hid (O7_101.out.below hb (by first | omega | (simp; done) | (simp; omega)))
    have OM_111 := Lib.hid (OM_102.out.below hb)
    clear B6_96 BX_97 BG_98 B7_99 O6_100 O7_101 OM_102
    clear hb
    go_wp2_with fail
    go_ret
    exact ⟨rfl, P3.out.trans (hU_104.out.mono (by have := P4.out; omega))⟩
  · obtain ⟨W0, hW0⟩ : ∃ W0 : World, w.alloc (.cells #[.int .i64 s0, .slice a0 xs0.length c0, .int .i64 ex0, .int .i64 s1, .slice a1 xs1.length c1, .int .i64 ex1] 61) = W0 := ⟨_, rfl⟩
    obtain ⟨p0, p8, p9⟩ := one_box w 61 #[.int .i64 s0, .slice a0 xs0.length c0, .int .i64 ex0, .int .i64 s1, .slice a1 xs1.length c1, .int .i64 ex1]
    rw [hW0] at p0 p8 p9
    have HW0 := Lib.hid hW0
    have P3 := Lib.hid p8
    have P4 := Lib.hid p9
    obtain ⟨k0, k1, k2, k3, k4, k5⟩ := p0.six
    clear p0 p8 p9 hx0 hx1 hW0
    go_enter Tryd.func9, Tryd.ntmps9
    go_wp2_with fail
    rw [HW0.out]
    refine (szEx_no s0 a0 xs0.length c0 ex0 s1 a1 xs1.length c1 ex1 1048576 _ (by omega) hl0 hl1 (by omega) (by omega)).mono ?_
    rintro e wq ⟨rfl, hb⟩
    have hB := Lib.hid (P3.out.trans (hb.mono (by have := P4.out; omega)))
    clear hb
    go_wp2_with fail
    go_ret
    exact ⟨rfl, hB.out⟩
end Go.Proofs.YtebkpaonmeokgaaDoor
