/-
  The walk of laws.FnExactCommonOfWholes. Conditions: the limbs can be read.
-/
import Derived.Test.YtnnbfoemmgddeaaLx
import Derived.Test.YtnnbfoemmgddeaaWr
import Derived.Deep.DeepCutAuto
import Derived.Deep.RegionHeld3
namespace Go.Proofs.Ytnnbfoemmgddeaa
set_option linter.unusedVariables false
open Go Go.RowKit

set_option maxRecDepth 100000 in
set_option maxHeartbeats 8000000 in
theorem CommonOfWholes_walk (s0 : Int) (a0 : Option Addr) (xs0 : List Int) (c0 : Nat) (s1 : Int) (a1 : Option Addr) (xs1 : List Int) (c1 : Nat) (w : World) (hl0 : xs0.length ≤ 9223372036854775807) (hx0 : Ints w w.heap.size a0 xs0) (hl1 : xs1.length ≤ 9223372036854775807) (hx1 : Ints w w.heap.size a1 xs1) :
    Calls Try.prog 6 #[.agg #[.int .i64 s0, .slice a0 xs0.length c0], .agg #[.int .i64 s1, .slice a1 xs1.length c1]] w (LawDone w) := by
  by_cases hbig : (xs0.length : Int) + (xs1.length : Int) ≤ 1048576
  · have HL := Lib.hid hbig
    obtain ⟨⟨r1, r2, r3⟩, hr⟩ : ∃ r : Int × List Int × Int, r = binR gcdZ s0 xs0 s1 xs1 := ⟨_, rfl⟩
    obtain ⟨W0, hW0⟩ : ∃ W0 : World, ((w.alloc (.cells #[.int .i64 s0, .slice a0 xs0.length c0] 56)).alloc (.cells #[.int .i64 s1, .slice a1 xs1.length c1] 56)) = W0 := ⟨_, rfl⟩
    obtain ⟨p0, p1, p8, p9⟩ := two_box w 56 #[.int .i64 s0, .slice a0 xs0.length c0] #[.int .i64 s1, .slice a1 xs1.length c1]
    rw [hW0] at p0 p1 p8 p9
    have HW0 := Lib.hid hW0
    have P3 := Lib.hid p8
    have P4 := Lib.hid p9
    have SS := Lib.hid (show ∀ W, Below W0.heap.size W0 W → (W.cell? ⟨w.heap.size, 0, none⟩ = some (.int .i64 s0) ∧ W.cell? ⟨w.heap.size, 1, none⟩ = some (.slice a0 xs0.length c0) ∧ W.cell? ⟨w.heap.size + 1, 0, none⟩ = some (.int .i64 s1) ∧ W.cell? ⟨w.heap.size + 1, 1, none⟩ = some (.slice a1 xs1.length c1)) from fun W hW => ⟨(p0.below hW).cell 0, (p0.below hW).cell 1, (p1.below hW).cell 0, (p1.below hW).cell 1⟩)
    have HT0 := Lib.hid (show ∀ W, Below W0.heap.size W0 W → Calls Try.prog 57 #[.agg #[.int .i64 s0, .slice a0 xs0.length c0]] W fun e w' => ∃ a' c', e = .returned (.agg #[.int .i64 s0, .slice a' xs0.length c']) ∧ xs0.length ≤ c' ∧ Own2 w' W.heap.size w'.heap.size a' xs0 ∧ Below W.heap.size W w' ∧ Below W0.heap.size W0 w' from
      fun W hW => (toWhole s0 a0 xs0 c0 W w.heap.size (by have := hW.size; omega) (by omega) (hx0.below (p8.trans (hW.mono (by omega))))).mono fun e w' ⟨a, c, he, hc, ho, hb⟩ => ⟨a, c, he, hc, Own2.of ho, hb, hW.trans (hb.mono hW.size)⟩)
    have HT1 := Lib.hid (show ∀ W, Below W0.heap.size W0 W → Calls Try.prog 57 #[.agg #[.int .i64 s1, .slice a1 xs1.length c1]] W fun e w' => ∃ a' c', e = .returned (.agg #[.int .i64 s1, .slice a' xs1.length c']) ∧ xs1.length ≤ c' ∧ Own2 w' W.heap.size w'.heap.size a' xs1 ∧ Below W.heap.size W w' ∧ Below W0.heap.size W0 w' from
      fun W hW => (toWhole s1 a1 xs1 c1 W w.heap.size (by have := hW.size; omega) (by omega) (hx1.below (p8.trans (hW.mono (by omega))))).mono fun e w' ⟨a, c, he, hc, ho, hb⟩ => ⟨a, c, he, hc, Own2.of ho, hb, hW.trans (hb.mono hW.size)⟩)
    have HSP := Lib.hid (show ∀ (b0 : Option Addr) (d0 : Nat) (b1 : Option Addr) (d1 : Nat) W, Below W0.heap.size W0 W → xs0.length ≤ d0 → xs1.length ≤ d1 → Ints W W.heap.size b0 xs0 → Ints W W.heap.size b1 xs1 → Calls Try.prog 56 #[.agg #[.int .i64 s0, .slice b0 xs0.length d0], .agg #[.int .i64 s1, .slice b1 xs1.length d1]] W fun e w' => ∃ a c, e = .returned (.tuple #[.agg #[.int .i64 r1, .slice a r2.length c], .int .i64 r3]) ∧ r2.length ≤ c ∧ Own w' W.heap.size a r2 ∧ Below W.heap.size W w' ∧ Below W0.heap.size W0 w' from
      fun b0 d0 b1 d1 W hW h0 h1 i0 i1 => by
        have := sCommonOfWholes s0 s1 b0 b1 xs0 xs1 d0 d1 W _ _ (Nat.le_refl _) (Nat.le_refl _) i0 i1 hl0 hl1 h0 h1
        rw [← hr] at this
        exact this.mono fun e w' ⟨a, c, he, hc, ho, hb⟩ => ⟨a, c, he, hc, ho, hb, hW.trans (hb.mono hW.size)⟩)
    have HIM := Lib.hid (show ∀ (b0 : Option Addr) (d0 : Nat) (b1 : Option Addr) (d1 : Nat) W, Below W0.heap.size W0 W → xs0.length ≤ d0 → xs1.length ≤ d1 → Ints W W.heap.size b0 xs0 → Ints W W.heap.size b1 xs1 → Calls Try.prog 58 #[.agg #[.int .i64 s0, .slice b0 xs0.length d0], .agg #[.int .i64 s1, .slice b1 xs1.length d1]] W fun e w' => ∃ a c, e = .returned (.tuple #[.agg #[.int .i64 r1, .slice a r2.length c], .int .i64 r3]) ∧ r2.length ≤ c ∧ Own w' W.heap.size a r2 ∧ Below W.heap.size W w' ∧ Below W0.heap.size W0 w' from
      fun b0 d0 b1 d1 W hW h0 h1 i0 i1 => by
        have := iCommonOfWholes s0 s1 b0 b1 xs0 xs1 d0 d1 W _ _ (Nat.le_refl _) (Nat.le_refl _) i0 i1 hl0 hl1
        rw [← hr] at this
        exact this.mono fun e w' ⟨a, c, he, hc, ho, hb⟩ => ⟨a, c, he, hc, ho, hb, hW.trans (hb.mono hW.size)⟩)
    have hT : Below W0.heap.size W0 W0 := Below.refl _ _
    have hn0 : decide (1048576 - (xs0.length : Int) < 0) = false := decide_eq_false (by omega)
    have hn1 : decide (1048576 - (xs0.length : Int) - (xs1.length : Int) < 0) = false := decide_eq_false (by omega)
    have HN0 := Lib.hid (show xs0.length ≤ 1048576 by omega)
    have HN1 := Lib.hid (show xs1.length ≤ 1048576 by omega)
    have HR2 := Lib.hid (show r2.length ≤ 4611686018427387904 from (by have h1 : r2 = (binR gcdZ s0 xs0 s1 xs1).2.1 := congrArg (fun r => r.2.1) hr; rw [h1]; exact Nat.le_trans (binR_len _ _ _ _ _) (by omega)))
    clear p0 p1 p8 p9 hx0 hx1 hW0 hl0 hl1 hbig hr
    go_enter Try.func6, Try.ntmps6
    go_wp2_with fail
    rw [HW0.out]
    refine (szWhole_ok s0 a0 xs0.length c0 (1048576) _ (by have := HL.out; omega) (by omega)).mono ?_
    rintro e w1 ⟨rfl, hb⟩
    have hU1 : Below W0.heap.size W0 w1 := hT.trans (hb.mono hT.size)
    clear hb
    obtain ⟨k0, k1, k2, k3⟩ := SS.out _ hU1
    go_wp2_with fail
    refine (szWhole_ok s1 a1 xs1.length c1 (1048576 - (xs0.length : Int)) _ (by have := HL.out; omega) (by omega)).mono ?_
    rintro e w2 ⟨rfl, hb⟩
    clear k0 k1 k2 k3
    have hU2 : Below W0.heap.size W0 w2 := hU1.trans (hb.mono hU1.size)
    clear hb
    obtain ⟨k0, k1, k2, k3⟩ := SS.out _ hU2
    go_wp2_with fail
    go_cut [6, 7] (fun p q W => q = .int .i64 r3 ∧ ∃ hi, Res W0 W p r1 r2 hi)
    case first => as_aux_lemma =>
      have hTd := hU2.drew
      have hsz0 := hU2.size
      clear k0 k1 k2 k3
      go_region_held3 (fun W => W.cell? ⟨w.heap.size, 0, none⟩ = some (.int .i64 s0) ∧ W.cell? ⟨w.heap.size, 1, none⟩ = some (.slice a0 xs0.length c0) ∧ W.cell? ⟨w.heap.size + 1, 0, none⟩ = some (.int .i64 s1) ∧ W.cell? ⟨w.heap.size + 1, 1, none⟩ = some (.slice a1 xs1.length c1))
        (exact SS.out _ (by first | assumption | exact below_alloc (by assumption) _ | exact below_allocd (by assumption) _ | exact below_set2 (by assumption) (by omega) _ _))
        (first
        | (go_at_call 57; with_reducible refine (HT0.out _ (by first | assumption | exact below_alloc (by assumption) _ | exact below_allocd (by assumption) _ | exact below_set2 (by assumption) (by omega) _ _)).mono ?_; rintro e v1 ⟨e1, f1, rfl, hc1, ho1, hbb1, hbz1⟩; have hsz1 := hbz1.size; have hsy1 := hbb1.size; (try simp at hsy1); have hk1 := fun g v0 v1 (h : BoxAt _ g 58 #[v0, v1]) => BoxAt.below h hbb1)
        | (go_at_call 57; with_reducible refine (HT1.out _ (by first | assumption | exact below_alloc (by assumption) _ | exact below_allocd (by assumption) _ | exact below_set2 (by assumption) (by omega) _ _)).mono ?_; rintro e v2 ⟨e2, f2, rfl, hc2, ho2, hbb2, hbz2⟩; have hsz2 := hbz2.size; have hsy2 := hbb2.size; (try simp at hsy2); have hk2 := fun g v0 v1 (h : BoxAt _ g 58 #[v0, v1]) => BoxAt.below h hbb2; have ho12 := Own2.below (by first | exact ho1 | exact Own2.alloc ho1 _) hbb2 (by simp))
        | (go_at_call 56; refine (HSP.out _ _ _ _ _ (by first | assumption | exact below_alloc (by assumption) _ | exact below_allocd (by assumption) _ | exact below_set2 (by assumption) (by omega) _ _) hc1 hc2 (by first | exact (Own2.own ho12).ints | exact (Own2.own (Own2.alloc ho12 _)).ints) (by first | exact (Own2.own ho2).ints | exact (Own2.own (Own2.alloc ho2 _)).ints)).mono ?_; rintro e v3 ⟨e3, f3, rfl, hc3, ho3, hbb3, hbz3⟩; have hsz3 := hbz3.size; have hsy3 := hbb3.size; (try simp at hsy3); (first | (with_reducible have hq := BoxAt.below (BoxAt.new v2 _ _) hbb3; obtain ⟨q1, q2, q3, q4⟩ := BoxAt.two hq) | (with_reducible have hq := BoxAt.below (hk2 _ _ _ (BoxAt.new v1 _ _)) hbb3; obtain ⟨q1, q2, q3, q4⟩ := BoxAt.two hq) | (with_reducible have hq := BoxAt.below (hk2 _ _ _ (hk1 _ _ _ (BoxAt.newd w2 _ _))) hbb3; obtain ⟨q1, q2, q3, q4⟩ := BoxAt.two hq) | skip)))
      all_goals
        go_wp2_with fail
        go_meet
        first
        | exact ⟨rfl, _, Res.mk1 hbz3 ho3 (by first | omega | (simp; omega) | simp) hc3 rfl⟩
        | exact ⟨rfl, _, Res.mk2 hq (by first | omega | (simp; done) | (simp; omega)) hbz3 ho3 (by first | omega | (simp; done) | (simp; omega)) hc3⟩
    case rest => as_aux_lemma =>
      obtain ⟨rfl, hi6, hres⟩ := hcut
      obtain ⟨g6, a6, c6, rfl, hg6, hh6, hx6, hc6, ho6⟩ := hres.ex
      have hs6 := hres.size
      have hWs := hres.bel.size
      have hU := Lib.hid hres.bel
      have B6 := Lib.hid hx6
      have O6 := Lib.hid ho6
      have HC6 := Lib.hid hc6
      have hr3 : (r3 != r3) = false := by simp
      clear hres hx6 ho6 hc6 HSP hT HL
      clear hU1
      clear hU2
      clear k0 k1 k2 k3
      obtain ⟨x1_0, x1_1, x1_2, x1_3⟩ := SS.out _ hU.out
      go_wp2_with fail
      refine (HT0.out _ hU.out).mono ?_
      rintro e wx1 ⟨b0, d0, rfl, hd0, ho, hb, hz⟩
      have hsz_wx1 := hb.size
      (try simp at hsz_wx1)
      clear x1_0 x1_1 x1_2 x1_3
      have B6_2 := Lib.hid (B6.out.below hb)
      have O6_3 := Lib.hid (O6.out.below hb (by first | omega | (simp; done) | (simp; omega)))
      clear B6 O6
      clear hU
      have hU_wx1 := Lib.hid hz
      have OX0 := Lib.hid ho
      have HD0 := Lib.hid hd0
      clear ho hb hz hd0
      have B6_4 := Lib.hid (B6_2.out.alloc (.cells #[.int .i64 s0, .slice b0 xs0.length d0] 58))
      have O6_5 := Lib.hid (O6_3.out.alloc (.cells #[.int .i64 s0, .slice b0 xs0.length d0] 58))
      have OX0_6 := Lib.hid (OX0.out.alloc (.cells #[.int .i64 s0, .slice b0 xs0.length d0] 58))
      clear B6_2 O6_3 OX0
      have hU_7 := Lib.hid (below_alloc hU_wx1.out (.cells #[.int .i64 s0, .slice b0 xs0.length d0] 58))
      clear hU_wx1
      have BX0 := Lib.hid (BoxAt.new wx1 58 #[.int .i64 s0, .slice b0 xs0.length d0])
      obtain ⟨x8_0, x8_1, x8_2, x8_3⟩ := SS.out _ hU_7.out
      go_wp2_with fail
      refine (HT1.out _ hU_7.out).mono ?_
      rintro e wx2 ⟨b1, d1, rfl, hd1, ho, hb, hz⟩
      have hsz_wx2 := hb.size
      (try simp at hsz_wx2)
      clear x8_0 x8_1 x8_2 x8_3
      have B6_9 := Lib.hid (B6_4.out.below hb)
      have BX0_10 := Lib.hid (BX0.out.below hb)
      have O6_11 := Lib.hid (O6_5.out.below hb (by first | omega | (simp; done) | (simp; omega)))
      have OX0_12 := Lib.hid (OX0_6.out.below hb (by first | omega | (simp; done) | (simp; omega)))
      clear B6_4 BX0 O6_5 OX0_6
      clear hU_7
      have hU_wx2 := Lib.hid hz
      have OX1 := Lib.hid ho
      have HD1 := Lib.hid hd1
      clear ho hb hz hd1
      have B6_13 := Lib.hid (B6_9.out.alloc (.cells #[.int .i64 s1, .slice b1 xs1.length d1] 58))
      have BX0_14 := Lib.hid (BX0_10.out.alloc (.cells #[.int .i64 s1, .slice b1 xs1.length d1] 58))
      have O6_15 := Lib.hid (O6_11.out.alloc (.cells #[.int .i64 s1, .slice b1 xs1.length d1] 58))
      have OX0_16 := Lib.hid (OX0_12.out.alloc (.cells #[.int .i64 s1, .slice b1 xs1.length d1] 58))
      have OX1_17 := Lib.hid (OX1.out.alloc (.cells #[.int .i64 s1, .slice b1 xs1.length d1] 58))
      clear B6_9 BX0_10 O6_11 OX0_12 OX1
      have hU_18 := Lib.hid (below_alloc hU_wx2.out (.cells #[.int .i64 s1, .slice b1 xs1.length d1] 58))
      clear hU_wx2
      have BX1 := Lib.hid (BoxAt.new wx2 58 #[.int .i64 s1, .slice b1 xs1.length d1])
      obtain ⟨y19_0, y19_1, y19_2, y19_3⟩ := BX0_14.out.two
      obtain ⟨y20_0, y20_1, y20_2, y20_3⟩ := BX1.out.two
      go_wp2_with fail
      refine (HIM.out _ _ _ _ _ hU_18.out HD0.out HD1.out (Own2.own OX0_16.out).ints (Own2.own OX1_17.out).ints).mono ?_
      rintro e wg ⟨ag, cg, rfl, hcg, ho, hb, hz⟩
      have hsz_g := hb.size
      (try simp at hsz_g)
      clear y19_0 y19_1 y19_2 y19_3 y20_0 y20_1 y20_2 y20_3
      have B6_21 := Lib.hid (B6_13.out.below hb)
      have BX0_22 := Lib.hid (BX0_14.out.below hb)
      have BX1_23 := Lib.hid (BX1.out.below hb)
      have O6_24 := Lib.hid (O6_15.out.below hb (by first | omega | (simp; done) | (simp; omega)))
      have OX0_25 := Lib.hid (OX0_16.out.below hb (by first | omega | (simp; done) | (simp; omega)))
      have OX1_26 := Lib.hid (OX1_17.out.below hb (by first | omega | (simp; done) | (simp; omega)))
      clear B6_13 BX0_14 BX1 O6_15 OX0_16 OX1_17
      clear hU_18
      have hU_g := Lib.hid hz
      have OG := Lib.hid (Own2.of ho)
      have HCG := Lib.hid hcg
      clear ho hb hz hcg
      have B6_27 := Lib.hid (B6_21.out.alloc (.cells #[.int .i64 r1, .slice ag r2.length cg] 58))
      have BX0_28 := Lib.hid (BX0_22.out.alloc (.cells #[.int .i64 r1, .slice ag r2.length cg] 58))
      have BX1_29 := Lib.hid (BX1_23.out.alloc (.cells #[.int .i64 r1, .slice ag r2.length cg] 58))
      have O6_30 := Lib.hid (O6_24.out.alloc (.cells #[.int .i64 r1, .slice ag r2.length cg] 58))
      have OX0_31 := Lib.hid (OX0_25.out.alloc (.cells #[.int .i64 r1, .slice ag r2.length cg] 58))
      have OX1_32 := Lib.hid (OX1_26.out.alloc (.cells #[.int .i64 r1, .slice ag r2.length cg] 58))
      have OG_33 := Lib.hid (OG.out.alloc (.cells #[.int .i64 r1, .slice ag r2.length cg] 58))
      clear B6_21 BX0_22 BX1_23 O6_24 OX0_25 OX1_26 OG
      have hU_34 := Lib.hid (below_alloc hU_g.out (.cells #[.int .i64 r1, .slice ag r2.length cg] 58))
      clear hU_g
      have BG := Lib.hid (BoxAt.new wg 58 #[.int .i64 r1, .slice ag r2.length cg])
      obtain ⟨y35_0, y35_1, y35_2, y35_3⟩ := BG.out.two
      obtain ⟨y36_0, y36_1, y36_2, y36_3⟩ := B6_27.out.two
      go_wp2_with fail
      refine (eqWhole_yes r1 _ _ r2 _ _ _ rfl _ _ _ (Nat.le_refl _) (Nat.le_refl _) (Own2.own OG_33.out).ints (Own2.own O6_30.out).ints (by have := HR2.out; omega)).mono ?_
      rintro e we ⟨rfl, hb⟩
      have hsz_we := hb.size
      (try simp at hsz_we)
      clear y35_0 y35_1 y35_2 y35_3 y36_0 y36_1 y36_2 y36_3
      have hU_37 := Lib.hid (hU_34.out.trans (hb.mono hU_34.out.size))
      clear hU_34
      have B6_38 := Lib.hid (B6_27.out.below hb)
      have BX0_39 := Lib.hid (BX0_28.out.below hb)
      have BX1_40 := Lib.hid (BX1_29.out.below hb)
      have BG_41 := Lib.hid (BG.out.below hb)
      have O6_42 := Lib.hid (O6_30.out.below hb (by first | omega | (simp; done) | (simp; omega)))
      have OX0_43 := Lib.hid (OX0_31.out.below hb (by first | omega | (simp; done) | (simp; omega)))
      have OX1_44 := Lib.hid (OX1_32.out.below hb (by first | omega | (simp; done) | (simp; omega)))
      have OG_45 := Lib.hid (OG_33.out.below hb (by first | omega | (simp; done) | (simp; omega)))
      clear B6_27 BX0_28 BX1_29 BG O6_30 OX0_31 OX1_32 OG_33
      clear hb
      obtain ⟨x46_0, x46_1, x46_2, x46_3⟩ := SS.out _ hU_37.out
      have SX := Lib.hid (show ∀ W, Below we.heap.size we W → (W.cell? ⟨w.heap.size, 0, none⟩ = some (.int .i64 s0) ∧ W.cell? ⟨w.heap.size, 1, none⟩ = some (.slice a0 xs0.length c0) ∧ W.cell? ⟨w.heap.size + 1, 0, none⟩ = some (.int .i64 s1) ∧ W.cell? ⟨w.heap.size + 1, 1, none⟩ = some (.slice a1 xs1.length c1) ∧ W.cell? ⟨wx1.heap.size, 0, none⟩ = some (.int .i64 s0) ∧ W.cell? ⟨wx1.heap.size, 1, none⟩ = some (.slice b0 xs0.length d0)) from fun W hW => ⟨(SS.out _ (hU_37.out.trans (hW.mono hU_37.out.size))).1, (SS.out _ (hU_37.out.trans (hW.mono hU_37.out.size))).2.1, (SS.out _ (hU_37.out.trans (hW.mono hU_37.out.size))).2.2.1, (SS.out _ (hU_37.out.trans (hW.mono hU_37.out.size))).2.2.2, (BX0_39.out.below hW).cell 0, (BX0_39.out.below hW).cell 1⟩)
      have TX := Lib.hid (show ∀ W, Below we.heap.size we W → Calls Try.prog 57 #[.agg #[.int .i64 s0, .slice a0 xs0.length c0]] W fun e w' => ∃ a' c', e = .returned (.agg #[.int .i64 s0, .slice a' xs0.length c']) ∧ Own w' W.heap.size a' xs0 ∧ Below we.heap.size we w' from fun W hW => (HT0.out W (hU_37.out.trans (hW.mono hU_37.out.size))).mono fun e w' ⟨a, c, he, _, ho, hb, _⟩ => ⟨a, c, he, ho.own, hW.trans (hb.mono hW.size)⟩)
      have EX := Lib.hid (show ∀ a' c' lo W, Below we.heap.size we W → Own W lo a' xs0 → Calls Try.prog 59 #[.agg #[.int .i64 s0, .slice b0 xs0.length d0], .agg #[.int .i64 s0, .slice a' xs0.length c']] W fun e w' => e = .returned (.bool true) ∧ Below we.heap.size we w' from fun a' c' lo W hW ho => (eqWhole_yes s0 _ _ xs0 _ _ _ rfl _ _ _ hW.size (Nat.le_refl _) ((Own2.own OX0_43.out).ints.below hW) ho.ints (by have := HN0.out; omega)).mono fun e w' ⟨he, hb⟩ => ⟨he, hW.trans (hb.mono hW.size)⟩)
      have hTT : Below we.heap.size we we.drew := (Below.refl _ _).drew
      clear x46_0 x46_1 x46_2 x46_3
      go_wp2_with fail
      go_region_held3 (fun W => W.cell? ⟨w.heap.size, 0, none⟩ = some (.int .i64 s0) ∧ W.cell? ⟨w.heap.size, 1, none⟩ = some (.slice a0 xs0.length c0) ∧ W.cell? ⟨w.heap.size + 1, 0, none⟩ = some (.int .i64 s1) ∧ W.cell? ⟨w.heap.size + 1, 1, none⟩ = some (.slice a1 xs1.length c1) ∧ W.cell? ⟨wx1.heap.size, 0, none⟩ = some (.int .i64 s0) ∧ W.cell? ⟨wx1.heap.size, 1, none⟩ = some (.slice b0 xs0.length d0))
        (exact SX.out _ (by assumption))
        (first
        | (go_at_call 57; refine (TX.out _ (by assumption)).mono ?_; rintro e u1_0 ⟨e1, f1, rfl, ho1, hb1⟩)
        | (go_at_call 59; refine (EX.out _ _ _ _ (by assumption) (by assumption)).mono ?_; rintro e wd0 ⟨rfl, hbd⟩))
      have hsz_d0 := hbd.size
      have hU_47 := Lib.hid (hU_37.out.trans (hbd.mono hU_37.out.size))
      clear hU_37
      have B6_48 := Lib.hid (B6_38.out.below hbd)
      have BX0_49 := Lib.hid (BX0_39.out.below hbd)
      have BX1_50 := Lib.hid (BX1_40.out.below hbd)
      have BG_51 := Lib.hid (BG_41.out.below hbd)
      have O6_52 := Lib.hid (O6_42.out.below hbd (by first | omega | (simp; done) | (simp; omega)))
      have OX0_53 := Lib.hid (OX0_43.out.below hbd (by first | omega | (simp; done) | (simp; omega)))
      have OX1_54 := Lib.hid (OX1_44.out.below hbd (by first | omega | (simp; done) | (simp; omega)))
      have OG_55 := Lib.hid (OG_45.out.below hbd (by first | omega | (simp; done) | (simp; omega)))
      clear B6_38 BX0_39 BX1_40 BG_41 O6_42 OX0_43 OX1_44 OG_45
      clear ho1 hb1 hbd hTT SX TX EX
      obtain ⟨x56_0, x56_1, x56_2, x56_3⟩ := SS.out _ hU_47.out
      have SX := Lib.hid (show ∀ W, Below wd0.heap.size wd0 W → (W.cell? ⟨w.heap.size, 0, none⟩ = some (.int .i64 s0) ∧ W.cell? ⟨w.heap.size, 1, none⟩ = some (.slice a0 xs0.length c0) ∧ W.cell? ⟨w.heap.size + 1, 0, none⟩ = some (.int .i64 s1) ∧ W.cell? ⟨w.heap.size + 1, 1, none⟩ = some (.slice a1 xs1.length c1) ∧ W.cell? ⟨wx2.heap.size, 0, none⟩ = some (.int .i64 s1) ∧ W.cell? ⟨wx2.heap.size, 1, none⟩ = some (.slice b1 xs1.length d1)) from fun W hW => ⟨(SS.out _ (hU_47.out.trans (hW.mono hU_47.out.size))).1, (SS.out _ (hU_47.out.trans (hW.mono hU_47.out.size))).2.1, (SS.out _ (hU_47.out.trans (hW.mono hU_47.out.size))).2.2.1, (SS.out _ (hU_47.out.trans (hW.mono hU_47.out.size))).2.2.2, (BX1_50.out.below hW).cell 0, (BX1_50.out.below hW).cell 1⟩)
      have TX := Lib.hid (show ∀ W, Below wd0.heap.size wd0 W → Calls Try.prog 57 #[.agg #[.int .i64 s1, .slice a1 xs1.length c1]] W fun e w' => ∃ a' c', e = .returned (.agg #[.int .i64 s1, .slice a' xs1.length c']) ∧ Own w' W.heap.size a' xs1 ∧ Below wd0.heap.size wd0 w' from fun W hW => (HT1.out W (hU_47.out.trans (hW.mono hU_47.out.size))).mono fun e w' ⟨a, c, he, _, ho, hb, _⟩ => ⟨a, c, he, ho.own, hW.trans (hb.mono hW.size)⟩)
      have EX := Lib.hid (show ∀ a' c' lo W, Below wd0.heap.size wd0 W → Own W lo a' xs1 → Calls Try.prog 59 #[.agg #[.int .i64 s1, .slice b1 xs1.length d1], .agg #[.int .i64 s1, .slice a' xs1.length c']] W fun e w' => e = .returned (.bool true) ∧ Below wd0.heap.size wd0 w' from fun a' c' lo W hW ho => (eqWhole_yes s1 _ _ xs1 _ _ _ rfl _ _ _ hW.size (Nat.le_refl _) ((Own2.own OX1_54.out).ints.below hW) ho.ints (by have := HN1.out; omega)).mono fun e w' ⟨he, hb⟩ => ⟨he, hW.trans (hb.mono hW.size)⟩)
      have hTT : Below wd0.heap.size wd0 wd0.drew := (Below.refl _ _).drew
      clear x56_0 x56_1 x56_2 x56_3
      go_wp2_with fail
      go_region_held3 (fun W => W.cell? ⟨w.heap.size, 0, none⟩ = some (.int .i64 s0) ∧ W.cell? ⟨w.heap.size, 1, none⟩ = some (.slice a0 xs0.length c0) ∧ W.cell? ⟨w.heap.size + 1, 0, none⟩ = some (.int .i64 s1) ∧ W.cell? ⟨w.heap.size + 1, 1, none⟩ = some (.slice a1 xs1.length c1) ∧ W.cell? ⟨wx2.heap.size, 0, none⟩ = some (.int .i64 s1) ∧ W.cell? ⟨wx2.heap.size, 1, none⟩ = some (.slice b1 xs1.length d1))
        (exact SX.out _ (by assumption))
        (first
        | (go_at_call 57; refine (TX.out _ (by assumption)).mono ?_; rintro e u1_1 ⟨e1, f1, rfl, ho1, hb1⟩)
        | (go_at_call 59; refine (EX.out _ _ _ _ (by assumption) (by assumption)).mono ?_; rintro e wd1 ⟨rfl, hbd⟩))
      have hsz_d1 := hbd.size
      have hU_57 := Lib.hid (hU_47.out.trans (hbd.mono hU_47.out.size))
      clear hU_47
      have B6_58 := Lib.hid (B6_48.out.below hbd)
      have BX0_59 := Lib.hid (BX0_49.out.below hbd)
      have BX1_60 := Lib.hid (BX1_50.out.below hbd)
      have BG_61 := Lib.hid (BG_51.out.below hbd)
      have O6_62 := Lib.hid (O6_52.out.below hbd (by first | omega | (simp; done) | (simp; omega)))
      have OX0_63 := Lib.hid (OX0_53.out.below hbd (by first | omega | (simp; done) | (simp; omega)))
      have OX1_64 := Lib.hid (OX1_54.out.below hbd (by first | omega | (simp; done) | (simp; omega)))
      have OG_65 := Lib.hid (OG_55.out.below hbd (by first | omega | (simp; done) | (simp; omega)))
      clear B6_48 BX0_49 BX1_50 BG_51 O6_52 OX0_53 OX1_54 OG_55
      clear ho1 hb1 hbd hTT SX TX EX
      skip
      obtain ⟨y66_0, y66_1, y66_2, y66_3⟩ := BX0_59.out.two
      go_wp2_with fail
      refine (markWhole s0 _ xs0 _ (1) _ _ (by have := HN0.out; omega) (Own2.own OX0_63.out) (by omega) (by have := HN0.out; have := HN1.out;  omega)).mono ?_
      rintro e wm0 ⟨rfl, hom, row, hgr, hrow⟩
      have hrw := Own2.row_ge OX0_63.out rfl hrow
      have hsz_wm0 := hgr.size
      clear y66_0 y66_1 y66_2 y66_3
      have B6_67 := Lib.hid (B6_58.out.grown hgr (fun e => by have := hrw _ e.symm; (try simp only [size_al] at this); (try simp only [size_al]); omega))
      have BX0_68 := Lib.hid (BX0_59.out.grown hgr (fun e => by have := hrw _ e.symm; (try simp only [size_al] at this); (try simp only [size_al]); omega))
      have BX1_69 := Lib.hid (BX1_60.out.grown hgr (fun e => by have := hrw _ e.symm; (try simp only [size_al] at this); (try simp only [size_al]); omega))
      have BG_70 := Lib.hid (BG_61.out.grown hgr (fun e => by have := hrw _ e.symm; (try simp only [size_al] at this); (try simp only [size_al]); omega))
      have O6_71 := Lib.hid (O6_62.out.grown hgr (fun g e => by have := hrw g e; (try simp only [size_al] at this); (try simp only [size_al]); omega))
      have OX1_72 := Lib.hid (OX1_64.out.grown hgr (fun g e => by have := hrw g e; (try simp only [size_al] at this); (try simp only [size_al]); omega))
      have OG_73 := Lib.hid (OG_65.out.grown hgr (fun g e => by have := hrw g e; (try simp only [size_al] at this); (try simp only [size_al]); omega))
      clear B6_58 BX0_59 BX1_60 BG_61 O6_62 OX1_64 OG_65
      have hU_74 := Lib.hid (hU_57.out.trans (below_of_grown hgr hU_57.out.size (fun g e => by have := hrw g e; (try simp only [size_al] at this); have := hWs; omega)))
      clear hU_57
      clear hgr hrow hrw
      clear OX0_63
      clear hom
      obtain ⟨y75_0, y75_1, y75_2, y75_3⟩ := BX1_69.out.two
      go_wp2_with fail
      refine (markWhole s1 _ xs1 _ (1 + (xs0.length : Int)) _ _ (by have := HN1.out; omega) (Own2.own OX1_72.out) (by omega) (by have := HN0.out; have := HN1.out;  omega)).mono ?_
      rintro e wm1 ⟨rfl, hom, row, hgr, hrow⟩
      have hrw := Own2.row_ge OX1_72.out rfl hrow
      have hsz_wm1 := hgr.size
      clear y75_0 y75_1 y75_2 y75_3
      have B6_76 := Lib.hid (B6_67.out.grown hgr (fun e => by have := hrw _ e.symm; (try simp only [size_al] at this); (try simp only [size_al]); omega))
      have BX0_77 := Lib.hid (BX0_68.out.grown hgr (fun e => by have := hrw _ e.symm; (try simp only [size_al] at this); (try simp only [size_al]); omega))
      have BX1_78 := Lib.hid (BX1_69.out.grown hgr (fun e => by have := hrw _ e.symm; (try simp only [size_al] at this); (try simp only [size_al]); omega))
      have BG_79 := Lib.hid (BG_70.out.grown hgr (fun e => by have := hrw _ e.symm; (try simp only [size_al] at this); (try simp only [size_al]); omega))
      have O6_80 := Lib.hid (O6_71.out.grown hgr (fun g e => by have := hrw g e; (try simp only [size_al] at this); (try simp only [size_al]); omega))
      have OG_81 := Lib.hid (OG_73.out.grown hgr (fun g e => by have := hrw g e; (try simp only [size_al] at this); (try simp only [size_al]); omega))
      clear B6_67 BX0_68 BX1_69 BG_70 O6_71 OG_73
      have hU_82 := Lib.hid (hU_74.out.trans (below_of_grown hgr hU_74.out.size (fun g e => by have := hrw g e; (try simp only [size_al] at this); have := hWs; omega)))
      clear hU_74
      clear hgr hrow hrw
      clear OX1_72
      clear hom
      have hmneg : decide (1 + (xs0.length : Int) + (xs1.length : Int) < 0) = false := decide_eq_false (by omega)
      obtain ⟨y83_0, y83_1, y83_2, y83_3⟩ := BG_79.out.two
      obtain ⟨y84_0, y84_1, y84_2, y84_3⟩ := B6_76.out.two
      go_wp2_with fail
      refine (eqWhole_yes r1 _ _ r2 _ _ _ rfl _ _ _ (Nat.le_refl _) (Nat.le_refl _) (Own2.own OG_81.out).ints (Own2.own O6_80.out).ints (by have := HR2.out; omega)).mono ?_
      rintro e wf ⟨rfl, hb⟩
      have hsz_wf := hb.size
      (try simp at hsz_wf)
      clear y83_0 y83_1 y83_2 y83_3 y84_0 y84_1 y84_2 y84_3
      have hU_85 := Lib.hid (hU_82.out.trans (hb.mono hU_82.out.size))
      clear hU_82
      have B6_86 := Lib.hid (B6_76.out.below hb)
      have BX0_87 := Lib.hid (BX0_77.out.below hb)
      have BX1_88 := Lib.hid (BX1_78.out.below hb)
      have BG_89 := Lib.hid (BG_79.out.below hb)
      have O6_90 := Lib.hid (O6_80.out.below hb (by first | omega | (simp; done) | (simp; omega)))
      have OG_91 := Lib.hid (OG_81.out.below hb (by first | omega | (simp; done) | (simp; omega)))
      clear B6_76 BX0_77 BX1_78 BG_79 O6_80 OG_81
      clear hb
      obtain ⟨y92_0, y92_1, y92_2, y92_3⟩ := BG_89.out.two
      go_wp2_with fail
      refine (markWhole r1 _ r2 _ 1 _ _ (by have := HR2.out; omega) (Own2.own OG_91.out) (by omega) (by omega)).mono ?_
      rintro e wk ⟨rfl, hom, row, hgr, hrow⟩
      have hrw := Own2.row_ge OG_91.out rfl hrow
      have hsz_wk := hgr.size
      clear y92_0 y92_1 y92_2 y92_3
      have B6_93 := Lib.hid (B6_86.out.grown hgr (fun e => by have := hrw _ e.symm; (try simp only [size_al] at this); (try simp only [size_al]); omega))
      have BX0_94 := Lib.hid (BX0_87.out.grown hgr (fun e => by have := hrw _ e.symm; (try simp only [size_al] at this); (try simp only [size_al]); omega))
      have BX1_95 := Lib.hid (BX1_88.out.grown hgr (fun e => by have := hrw _ e.symm; (try simp only [size_al] at this); (try simp only [size_al]); omega))
      have BG_96 := Lib.hid (BG_89.out.grown hgr (fun e => by have := hrw _ e.symm; (try simp only [size_al] at this); (try simp only [size_al]); omega))
      have O6_97 := Lib.hid (O6_90.out.grown hgr (fun g e => by have := hrw g e; (try simp only [size_al] at this); (try simp only [size_al]); omega))
      clear B6_86 BX0_87 BX1_88 BG_89 O6_90
      have hU_98 := Lib.hid (hU_85.out.trans (below_of_grown hgr hU_85.out.size (fun g e => by have := hrw g e; (try simp only [size_al] at this); have := hWs; omega)))
      clear hU_85
      clear hgr hrow hrw OG_91
      have OM := Lib.hid hom
      clear hom
      have hmneg2 : decide ((1 : Int) + (r2.length : Int) < 0) = false := decide_eq_false (by omega)
      have hmne : ((1 : Int) + (r2.length : Int) != (1 : Int) + (r2.length : Int)) = false := by simp
      obtain ⟨y99_0, y99_1, y99_2, y99_3⟩ := BG_96.out.two
      go_wp2_with fail
      refine (heldWhole r1 _ r2.length _ 1 _ _ (Nat.le_refl _) (by have := HR2.out; omega) OM.out.ints (by omega) (by omega)).mono ?_
      rintro e wh ⟨rfl, hb⟩
      have hsz_wh := hb.size
      clear y99_0 y99_1 y99_2 y99_3
      have OMn := Lib.hid (OM.out.below hb)
      clear OM
      have OM := OMn
      clear OMn
      have hU_100 := Lib.hid (hU_98.out.trans (hb.mono hU_98.out.size))
      clear hU_98
      have B6_101 := Lib.hid (B6_93.out.below hb)
      have BX0_102 := Lib.hid (BX0_94.out.below hb)
      have BX1_103 := Lib.hid (BX1_95.out.below hb)
      have BG_104 := Lib.hid (BG_96.out.below hb)
      have O6_105 := Lib.hid (O6_97.out.below hb (by first | omega | (simp; done) | (simp; omega)))
      clear B6_93 BX0_94 BX1_95 BG_96 O6_97
      clear hb
      obtain ⟨x106_0, x106_1, x106_2, x106_3⟩ := SS.out _ hU_100.out
      have hV : Below wh.heap.size wh wh := Below.refl _ _
      have SV := Lib.hid (show ∀ W, Below wh.heap.size wh W → (W.cell? ⟨w.heap.size, 0, none⟩ = some (.int .i64 s0) ∧ W.cell? ⟨w.heap.size, 1, none⟩ = some (.slice a0 xs0.length c0) ∧ W.cell? ⟨w.heap.size + 1, 0, none⟩ = some (.int .i64 s1) ∧ W.cell? ⟨w.heap.size + 1, 1, none⟩ = some (.slice a1 xs1.length c1)) from fun W hW => SS.out _ (hU_100.out.trans (hW.mono hU_100.out.size)))
      have TV0 := Lib.hid (show ∀ W, Below wh.heap.size wh W → Calls Try.prog 57 #[.agg #[.int .i64 s0, .slice a0 xs0.length c0]] W fun e w' => ∃ a' c', e = .returned (.agg #[.int .i64 s0, .slice a' xs0.length c']) ∧ xs0.length ≤ c' ∧ Own2 w' W.heap.size w'.heap.size a' xs0 ∧ Below W.heap.size W w' ∧ Below wh.heap.size wh w' from fun W hW => (HT0.out W (hU_100.out.trans (hW.mono hU_100.out.size))).mono fun e w' ⟨a, c, he, hc, ho, hb, _⟩ => ⟨a, c, he, hc, ho, hb, hW.trans (hb.mono hW.size)⟩)
      have TV1 := Lib.hid (show ∀ W, Below wh.heap.size wh W → Calls Try.prog 57 #[.agg #[.int .i64 s1, .slice a1 xs1.length c1]] W fun e w' => ∃ a' c', e = .returned (.agg #[.int .i64 s1, .slice a' xs1.length c']) ∧ xs1.length ≤ c' ∧ Own2 w' W.heap.size w'.heap.size a' xs1 ∧ Below W.heap.size W w' ∧ Below wh.heap.size wh w' from fun W hW => (HT1.out W (hU_100.out.trans (hW.mono hU_100.out.size))).mono fun e w' ⟨a, c, he, hc, ho, hb, _⟩ => ⟨a, c, he, hc, ho, hb, hW.trans (hb.mono hW.size)⟩)
      have IV := Lib.hid (show ∀ (b0 : Option Addr) (d0 : Nat) (b1 : Option Addr) (d1 : Nat) W, Below wh.heap.size wh W → xs0.length ≤ d0 → xs1.length ≤ d1 → Ints W W.heap.size b0 xs0 → Ints W W.heap.size b1 xs1 → Calls Try.prog 58 #[.agg #[.int .i64 s0, .slice b0 xs0.length d0], .agg #[.int .i64 s1, .slice b1 xs1.length d1]] W fun e w' => ∃ a c, e = .returned (.tuple #[.agg #[.int .i64 r1, .slice a r2.length c], .int .i64 r3]) ∧ r2.length ≤ c ∧ Own w' W.heap.size a r2 ∧ Below W.heap.size W w' ∧ Below wh.heap.size wh w' from fun b0 d0 b1 d1 W hW h0 h1 i0 i1 => (HIM.out b0 d0 b1 d1 W (hU_100.out.trans (hW.mono hU_100.out.size)) h0 h1 i0 i1).mono fun e w' ⟨a, c, he, hc, ho, hb, _⟩ => ⟨a, c, he, hc, ho, hb, hW.trans (hb.mono hW.size)⟩)
      go_wp2_with fail
      go_cut [15, 16] (fun p q W => q = .int .i64 r3 ∧ ∃ hi, Res wh W p r1 r2 hi)
      case first => as_aux_lemma =>
        clear B6_101 BX0_102 BX1_103 BG_104 O6_105 OM HIM HT0 HT1
        obtain ⟨z0, z1, z2, z3⟩ := SV.out _ hV
        go_wp2_with fail
        clear z0 z1 z2 z3
        have hTd := hV.drew
        have hsz0 := hV.size
        skip
        go_region_held3 (fun W => W.cell? ⟨w.heap.size, 0, none⟩ = some (.int .i64 s0) ∧ W.cell? ⟨w.heap.size, 1, none⟩ = some (.slice a0 xs0.length c0) ∧ W.cell? ⟨w.heap.size + 1, 0, none⟩ = some (.int .i64 s1) ∧ W.cell? ⟨w.heap.size + 1, 1, none⟩ = some (.slice a1 xs1.length c1))
          (exact SV.out _ (by first | assumption | exact below_alloc (by assumption) _ | exact below_allocd (by assumption) _ | exact below_set2 (by assumption) (by omega) _ _))
          (first
          | (go_at_call 57; with_reducible refine (TV0.out _ (by first | assumption | exact below_alloc (by assumption) _ | exact below_allocd (by assumption) _ | exact below_set2 (by assumption) (by omega) _ _)).mono ?_; rintro e v1 ⟨e1, f1, rfl, hc1, ho1, hbb1, hbz1⟩; have hsz1 := hbz1.size; have hsy1 := hbb1.size; (try simp at hsy1); have hk1 := fun g v0 v1 (h : BoxAt _ g 58 #[v0, v1]) => BoxAt.below h hbb1)
          | (go_at_call 57; with_reducible refine (TV1.out _ (by first | assumption | exact below_alloc (by assumption) _ | exact below_allocd (by assumption) _ | exact below_set2 (by assumption) (by omega) _ _)).mono ?_; rintro e v2 ⟨e2, f2, rfl, hc2, ho2, hbb2, hbz2⟩; have hsz2 := hbz2.size; have hsy2 := hbb2.size; (try simp at hsy2); have hk2 := fun g v0 v1 (h : BoxAt _ g 58 #[v0, v1]) => BoxAt.below h hbb2; have ho12 := Own2.below (by first | exact ho1 | exact Own2.alloc ho1 _) hbb2 (by simp))
          | (go_at_call 58; refine (IV.out _ _ _ _ _ (by first | assumption | exact below_alloc (by assumption) _ | exact below_allocd (by assumption) _ | exact below_set2 (by assumption) (by omega) _ _) hc1 hc2 (by first | exact (Own2.own ho12).ints | exact (Own2.own (Own2.alloc ho12 _)).ints) (by first | exact (Own2.own ho2).ints | exact (Own2.own (Own2.alloc ho2 _)).ints)).mono ?_; rintro e v3 ⟨e3, f3, rfl, hc3, ho3, hbb3, hbz3⟩; have hsz3 := hbz3.size; have hsy3 := hbb3.size; (try simp at hsy3); (first | (with_reducible have hq := BoxAt.below (BoxAt.new v2 _ _) hbb3; obtain ⟨q1, q2, q3, q4⟩ := BoxAt.two hq) | (with_reducible have hq := BoxAt.below (hk2 _ _ _ (BoxAt.new v1 _ _)) hbb3; obtain ⟨q1, q2, q3, q4⟩ := BoxAt.two hq) | (with_reducible have hq := BoxAt.below (hk2 _ _ _ (hk1 _ _ _ (BoxAt.newd wh _ _))) hbb3; obtain ⟨q1, q2, q3, q4⟩ := BoxAt.two hq) | skip)))
        all_goals
          go_wp2_with fail
          go_meet
          first
          | exact ⟨rfl, _, Res.mk1 hbz3 ho3 (by first | omega | (simp; omega) | simp) hc3 rfl⟩
          | exact ⟨rfl, _, Res.mk2 hq (by first | omega | (simp; done) | (simp; omega)) hbz3 ho3 (by first | omega | (simp; done) | (simp; omega)) hc3⟩
      case rest => as_aux_lemma =>
        obtain ⟨rfl, hi7, hres⟩ := hcut
        obtain ⟨g7, a7, c7, rfl, hg7, hh7, hx7, hc7, ho7⟩ := hres.ex
        have hs7 := hres.size
        have hb7 := hres.bel
        have hsz7 := hb7.size
        have B7 := Lib.hid hx7
        have O7 := Lib.hid (Own2.own ho7)
        have OM7 := Lib.hid (OM.out.below hb7)
        clear OM
        have hU_107 := Lib.hid (hU_100.out.trans (hb7.mono hU_100.out.size))
        clear hU_100
        have B6_108 := Lib.hid (B6_101.out.below hb7)
        have BX0_109 := Lib.hid (BX0_102.out.below hb7)
        have BX1_110 := Lib.hid (BX1_103.out.below hb7)
        have BG_111 := Lib.hid (BG_104.out.below hb7)
        have O6_112 := Lib.hid (O6_105.out.below hb7 (by first | omega | (simp; done) | (simp; omega)))
        clear B6_101 BX0_102 BX1_103 BG_104 O6_105
        clear hres hx7 ho7 hc7 hb7 SV TV0 TV1 IV
        obtain ⟨m0, m1, m2, m3⟩ := B7.out.two
        obtain ⟨m4, m5, m6, m7⟩ := B6_108.out.two
        go_wp2_with fail
        refine (eqWhole_yes r1 _ _ r2 _ _ _ rfl _ _ _ (Nat.le_refl _) (Nat.le_refl _) O7.out.ints (Own2.own O6_112.out).ints (by have := HR2.out; omega)).mono ?_
        rintro e wy ⟨rfl, hb⟩
        have hsz_wy := hb.size
        clear m0 m1 m2 m3 m4 m5 m6 m7
        have hU_113 := Lib.hid (hU_107.out.trans (hb.mono hU_107.out.size))
        clear hU_107
        have BG_114 := Lib.hid (BG_111.out.below hb)
        clear BG_111
        have OM8 := Lib.hid (OM7.out.below hb)
        clear hb
        obtain ⟨y115_0, y115_1, y115_2, y115_3⟩ := BG_114.out.two
        go_wp2_with fail
        refine (heldWhole r1 _ r2.length _ 1 _ _ (Nat.le_refl _) (by have := HR2.out; omega) OM8.out.ints (by omega) (by omega)).mono ?_
        rintro e wz ⟨rfl, hb⟩
        have hU_116 := Lib.hid (hU_113.out.trans (hb.mono hU_113.out.size))
        clear hU_113
        clear hb
        go_wp2_with fail
        go_ret
        exact ⟨rfl, P3.out.trans (hU_116.out.mono (by have := P4.out; omega))⟩
  · have hT : Below w.heap.size w w := Below.refl _ _
    obtain ⟨W0, hW0⟩ : ∃ W0 : World, ((w.alloc (.cells #[.int .i64 s0, .slice a0 xs0.length c0] 56)).alloc (.cells #[.int .i64 s1, .slice a1 xs1.length c1] 56)) = W0 := ⟨_, rfl⟩
    obtain ⟨p0, p1, p8, p9⟩ := two_box w 56 #[.int .i64 s0, .slice a0 xs0.length c0] #[.int .i64 s1, .slice a1 xs1.length c1]
    rw [hW0] at p0 p1 p8 p9
    have HW0 := Lib.hid hW0
    have P3 := Lib.hid p8
    have P4 := Lib.hid p9
    have SS := Lib.hid (show ∀ W, Below W0.heap.size W0 W → (W.cell? ⟨w.heap.size, 0, none⟩ = some (.int .i64 s0) ∧ W.cell? ⟨w.heap.size, 1, none⟩ = some (.slice a0 xs0.length c0) ∧ W.cell? ⟨w.heap.size + 1, 0, none⟩ = some (.int .i64 s1) ∧ W.cell? ⟨w.heap.size + 1, 1, none⟩ = some (.slice a1 xs1.length c1)) from fun W hW => ⟨(p0.below hW).cell 0, (p0.below hW).cell 1, (p1.below hW).cell 0, (p1.below hW).cell 1⟩)
    clear hT hW0 p8 p9 p0 p1 hx0 hx1
    by_cases hf : (xs0.length : Int) ≤ 1048576
    · have hn : decide (1048576 - (xs0.length : Int) < 0) = false := decide_eq_false (by omega)
      go_enter Try.func6, Try.ntmps6
      go_wp2_with fail
      rw [HW0.out]
      refine (szWhole_ok s0 a0 xs0.length c0 (1048576) _ (by omega) (by omega)).mono ?_
      rintro e w1 ⟨rfl, hb⟩
      have hU1 : Below W0.heap.size W0 w1 := Below.trans (Below.refl W0.heap.size W0) (hb.mono (Below.size (Below.refl W0.heap.size W0)))
      clear hb
      obtain ⟨k0, k1, k2, k3⟩ := SS.out _ hU1
      go_wp2_with fail
      refine (szWhole_no s1 a1 xs1.length c1 (1048576 - (xs0.length : Int)) _ (by omega) hl1 (by omega) (by omega)).mono ?_
      rintro e wq ⟨rfl, hb⟩
      have hB := Lib.hid (P3.out.trans ((Below.trans hU1 (hb.mono (Below.size hU1))).mono (by have := P4.out; omega)))
      clear hb
      go_wp2_with fail
      go_ret
      exact ⟨rfl, hB.out⟩
    · have hn : True := trivial
      go_enter Try.func6, Try.ntmps6
      go_wp2_with fail
      rw [HW0.out]
      refine (szWhole_no s0 a0 xs0.length c0 (1048576) _ (by omega) hl0 (by omega) (by omega)).mono ?_
      rintro e wq ⟨rfl, hb⟩
      have hB := Lib.hid (P3.out.trans ((Below.trans (Below.refl W0.heap.size W0) (hb.mono (Below.size (Below.refl W0.heap.size W0)))).mono (by have := P4.out; omega)))
      clear hb
      go_wp2_with fail
      go_ret
      exact ⟨rfl, hB.out⟩
end Go.Proofs.Ytnnbfoemmgddeaa
