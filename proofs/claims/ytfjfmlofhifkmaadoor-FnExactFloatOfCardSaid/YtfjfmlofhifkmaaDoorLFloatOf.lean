/-
  The walk of laws.FnExactFloatOf. Conditions: the limbs can be read; the library's table is as its initialiser lays it.
-/
import Derived.Test.YtfjfmlofhifkmaaDoorGd
import Derived.Test.YtfjfmlofhifkmaaDoorGc
import Derived.Test.YtfjfmlofhifkmaaDoorQa
import Derived.Test.YtfjfmlofhifkmaaDoorLx
import Derived.Deep.DeepCutAuto
import Derived.Deep.RegionHeld3
namespace Go.Proofs.YtfjfmlofhifkmaaDoor
set_option linter.unusedVariables false
open Go Go.RowKit

set_option maxRecDepth 100000 in
set_option maxHeartbeats 8000000 in
theorem FloatOf_walk (s0 : Int) (a0 : Option Addr) (xs0 : List Int) (c0 : Nat) (ex0 : Int) (w : World) (hl0 : xs0.length ≤ 9223372036854775807) (hx0 : Ints w w.heap.size a0 xs0) (bl0 : -9223372036854775808 ≤ ex0) (bh0 : ex0 ≤ 9223372036854775807) (hTab : Tab w) :
    Calls Tryd.prog 6 #[.agg #[.int .i64 s0, .slice a0 xs0.length c0, .int .i64 ex0]] w (LawDone w) := by
  by_cases hbig : (xs0.length : Int) ≤ 1048576
  · have HL := Lib.hid hbig
    obtain ⟨⟨r1, r2⟩, hr⟩ : ∃ r : Nat × Int, r = flR s0 xs0 ex0 := ⟨_, rfl⟩
    obtain ⟨W0, hW0⟩ : ∃ W0 : World, (w.alloc (.cells #[.int .i64 s0, .slice a0 xs0.length c0, .int .i64 ex0] 54)) = W0 := ⟨_, rfl⟩
    obtain ⟨p0, p8, p9⟩ := one_box w 54 #[.int .i64 s0, .slice a0 xs0.length c0, .int .i64 ex0]
    rw [hW0] at p0 p8 p9
    have HW0 := Lib.hid hW0
    have P3 := Lib.hid p8
    have P4 := Lib.hid p9
    have SS := Lib.hid (show ∀ W, Below W0.heap.size W0 W → (W.cell? ⟨w.heap.size, 0, none⟩ = some (.int .i64 s0) ∧ W.cell? ⟨w.heap.size, 1, none⟩ = some (.slice a0 xs0.length c0) ∧ W.cell? ⟨w.heap.size, 2, none⟩ = some (.int .i64 ex0)) from fun W hW => ⟨(p0.below hW).cell 0, (p0.below hW).cell 1, (p0.below hW).cell 2⟩)
    have HTB := Lib.hid (show ∀ W, Below W0.heap.size W0 W → Tab W from fun W hW => (hTab.below p8).below hW)
    clear hTab
    have HT0 := Lib.hid (show ∀ W, Below W0.heap.size W0 W → Calls Tryd.prog 37 #[.agg #[.int .i64 s0, .slice a0 xs0.length c0, .int .i64 ex0]] W fun e w' => ∃ a' c', e = .returned (.agg #[.int .i64 s0, .slice a' xs0.length c', .int .i64 ex0]) ∧ xs0.length ≤ c' ∧ Own2 w' W.heap.size w'.heap.size a' xs0 ∧ Below W.heap.size W w' ∧ Below W0.heap.size W0 w' from
      fun W hW => (toDyadic s0 a0 xs0 c0 ex0 W w.heap.size (by have := hW.size; omega) (by omega) (hx0.below (p8.trans (hW.mono (by omega))))).mono fun e w' ⟨a, c, he, hc, ho, hb⟩ => ⟨a, c, he, hc, Own2.of ho, hb, hW.trans (hb.mono hW.size)⟩)
    have HSP := Lib.hid (show ∀ (b0 : Option Addr) (d0 : Nat) W, Below W0.heap.size W0 W → xs0.length ≤ d0 → Ints W W.heap.size b0 xs0 → Calls Tryd.prog 36 #[.agg #[.int .i64 s0, .slice b0 xs0.length d0, .int .i64 ex0]] W fun e w' => e = .returned (.tuple #[.float .f64 r1, .int .i64 r2]) ∧ Below W.heap.size W w' ∧ Below W0.heap.size W0 w' from
      fun b0 d0 W hW h0 i0 => by
        have := sFloatOf s0 b0 xs0 d0 ex0 W _ (Nat.le_refl _) i0 hl0 h0
        rw [← hr] at this
        exact this.mono fun e w' ⟨he, hb⟩ => ⟨he, hb, hW.trans (hb.mono hW.size)⟩)
    have HIM := Lib.hid (show ∀ (b0 : Option Addr) (d0 : Nat) W, Below W0.heap.size W0 W → xs0.length ≤ d0 → Ints W W.heap.size b0 xs0 → Calls Tryd.prog 38 #[.agg #[.int .i64 s0, .slice b0 xs0.length d0, .int .i64 ex0]] W fun e w' => e = .returned (.tuple #[.float .f64 r1, .int .i64 r2]) ∧ Below W.heap.size W w' ∧ Below W0.heap.size W0 w' from
      fun b0 d0 W hW h0 i0 => by
        have := iFloatOf s0 b0 xs0 d0 ex0 W _ (Nat.le_refl _) i0 hl0 (HTB.out W hW)
        rw [← hr] at this
        exact this.mono fun e w' ⟨he, hb⟩ => ⟨he, hb, hW.trans (hb.mono hW.size)⟩)
    have hT : Below W0.heap.size W0 W0 := Below.refl _ _
    have hn0 : decide (1048576 - (xs0.length : Int) < 0) = false := decide_eq_false (by omega)
    have HN0 := Lib.hid (show xs0.length ≤ 1048576 by omega)
    have HSF := Lib.hid (fun W => sameFloat_fin r1 (by have := flR_fin s0 xs0 ex0; rw [← hr] at this; exact this) W)
    have hr2 : (r2 != r2) = false := by simp
    clear p0 p8 p9 hx0 hW0 hl0 hbig hr
    go_enter Tryd.func6, Tryd.ntmps6
    go_wp2_with fail
    rw [HW0.out]
    refine (szDy_ok s0 a0 xs0.length c0 ex0 (1048576) _ (by have := HL.out; omega) (by omega)).mono ?_
    rintro e w1 ⟨rfl, hb⟩
    have hU1 : Below W0.heap.size W0 w1 := hT.trans (hb.mono hT.size)
    clear hb
    obtain ⟨k0, k1, k2⟩ := SS.out _ hU1
    go_wp2_with fail
    refine (HT0.out _ hU1).mono ?_
    rintro e v1 ⟨e1, f1, rfl, hc1, ho1, hbb1, hbz1⟩
    go_wp2_with fail
    refine (HSP.out _ _ _ hbz1 hc1 (Own2.own ho1).ints).mono ?_
    rintro e wc ⟨rfl, hbb, hU⟩
    clear k0 k1 k2
    have hWs := hU.size
    have hU' := Lib.hid hU
    clear hU hbb hbb1 hbz1 ho1 hc1
    clear hU1
    clear HSP hT HL
    obtain ⟨x1_0, x1_1, x1_2⟩ := SS.out _ hU'.out
    go_wp2_with fail
    refine (HT0.out _ hU'.out).mono ?_
    rintro e wx1 ⟨b0, d0, rfl, hd0, ho, hb, hz⟩
    have hsz_wx1 := hb.size
    (try simp at hsz_wx1)
    clear x1_0 x1_1 x1_2
    clear hU'
    have hU_wx1 := Lib.hid hz
    have OX0 := Lib.hid ho
    have HD0 := Lib.hid hd0
    clear ho hb hz hd0
    have OX0_2 := Lib.hid (OX0.out.alloc (.cells #[.int .i64 s0, .slice b0 xs0.length d0, .int .i64 ex0] 43))
    clear OX0
    have hU_3 := Lib.hid (below_alloc hU_wx1.out (.cells #[.int .i64 s0, .slice b0 xs0.length d0, .int .i64 ex0] 43))
    clear hU_wx1
    have BX0 := Lib.hid (BoxAt.new wx1 43 #[.int .i64 s0, .slice b0 xs0.length d0, .int .i64 ex0])
    obtain ⟨y4_0, y4_1, y4_2, y4_3, y4_4, y4_5⟩ := BX0.out.tri6
    go_wp2_with fail
    refine (HIM.out _ _ _ hU_3.out HD0.out (Own2.own OX0_2.out).ints).mono ?_
    rintro e wg ⟨rfl, hb, hz⟩
    have hsz_g := hb.size
    (try simp at hsz_g)
    clear y4_0 y4_1 y4_2 y4_3 y4_4 y4_5
    have BX0_5 := Lib.hid (BX0.out.below hb)
    have OX0_6 := Lib.hid (OX0_2.out.below hb (by first | omega | (simp; done) | (simp; omega)))
    clear BX0 OX0_2
    clear hU_3
    have hU_g := Lib.hid hz
    clear hb hz
    obtain ⟨x7_0, x7_1, x7_2⟩ := SS.out _ hU_g.out
    have SX := Lib.hid (show ∀ W, Below wg.heap.size wg W → (W.cell? ⟨w.heap.size, 0, none⟩ = some (.int .i64 s0) ∧ W.cell? ⟨w.heap.size, 1, none⟩ = some (.slice a0 xs0.length c0) ∧ W.cell? ⟨w.heap.size, 2, none⟩ = some (.int .i64 ex0) ∧ W.cell? ⟨wx1.heap.size, 0, none⟩ = some (.int .i64 s0) ∧ W.cell? ⟨wx1.heap.size, 1, none⟩ = some (.slice b0 xs0.length d0) ∧ W.cell? ⟨wx1.heap.size, 2, none⟩ = some (.int .i64 ex0)) from fun W hW => ⟨(SS.out _ (hU_g.out.trans (hW.mono hU_g.out.size))).1, (SS.out _ (hU_g.out.trans (hW.mono hU_g.out.size))).2.1, (SS.out _ (hU_g.out.trans (hW.mono hU_g.out.size))).2.2, (BX0_5.out.below hW).cell 0, (BX0_5.out.below hW).cell 1, (BX0_5.out.below hW).cell 2⟩)
    have TX := Lib.hid (show ∀ W, Below wg.heap.size wg W → Calls Tryd.prog 37 #[.agg #[.int .i64 s0, .slice a0 xs0.length c0, .int .i64 ex0]] W fun e w' => ∃ a' c', e = .returned (.agg #[.int .i64 s0, .slice a' xs0.length c', .int .i64 ex0]) ∧ Own w' W.heap.size a' xs0 ∧ Below wg.heap.size wg w' from fun W hW => (HT0.out W (hU_g.out.trans (hW.mono hU_g.out.size))).mono fun e w' ⟨a, c, he, _, ho, hb, _⟩ => ⟨a, c, he, ho.own, hW.trans (hb.mono hW.size)⟩)
    have EX := Lib.hid (show ∀ a' c' lo W, Below wg.heap.size wg W → Own W lo a' xs0 → Calls Tryd.prog 30 #[.agg #[.int .i64 s0, .slice b0 xs0.length d0, .int .i64 ex0], .agg #[.int .i64 s0, .slice a' xs0.length c', .int .i64 ex0]] W fun e w' => e = .returned (.bool true) ∧ Below wg.heap.size wg w' from fun a' c' lo W hW ho => (eqDyadic_yes s0 _ _ xs0 _ _ _ ex0 rfl _ _ _ hW.size (Nat.le_refl _) ((Own2.own OX0_6.out).ints.below hW) ho.ints (by have := HN0.out; omega)).mono fun e w' ⟨he, hb⟩ => ⟨he, hW.trans (hb.mono hW.size)⟩)
    have hTT : Below wg.heap.size wg wg.drew := (Below.refl _ _).drew
    clear x7_0 x7_1 x7_2
    go_wp2_with fail
    refine (HSF.out _).mono ?_
    rintro e wsf ⟨rfl, rfl⟩
    go_wp2_with fail
    go_region_held3 (fun W => W.cell? ⟨w.heap.size, 0, none⟩ = some (.int .i64 s0) ∧ W.cell? ⟨w.heap.size, 1, none⟩ = some (.slice a0 xs0.length c0) ∧ W.cell? ⟨w.heap.size, 2, none⟩ = some (.int .i64 ex0) ∧ W.cell? ⟨wx1.heap.size, 0, none⟩ = some (.int .i64 s0) ∧ W.cell? ⟨wx1.heap.size, 1, none⟩ = some (.slice b0 xs0.length d0) ∧ W.cell? ⟨wx1.heap.size, 2, none⟩ = some (.int .i64 ex0))
      (exact SX.out _ (by assumption))
      (first
      | (go_at_call 37; refine (TX.out _ (by assumption)).mono ?_; rintro e u1_0 ⟨e1, f1, rfl, ho1, hb1⟩)
      | (go_at_call 30; refine (EX.out _ _ _ _ (by assumption) (by assumption)).mono ?_; rintro e wd0 ⟨rfl, hbd⟩))
    have hsz_d0 := hbd.size
    have hU_8 := Lib.hid (hU_g.out.trans (hbd.mono hU_g.out.size))
    clear hU_g
    have BX0_9 := Lib.hid (BX0_5.out.below hbd)
    have OX0_10 := Lib.hid (OX0_6.out.below hbd (by first | omega | (simp; done) | (simp; omega)))
    clear BX0_5 OX0_6
    clear ho1 hb1 hbd hTT SX TX EX
    go_wp2_with fail
    go_ret
    exact ⟨rfl, P3.out.trans (hU_8.out.mono (by have := P4.out; omega))⟩
  · have hT : Below w.heap.size w w := Below.refl _ _
    obtain ⟨W0, hW0⟩ : ∃ W0 : World, (w.alloc (.cells #[.int .i64 s0, .slice a0 xs0.length c0, .int .i64 ex0] 54)) = W0 := ⟨_, rfl⟩
    obtain ⟨p0, p8, p9⟩ := one_box w 54 #[.int .i64 s0, .slice a0 xs0.length c0, .int .i64 ex0]
    rw [hW0] at p0 p8 p9
    have HW0 := Lib.hid hW0
    have P3 := Lib.hid p8
    have P4 := Lib.hid p9
    have SS := Lib.hid (show ∀ W, Below W0.heap.size W0 W → (W.cell? ⟨w.heap.size, 0, none⟩ = some (.int .i64 s0) ∧ W.cell? ⟨w.heap.size, 1, none⟩ = some (.slice a0 xs0.length c0) ∧ W.cell? ⟨w.heap.size, 2, none⟩ = some (.int .i64 ex0)) from fun W hW => ⟨(p0.below hW).cell 0, (p0.below hW).cell 1, (p0.below hW).cell 2⟩)
    clear hT hW0 p8 p9 p0 hx0
    go_enter Tryd.func6, Tryd.ntmps6
    go_wp2_with fail
    rw [HW0.out]
    refine (szDy_no s0 a0 xs0.length c0 ex0 (1048576) _ (by omega) hl0 (by omega) (by omega)).mono ?_
    rintro e wq ⟨rfl, hb⟩
    have hB := Lib.hid (P3.out.trans ((Below.trans (Below.refl W0.heap.size W0) (hb.mono (Below.size (Below.refl W0.heap.size W0)))).mono (by have := P4.out; omega)))
    clear hb
    go_wp2_with fail
    go_ret
    exact ⟨rfl, hB.out⟩
end Go.Proofs.YtfjfmlofhifkmaaDoor
