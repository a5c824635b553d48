/-
  The walk of laws.FnExactMultiplyExacts. Conditions: the limbs can be read; the library's table is as its initialiser lays it.
-/
import Derived.Test.YtpchcigpppdfiaaDoorEk
import Derived.Deep.DeepCutAuto
import Derived.Deep.RegionHeld3
namespace Go.Proofs.YtpchcigpppdfiaaDoor
set_option linter.unusedVariables false
open Go Go.RowKit

theorem dyB_len2 {s x : Int} {xs : List Int} (h : dyB s xs x = true) : xs.length ≤ 200 := by
  obtain ⟨m, e, hm, _⟩ := isDy_of (dyB_iff.1 h)
  rw [e]
  exact hm
theorem fitE_len (p q : Int × List Int × Int) : (fitE p q).l1.length ≤ 200 ∧ (fitE p q).l2.length ≤ 200 := by
  by_cases h : dyB p.1 p.2.1 p.2.2 = true ∧ dyB q.1 q.2.1 q.2.2 = true
  · rw [fitE_yes h.1 h.2]
    exact ⟨dyB_len2 h.1, dyB_len2 h.2⟩
  · rw [fitE_no h]
    exact ⟨by simp [exZ], by simp [exZ]⟩
theorem exY_len {f : Int → Int → Int → Int → Int → Int → Int → Int → ExR} (hf : ∀ a b c d e g h i, (f a b c d e g h i).l1.length ≤ 200 ∧ (f a b c d e g h i).l2.length ≤ 200) (s : Int) (xs : List Int) (x : Int) (s' : Int) (xs' : List Int) (x' : Int) (t : Int) (ys : List Int) (y : Int) (t' : Int) (ys' : List Int) (y' : Int) :
    (exY f s xs x s' xs' x' t ys y t' ys' y').l1.length ≤ 200 ∧ (exY f s xs x s' xs' x' t ys y t' ys' y').l2.length ≤ 200 := by
  unfold exY
  split
  · exact hf _ _ _ _ _ _ _ _
  · exact ⟨by simp [exZ], by simp [exZ]⟩

theorem muG_len (P Q U V : Int × List Int × Int) : (muG P Q U V).l1.length ≤ 200 ∧ (muG P Q U V).l2.length ≤ 200 := by
  by_cases h : (dyB P.1 P.2.1 P.2.2 && dyB Q.1 Q.2.1 Q.2.2) = true ∧ (dyB U.1 U.2.1 U.2.2 && dyB V.1 V.2.1 V.2.2) = true
  · rw [muG_yes h.1 h.2]
    exact fitE_len _ _
  · rw [muG_no h]
    exact ⟨by simp [exZ], by simp [exZ]⟩

set_option maxRecDepth 100000 in
set_option maxHeartbeats 8000000 in
theorem MultiplyExacts_walk (s0 : Int) (a0 : Option Addr) (xs0 : List Int) (c0 : Nat) (ex0 : Int) (s1 : Int) (a1 : Option Addr) (xs1 : List Int) (c1 : Nat) (ex1 : Int) (s2 : Int) (a2 : Option Addr) (xs2 : List Int) (c2 : Nat) (ex2 : Int) (s3 : Int) (a3 : Option Addr) (xs3 : List Int) (c3 : Nat) (ex3 : Int) (w : World) (hl0 : xs0.length ≤ 9223372036854775807) (hx0 : Ints w w.heap.size a0 xs0) (bl0 : -9223372036854775808 ≤ ex0) (bh0 : ex0 ≤ 9223372036854775807) (hl1 : xs1.length ≤ 9223372036854775807) (hx1 : Ints w w.heap.size a1 xs1) (bl1 : -9223372036854775808 ≤ ex1) (bh1 : ex1 ≤ 9223372036854775807) (hl2 : xs2.length ≤ 9223372036854775807) (hx2 : Ints w w.heap.size a2 xs2) (bl2 : -9223372036854775808 ≤ ex2) (bh2 : ex2 ≤ 9223372036854775807) (hl3 : xs3.length ≤ 9223372036854775807) (hx3 : Ints w w.heap.size a3 xs3) (bl3 : -9223372036854775808 ≤ ex3) (bh3 : ex3 ≤ 9223372036854775807) (hTab : Tab w) :
    Calls Tryd.prog 5 #[.agg #[.int .i64 s0, .slice a0 xs0.length c0, .int .i64 ex0, .int .i64 s1, .slice a1 xs1.length c1, .int .i64 ex1], .agg #[.int .i64 s2, .slice a2 xs2.length c2, .int .i64 ex2, .int .i64 s3, .slice a3 xs3.length c3, .int .i64 ex3]] w (LawDone w) := by
  by_cases hbig : (xs0.length : Int) + (xs1.length : Int) + (xs2.length : Int) + (xs3.length : Int) ≤ 1048576
  · have HL := Lib.hid hbig
    obtain ⟨⟨r1, r2, r3, r4, r5, r6, rc⟩, hr⟩ : ∃ r : ExR, r = exY muF s0 xs0 ex0 s1 xs1 ex1 s2 xs2 ex2 s3 xs3 ex3 := ⟨_, rfl⟩
    obtain ⟨W0, hW0⟩ : ∃ W0 : World, ((w.alloc (.cells #[.int .i64 s0, .slice a0 xs0.length c0, .int .i64 ex0, .int .i64 s1, .slice a1 xs1.length c1, .int .i64 ex1] 44)).alloc (.cells #[.int .i64 s2, .slice a2 xs2.length c2, .int .i64 ex2, .int .i64 s3, .slice a3 xs3.length c3, .int .i64 ex3] 44)) = W0 := ⟨_, rfl⟩
    obtain ⟨p0, p1, p8, p9⟩ := two_boxT w 44 44 #[.int .i64 s0, .slice a0 xs0.length c0, .int .i64 ex0, .int .i64 s1, .slice a1 xs1.length c1, .int .i64 ex1] #[.int .i64 s2, .slice a2 xs2.length c2, .int .i64 ex2, .int .i64 s3, .slice a3 xs3.length c3, .int .i64 ex3]
    rw [hW0] at p0 p1 p8 p9
    have HW0 := Lib.hid hW0
    have P3 := Lib.hid p8
    have P4 := Lib.hid p9
    have SS := Lib.hid (show ∀ W, Below W0.heap.size W0 W → (W.cell? ⟨w.heap.size, 0, none⟩ = some (.int .i64 s0) ∧ W.cell? ⟨w.heap.size, 1, none⟩ = some (.slice a0 xs0.length c0) ∧ W.cell? ⟨w.heap.size, 2, none⟩ = some (.int .i64 ex0) ∧ W.cell? ⟨w.heap.size, 3, none⟩ = some (.int .i64 s1) ∧ W.cell? ⟨w.heap.size, 4, none⟩ = some (.slice a1 xs1.length c1) ∧ W.cell? ⟨w.heap.size, 5, none⟩ = some (.int .i64 ex1) ∧ W.cell? ⟨w.heap.size + 1, 0, none⟩ = some (.int .i64 s2) ∧ W.cell? ⟨w.heap.size + 1, 1, none⟩ = some (.slice a2 xs2.length c2) ∧ W.cell? ⟨w.heap.size + 1, 2, none⟩ = some (.int .i64 ex2) ∧ W.cell? ⟨w.heap.size + 1, 3, none⟩ = some (.int .i64 s3) ∧ W.cell? ⟨w.heap.size + 1, 4, none⟩ = some (.slice a3 xs3.length c3) ∧ W.cell? ⟨w.heap.size + 1, 5, none⟩ = some (.int .i64 ex3)) from fun W hW => ⟨(p0.below hW).cell 0, (p0.below hW).cell 1, (p0.below hW).cell 2, (p0.below hW).cell 3, (p0.below hW).cell 4, (p0.below hW).cell 5, (p1.below hW).cell 0, (p1.below hW).cell 1, (p1.below hW).cell 2, (p1.below hW).cell 3, (p1.below hW).cell 4, (p1.below hW).cell 5⟩)
    have HTB := Lib.hid (show ∀ W, Below W0.heap.size W0 W → Tab W from fun W hW => (hTab.below p8).below hW)
    clear hTab
    have HT0 := Lib.hid (show ∀ W, Below W0.heap.size W0 W → Calls Tryd.prog 24 #[.agg #[.int .i64 s0, .slice a0 xs0.length c0, .int .i64 ex0, .int .i64 s1, .slice a1 xs1.length c1, .int .i64 ex1]] W fun e w' => ∃ a' c' b' d', e = .returned (.agg #[.int .i64 s0, .slice a' xs0.length c', .int .i64 ex0, .int .i64 s1, .slice b' xs1.length d', .int .i64 ex1]) ∧ xs0.length ≤ c' ∧ xs1.length ≤ d' ∧ Own2 w' W.heap.size w'.heap.size a' xs0 ∧ Own2 w' W.heap.size w'.heap.size b' xs1 ∧ Apart a' b' xs0 xs1 ∧ Below W.heap.size W w' ∧ Below W0.heap.size W0 w' from
      fun W hW => (toExact s0 a0 xs0 c0 ex0 s1 a1 xs1 c1 ex1 W w.heap.size (by have := hW.size; omega) (by omega) (by omega) (hx0.below (p8.trans (hW.mono (by omega)))) (hx1.below (p8.trans (hW.mono (by omega))))).mono fun e w' ⟨a, c, b, d, he, hc, hd, ho, hp, hap, hb⟩ => ⟨a, c, b, d, he, hc, hd, Own2.of ho, Own2.of hp, hap, hb, hW.trans (hb.mono hW.size)⟩)
    have HT1 := Lib.hid (show ∀ W, Below W0.heap.size W0 W → Calls Tryd.prog 24 #[.agg #[.int .i64 s2, .slice a2 xs2.length c2, .int .i64 ex2, .int .i64 s3, .slice a3 xs3.length c3, .int .i64 ex3]] W fun e w' => ∃ a' c' b' d', e = .returned (.agg #[.int .i64 s2, .slice a' xs2.length c', .int .i64 ex2, .int .i64 s3, .slice b' xs3.length d', .int .i64 ex3]) ∧ xs2.length ≤ c' ∧ xs3.length ≤ d' ∧ Own2 w' W.heap.size w'.heap.size a' xs2 ∧ Own2 w' W.heap.size w'.heap.size b' xs3 ∧ Apart a' b' xs2 xs3 ∧ Below W.heap.size W w' ∧ Below W0.heap.size W0 w' from
      fun W hW => (toExact s2 a2 xs2 c2 ex2 s3 a3 xs3 c3 ex3 W w.heap.size (by have := hW.size; omega) (by omega) (by omega) (hx2.below (p8.trans (hW.mono (by omega)))) (hx3.below (p8.trans (hW.mono (by omega))))).mono fun e w' ⟨a, c, b, d, he, hc, hd, ho, hp, hap, hb⟩ => ⟨a, c, b, d, he, hc, hd, Own2.of ho, Own2.of hp, hap, hb, hW.trans (hb.mono hW.size)⟩)
    have HSP := Lib.hid (show ∀ (b0 : Option Addr) (d0 : Nat) (b1 : Option Addr) (d1 : Nat) (b2 : Option Addr) (d2 : Nat) (b3 : Option Addr) (d3 : Nat) W, Below W0.heap.size W0 W → xs0.length ≤ d0 → xs1.length ≤ d1 → xs2.length ≤ d2 → xs3.length ≤ d3 → Ints W W.heap.size b0 xs0 → Ints W W.heap.size b1 xs1 → Ints W W.heap.size b2 xs2 → Ints W W.heap.size b3 xs3 → Calls Tryd.prog 23 #[.agg #[.int .i64 s0, .slice b0 xs0.length d0, .int .i64 ex0, .int .i64 s1, .slice b1 xs1.length d1, .int .i64 ex1], .agg #[.int .i64 s2, .slice b2 xs2.length d2, .int .i64 ex2, .int .i64 s3, .slice b3 xs3.length d3, .int .i64 ex3]] W fun e w' => ∃ a c b d, e = .returned (.tuple #[.agg #[.int .i64 r1, .slice a r2.length c, .int .i64 r3, .int .i64 r4, .slice b r5.length d, .int .i64 r6], .int .i64 rc]) ∧ r2.length ≤ c ∧ r5.length ≤ d ∧ Own w' W.heap.size a r2 ∧ Own w' W.heap.size b r5 ∧ Apart a b r2 r5 ∧ Below W.heap.size W w' ∧ Below W0.heap.size W0 w' from
      fun b0 d0 b1 d1 b2 d2 b3 d3 W hW h0 h1 h2 h3 i0 i1 i2 i3 => by
        have := sMultiplyExacts s0 b0 xs0 d0 ex0 s1 b1 xs1 d1 ex1 s2 b2 xs2 d2 ex2 s3 b3 xs3 d3 ex3 W _ (Nat.le_refl _) i0 i1 i2 i3 hl0 hl1 hl2 hl3 h0 h1 h2 h3
        rw [← hr] at this
        exact this.mono fun e w' ⟨a, c, b, d, he, hc, hd, ho, hp, hap, hb⟩ => ⟨a, c, b, d, he, hc, hd, ho, hp, hap, hb, hW.trans (hb.mono hW.size)⟩)
    have HIM := Lib.hid (show ∀ (b0 : Option Addr) (d0 : Nat) (b1 : Option Addr) (d1 : Nat) (b2 : Option Addr) (d2 : Nat) (b3 : Option Addr) (d3 : Nat) W, Below W0.heap.size W0 W → xs0.length ≤ d0 → xs1.length ≤ d1 → xs2.length ≤ d2 → xs3.length ≤ d3 → Ints W W.heap.size b0 xs0 → Ints W W.heap.size b1 xs1 → Ints W W.heap.size b2 xs2 → Ints W W.heap.size b3 xs3 → Calls Tryd.prog 25 #[.agg #[.int .i64 s0, .slice b0 xs0.length d0, .int .i64 ex0, .int .i64 s1, .slice b1 xs1.length d1, .int .i64 ex1], .agg #[.int .i64 s2, .slice b2 xs2.length d2, .int .i64 ex2, .int .i64 s3, .slice b3 xs3.length d3, .int .i64 ex3]] W fun e w' => ∃ a c b d, e = .returned (.tuple #[.agg #[.int .i64 r1, .slice a r2.length c, .int .i64 r3, .int .i64 r4, .slice b r5.length d, .int .i64 r6], .int .i64 rc]) ∧ r2.length ≤ c ∧ r5.length ≤ d ∧ Own w' W.heap.size a r2 ∧ Own w' W.heap.size b r5 ∧ Apart a b r2 r5 ∧ Below W.heap.size W w' ∧ Below W0.heap.size W0 w' from
      fun b0 d0 b1 d1 b2 d2 b3 d3 W hW h0 h1 h2 h3 i0 i1 i2 i3 => by
        have := iMultiplyExacts s0 b0 xs0 d0 ex0 s1 b1 xs1 d1 ex1 s2 b2 xs2 d2 ex2 s3 b3 xs3 d3 ex3 W _ (Nat.le_refl _) i0 i1 i2 i3 hl0 hl1 hl2 hl3 (HTB.out W hW)
        rw [← hr] at this
        exact this.mono fun e w' ⟨a, c, b, d, he, hc, hd, ho, hp, hap, hb⟩ => ⟨a, c, b, d, he, hc, hd, ho, hp, hap, hb, hW.trans (hb.mono hW.size)⟩)
    have hT : Below W0.heap.size W0 W0 := Below.refl _ _
    have hn0 : decide (1048576 - (xs0.length : Int) - (xs1.length : Int) < 0) = false := decide_eq_false (by omega)
    have hn1 : decide (1048576 - (xs0.length : Int) - (xs1.length : Int) - (xs2.length : Int) - (xs3.length : Int) < 0) = false := decide_eq_false (by omega)
    have HN0 := Lib.hid (show xs0.length ≤ 1048576 by omega)
    have HN1 := Lib.hid (show xs1.length ≤ 1048576 by omega)
    have HN2 := Lib.hid (show xs2.length ≤ 1048576 by omega)
    have HN3 := Lib.hid (show xs3.length ≤ 1048576 by omega)
    have HR2 := Lib.hid (show r2.length ≤ 200 ∧ r5.length ≤ 200 from (by have h1 := exY_len (f := muF) (fun _ _ _ _ _ _ _ _ => muG_len _ _ _ _) s0 xs0 ex0 s1 xs1 ex1 s2 xs2 ex2 s3 xs3 ex3; rw [← hr] at h1; exact h1))
    clear p0 p1 p8 p9 hx0 hx1 hx2 hx3 hW0 hl0 hl1 hl2 hl3 hbig hr
    go_enter Tryd.func5, Tryd.ntmps5
    go_wp2_with fail
    rw [HW0.out]
    refine (szEx_ok s0 a0 xs0.length c0 ex0 s1 a1 xs1.length c1 ex1 1048576 _ (by have := HL.out; omega) (by omega)).mono ?_
    rintro e w1 ⟨rfl, hb⟩
    have hU1 : Below W0.heap.size W0 w1 := hT.trans (hb.mono hT.size)
    clear hb
    obtain ⟨k0, k1, k2, k3, k4, k5, k6, k7, k8, k9, k10, k11⟩ := SS.out _ hU1
    go_wp2_with fail
    refine (szEx_ok s2 a2 xs2.length c2 ex2 s3 a3 xs3.length c3 ex3 (1048576 - (xs0.length : Int) - (xs1.length : Int)) _ (by have := HL.out; omega) (by omega)).mono ?_
    rintro e w2 ⟨rfl, hb⟩
    clear k0 k1 k2 k3 k4 k5 k6 k7 k8 k9 k10 k11
    have hU2 : Below W0.heap.size W0 w2 := hU1.trans (hb.mono hU1.size)
    clear hb
    obtain ⟨k0, k1, k2, k3, k4, k5, k6, k7, k8, k9, k10, k11⟩ := SS.out _ hU2
    go_wp2_with fail
    go_cut [6, 7] (fun p q W => q = .int .i64 rc ∧ ∃ hi, ResE W0 W p r1 r2 r3 r4 r5 r6 hi)
    case first =>
      have hTd := hU2.drew
      have hsz0 := hU2.size
      clear k0 k1 k2 k3 k4 k5 k6 k7 k8 k9 k10 k11
      go_region_held3 (fun W => W.cell? ⟨w.heap.size, 0, none⟩ = some (.int .i64 s0) ∧ W.cell? ⟨w.heap.size, 1, none⟩ = some (.slice a0 xs0.length c0) ∧ W.cell? ⟨w.heap.size, 2, none⟩ = some (.int .i64 ex0) ∧ W.cell? ⟨w.heap.size, 3, none⟩ = some (.int .i64 s1) ∧ W.cell? ⟨w.heap.size, 4, none⟩ = some (.slice a1 xs1.length c1) ∧ W.cell? ⟨w.heap.size, 5, none⟩ = some (.int .i64 ex1) ∧ W.cell? ⟨w.heap.size + 1, 0, none⟩ = some (.int .i64 s2) ∧ W.cell? ⟨w.heap.size + 1, 1, none⟩ = some (.slice a2 xs2.length c2) ∧ W.cell? ⟨w.heap.size + 1, 2, none⟩ = some (.int .i64 ex2) ∧ W.cell? ⟨w.heap.size + 1, 3, none⟩ = some (.int .i64 s3) ∧ W.cell? ⟨w.heap.size + 1, 4, none⟩ = some (.slice a3 xs3.length c3) ∧ W.cell? ⟨w.heap.size + 1, 5, none⟩ = some (.int .i64 ex3))
          (exact SS.out _ (by with_reducible first | assumption | exact below_alloc (by assumption) _ | exact below_allocd (by assumption) _ | exact below_set6 (by assumption) (by omega) _ _ _ _ _ _))
          (first
          | (go_at_call 24; with_reducible refine (HT0.out _ (by with_reducible first | assumption | exact below_alloc (by assumption) _ | exact below_allocd (by assumption) _ | exact below_set6 (by assumption) (by omega) _ _ _ _ _ _)).mono ?_; rintro e v1 ⟨e1, f1, e2, f2, rfl, hc1, hc2, ho1, ho2, hap1, hbb1, hbz1⟩; have hsz1 := hbz1.size; have hsy1 := hbb1.size; (try simp at hsy1); have hk1 := fun g cs (h : BoxAt _ g 49 cs) => BoxAt.below h hbb1)
          | (go_at_call 24; with_reducible refine (HT1.out _ (by with_reducible first | assumption | exact below_alloc (by assumption) _ | exact below_allocd (by assumption) _ | exact below_set6 (by assumption) (by omega) _ _ _ _ _ _)).mono ?_; rintro e v2 ⟨e3, f3, e4, f4, rfl, hc3, hc4, ho3, ho4, hap2, hbb2, hbz2⟩; have hsz2 := hbz2.size; have hsy2 := hbb2.size; (try simp at hsy2); have hk2 := fun g cs (h : BoxAt _ g 49 cs) => BoxAt.below h hbb2; have ho1x := Own2.below (by with_reducible first | exact ho1 | exact Own2.alloc ho1 _) hbb2 (by simp); have ho2x := Own2.below (by with_reducible first | exact ho2 | exact Own2.alloc ho2 _) hbb2 (by simp))
          | (go_at_call 23; with_reducible refine (HSP.out _ _ _ _ _ _ _ _ _ (by with_reducible first | assumption | exact below_alloc (by assumption) _ | exact below_allocd (by assumption) _ | exact below_set6 (by assumption) (by omega) _ _ _ _ _ _) hc1 hc2 hc3 hc4 (by with_reducible first | exact (Own2.own ho1x).ints | exact (Own2.own (Own2.alloc ho1x _)).ints) (by with_reducible first | exact (Own2.own ho2x).ints | exact (Own2.own (Own2.alloc ho2x _)).ints) (by with_reducible first | exact (Own2.own ho3).ints | exact (Own2.own (Own2.alloc ho3 _)).ints) (by with_reducible first | exact (Own2.own ho4).ints | exact (Own2.own (Own2.alloc ho4 _)).ints)).mono ?_; rintro e v3 ⟨e5, f5, e6, f6, rfl, hc5, hc6, ho5, ho6, hap3, hbb3, hbz3⟩; have hsz3 := hbz3.size; have hsy3 := hbb3.size; (try simp at hsy3); (first | (with_reducible have hq := BoxAt.below (BoxAt.new v2 _ _) hbb3; obtain ⟨g1, g2, g3, g4, g5, g6, g7, g8, g9, g10, g11, g12⟩ := BoxAt.six12 hq) | (with_reducible have hq := BoxAt.below (hk2 _ _ (BoxAt.new v1 _ _)) hbb3; obtain ⟨g1, g2, g3, g4, g5, g6, g7, g8, g9, g10, g11, g12⟩ := BoxAt.six12 hq) | (with_reducible have hq := BoxAt.below (hk2 _ _ (hk1 _ _ (BoxAt.newd w2 _ _))) hbb3; obtain ⟨g1, g2, g3, g4, g5, g6, g7, g8, g9, g10, g11, g12⟩ := BoxAt.six12 hq) | skip)))
      all_goals
          go_wp2_with fail
          go_meet
          with_reducible first
          | exact ⟨rfl, _, ResE.mk1 hbz3 ho5 (by first | omega | (simp; omega) | simp) hc5 ho6 (by first | omega | (simp; omega) | simp) hc6 rfl⟩
          | exact ⟨rfl, _, ResE.mk2 hq (by first | omega | (simp; done) | (simp; omega)) hbz3 ho5 (by first | omega | (simp; omega) | simp) hc5 ho6 (by first | omega | (simp; omega) | simp) hc6⟩
    case rest => as_aux_lemma =>
      obtain ⟨rfl, hi6, hres⟩ := hcut
      obtain ⟨g6, a6, c6, b6, d6, rfl, hg6, hh6, hx6, hc6, hd6, ho6, hp6⟩ := hres.ex
      have hs6 := hres.size
      have hWs := hres.bel.size
      have hU := Lib.hid hres.bel
      have B6 := Lib.hid hx6
      have O6 := Lib.hid (Own2.of ho6)
      have O8 := Lib.hid (Own2.of hp6)
      have hrc : (rc != rc) = false := by simp
      have hr3 : (r3 != r3) = false := by simp
      have hr6 : (r6 != r6) = false := by simp
      clear hres hx6 ho6 hp6 hc6 hd6 HSP hT HL hU1 hU2
      clear k0 k1 k2 k3 k4 k5 k6 k7 k8 k9 k10 k11
      obtain ⟨x1_0, x1_1, x1_2, x1_3, x1_4, x1_5, x1_6, x1_7, x1_8, x1_9, x1_10, x1_11⟩ := SS.out _ hU.out
      go_wp2_with fail
      refine (HT0.out _ hU.out).mono ?_
      rintro e wx1 ⟨b0, d0, b1, d1, rfl, hd0, hd1, ho, hp, hap, hb, hz⟩
      have hsz_wx1 := hb.size
      (try simp at hsz_wx1)
      clear x1_0 x1_1 x1_2 x1_3 x1_4 x1_5 x1_6 x1_7 x1_8 x1_9 x1_10 x1_11
      have B6_2 := Lib.hid (B6.out.below hb)
      have O6_3 := Lib.hid (O6.out.below hb (by first | omega | (simp; done) | (simp; omega)))
      have O8_4 := Lib.hid (O8.out.below hb (by first | omega | (simp; done) | (simp; omega)))
      clear B6 O6 O8
      clear hU
      have hU_wx1 := Lib.hid hz
      have OX0 := Lib.hid ho
      have OX1 := Lib.hid hp
      have HD0 := Lib.hid hd0
      have HD1 := Lib.hid hd1
      have HAP0 := Lib.hid hap
      clear ho hp hb hz hd0 hd1 hap
      have B6_5 := Lib.hid (B6_2.out.alloc (.cells #[.int .i64 s0, .slice b0 xs0.length d0, .int .i64 ex0, .int .i64 s1, .slice b1 xs1.length d1, .int .i64 ex1] 49))
      have O6_6 := Lib.hid (O6_3.out.alloc (.cells #[.int .i64 s0, .slice b0 xs0.length d0, .int .i64 ex0, .int .i64 s1, .slice b1 xs1.length d1, .int .i64 ex1] 49))
      have O8_7 := Lib.hid (O8_4.out.alloc (.cells #[.int .i64 s0, .slice b0 xs0.length d0, .int .i64 ex0, .int .i64 s1, .slice b1 xs1.length d1, .int .i64 ex1] 49))
      have OX0_8 := Lib.hid (OX0.out.alloc (.cells #[.int .i64 s0, .slice b0 xs0.length d0, .int .i64 ex0, .int .i64 s1, .slice b1 xs1.length d1, .int .i64 ex1] 49))
      have OX1_9 := Lib.hid (OX1.out.alloc (.cells #[.int .i64 s0, .slice b0 xs0.length d0, .int .i64 ex0, .int .i64 s1, .slice b1 xs1.length d1, .int .i64 ex1] 49))
      clear B6_2 O6_3 O8_4 OX0 OX1
      have hU_10 := Lib.hid (below_alloc hU_wx1.out (.cells #[.int .i64 s0, .slice b0 xs0.length d0, .int .i64 ex0, .int .i64 s1, .slice b1 xs1.length d1, .int .i64 ex1] 49))
      clear hU_wx1
      have BX0 := Lib.hid (BoxAt.new wx1 49 #[.int .i64 s0, .slice b0 xs0.length d0, .int .i64 ex0, .int .i64 s1, .slice b1 xs1.length d1, .int .i64 ex1])
      obtain ⟨x11_0, x11_1, x11_2, x11_3, x11_4, x11_5, x11_6, x11_7, x11_8, x11_9, x11_10, x11_11⟩ := SS.out _ hU_10.out
      go_wp2_with fail
      refine (HT1.out _ hU_10.out).mono ?_
      rintro e wx2 ⟨b2, d2, b3, d3, rfl, hd2, hd3, ho, hp, hap, hb, hz⟩
      have hsz_wx2 := hb.size
      (try simp at hsz_wx2)
      clear x11_0 x11_1 x11_2 x11_3 x11_4 x11_5 x11_6 x11_7 x11_8 x11_9 x11_10 x11_11
      have B6_12 := Lib.hid (B6_5.out.below hb)
      have BX0_13 := Lib.hid (BX0.out.below hb)
      have O6_14 := Lib.hid (O6_6.out.below hb (by first | omega | (simp; done) | (simp; omega)))
      have O8_15 := Lib.hid (O8_7.out.below hb (by first | omega | (simp; done) | (simp; omega)))
      have OX0_16 := Lib.hid (OX0_8.out.below hb (by first | omega | (simp; done) | (simp; omega)))
      have OX1_17 := Lib.hid (OX1_9.out.below hb (by first | omega | (simp; done) | (simp; omega)))
      clear B6_5 BX0 O6_6 O8_7 OX0_8 OX1_9
      clear hU_10
      have hU_wx2 := Lib.hid hz
      have OX2 := Lib.hid ho
      have OX3 := Lib.hid hp
      have HD2 := Lib.hid hd2
      have HD3 := Lib.hid hd3
      have HAP1 := Lib.hid hap
      clear ho hp hb hz hd2 hd3 hap
      have B6_18 := Lib.hid (B6_12.out.alloc (.cells #[.int .i64 s2, .slice b2 xs2.length d2, .int .i64 ex2, .int .i64 s3, .slice b3 xs3.length d3, .int .i64 ex3] 49))
      have BX0_19 := Lib.hid (BX0_13.out.alloc (.cells #[.int .i64 s2, .slice b2 xs2.length d2, .int .i64 ex2, .int .i64 s3, .slice b3 xs3.length d3, .int .i64 ex3] 49))
      have O6_20 := Lib.hid (O6_14.out.alloc (.cells #[.int .i64 s2, .slice b2 xs2.length d2, .int .i64 ex2, .int .i64 s3, .slice b3 xs3.length d3, .int .i64 ex3] 49))
      have O8_21 := Lib.hid (O8_15.out.alloc (.cells #[.int .i64 s2, .slice b2 xs2.length d2, .int .i64 ex2, .int .i64 s3, .slice b3 xs3.length d3, .int .i64 ex3] 49))
      have OX0_22 := Lib.hid (OX0_16.out.alloc (.cells #[.int .i64 s2, .slice b2 xs2.length d2, .int .i64 ex2, .int .i64 s3, .slice b3 xs3.length d3, .int .i64 ex3] 49))
      have OX1_23 := Lib.hid (OX1_17.out.alloc (.cells #[.int .i64 s2, .slice b2 xs2.length d2, .int .i64 ex2, .int .i64 s3, .slice b3 xs3.length d3, .int .i64 ex3] 49))
      have OX2_24 := Lib.hid (OX2.out.alloc (.cells #[.int .i64 s2, .slice b2 xs2.length d2, .int .i64 ex2, .int .i64 s3, .slice b3 xs3.length d3, .int .i64 ex3] 49))
      have OX3_25 := Lib.hid (OX3.out.alloc (.cells #[.int .i64 s2, .slice b2 xs2.length d2, .int .i64 ex2, .int .i64 s3, .slice b3 xs3.length d3, .int .i64 ex3] 49))
      clear B6_12 BX0_13 O6_14 O8_15 OX0_16 OX1_17 OX2 OX3
      have hU_26 := Lib.hid (below_alloc hU_wx2.out (.cells #[.int .i64 s2, .slice b2 xs2.length d2, .int .i64 ex2, .int .i64 s3, .slice b3 xs3.length d3, .int .i64 ex3] 49))
      clear hU_wx2
      have BX1 := Lib.hid (BoxAt.new wx2 49 #[.int .i64 s2, .slice b2 xs2.length d2, .int .i64 ex2, .int .i64 s3, .slice b3 xs3.length d3, .int .i64 ex3])
      obtain ⟨y27_0, y27_1, y27_2, y27_3, y27_4, y27_5, y27_6, y27_7, y27_8, y27_9, y27_10, y27_11⟩ := BX0_19.out.six12
      obtain ⟨y28_0, y28_1, y28_2, y28_3, y28_4, y28_5, y28_6, y28_7, y28_8, y28_9, y28_10, y28_11⟩ := BX1.out.six12
      go_wp2_with fail
      refine (HIM.out _ _ _ _ _ _ _ _ _ hU_26.out HD0.out HD1.out HD2.out HD3.out (Own2.own OX0_22.out).ints (Own2.own OX1_23.out).ints (Own2.own OX2_24.out).ints (Own2.own OX3_25.out).ints).mono ?_
      rintro e wg ⟨ag, cg, bg, dg, rfl, hcg, hdg, ho, hp, hap, hb, hz⟩
      have hsz_g := hb.size
      (try simp at hsz_g)
      clear y27_0 y27_1 y27_2 y27_3 y27_4 y27_5 y27_6 y27_7 y27_8 y27_9 y27_10 y27_11 y28_0 y28_1 y28_2 y28_3 y28_4 y28_5 y28_6 y28_7 y28_8 y28_9 y28_10 y28_11
      have B6_29 := Lib.hid (B6_18.out.below hb)
      have BX0_30 := Lib.hid (BX0_19.out.below hb)
      have BX1_31 := Lib.hid (BX1.out.below hb)
      have O6_32 := Lib.hid (O6_20.out.below hb (by first | omega | (simp; done) | (simp; omega)))
      have O8_33 := Lib.hid (O8_21.out.below hb (by first | omega | (simp; done) | (simp; omega)))
      have OX0_34 := Lib.hid (OX0_22.out.below hb (by first | omega | (simp; done) | (simp; omega)))
      have OX1_35 := Lib.hid (OX1_23.out.below hb (by first | omega | (simp; done) | (simp; omega)))
      have OX2_36 := Lib.hid (OX2_24.out.below hb (by first | omega | (simp; done) | (simp; omega)))
      have OX3_37 := Lib.hid (OX3_25.out.below hb (by first | omega | (simp; done) | (simp; omega)))
      clear B6_18 BX0_19 BX1 O6_20 O8_21 OX0_22 OX1_23 OX2_24 OX3_25
      clear hU_26
      have hU_g := Lib.hid hz
      have OG := Lib.hid (Own2.of ho)
      have OH := Lib.hid (Own2.of hp)
      have HAG := Lib.hid hap
      clear ho hp hap hb hz hcg hdg
      have B6_38 := Lib.hid (B6_29.out.alloc (.cells #[.int .i64 r1, .slice ag r2.length cg, .int .i64 r3, .int .i64 r4, .slice bg r5.length dg, .int .i64 r6] 49))
      have BX0_39 := Lib.hid (BX0_30.out.alloc (.cells #[.int .i64 r1, .slice ag r2.length cg, .int .i64 r3, .int .i64 r4, .slice bg r5.length dg, .int .i64 r6] 49))
      have BX1_40 := Lib.hid (BX1_31.out.alloc (.cells #[.int .i64 r1, .slice ag r2.length cg, .int .i64 r3, .int .i64 r4, .slice bg r5.length dg, .int .i64 r6] 49))
      have O6_41 := Lib.hid (O6_32.out.alloc (.cells #[.int .i64 r1, .slice ag r2.length cg, .int .i64 r3, .int .i64 r4, .slice bg r5.length dg, .int .i64 r6] 49))
      have O8_42 := Lib.hid (O8_33.out.alloc (.cells #[.int .i64 r1, .slice ag r2.length cg, .int .i64 r3, .int .i64 r4, .slice bg r5.length dg, .int .i64 r6] 49))
      have OX0_43 := Lib.hid (OX0_34.out.alloc (.cells #[.int .i64 r1, .slice ag r2.length cg, .int .i64 r3, .int .i64 r4, .slice bg r5.length dg, .int .i64 r6] 49))
      have OX1_44 := Lib.hid (OX1_35.out.alloc (.cells #[.int .i64 r1, .slice ag r2.length cg, .int .i64 r3, .int .i64 r4, .slice bg r5.length dg, .int .i64 r6] 49))
      have OX2_45 := Lib.hid (OX2_36.out.alloc (.cells #[.int .i64 r1, .slice ag r2.length cg, .int .i64 r3, .int .i64 r4, .slice bg r5.length dg, .int .i64 r6] 49))
      have OX3_46 := Lib.hid (OX3_37.out.alloc (.cells #[.int .i64 r1, .slice ag r2.length cg, .int .i64 r3, .int .i64 r4, .slice bg r5.length dg, .int .i64 r6] 49))
      have OG_47 := Lib.hid (OG.out.alloc (.cells #[.int .i64 r1, .slice ag r2.length cg, .int .i64 r3, .int .i64 r4, .slice bg r5.length dg, .int .i64 r6] 49))
      have OH_48 := Lib.hid (OH.out.alloc (.cells #[.int .i64 r1, .slice ag r2.length cg, .int .i64 r3, .int .i64 r4, .slice bg r5.length dg, .int .i64 r6] 49))
      clear B6_29 BX0_30 BX1_31 O6_32 O8_33 OX0_34 OX1_35 OX2_36 OX3_37 OG OH
      have hU_49 := Lib.hid (below_alloc hU_g.out (.cells #[.int .i64 r1, .slice ag r2.length cg, .int .i64 r3, .int .i64 r4, .slice bg r5.length dg, .int .i64 r6] 49))
      clear hU_g
      have BG := Lib.hid (BoxAt.new wg 49 #[.int .i64 r1, .slice ag r2.length cg, .int .i64 r3, .int .i64 r4, .slice bg r5.length dg, .int .i64 r6])
      obtain ⟨y50_0, y50_1, y50_2, y50_3, y50_4, y50_5, y50_6, y50_7, y50_8, y50_9, y50_10, y50_11⟩ := BG.out.six12
      obtain ⟨y51_0, y51_1, y51_2, y51_3, y51_4, y51_5, y51_6, y51_7, y51_8, y51_9, y51_10, y51_11⟩ := B6_38.out.six12
      go_wp2_with fail
      refine (eqExact_yes r1 _ _ r2 _ _ _ r3 r4 _ _ r5 _ _ _ r6 rfl rfl _ _ _ _ _ (Nat.le_refl _) (Nat.le_refl _) (Nat.le_refl _) (Nat.le_refl _) (Own2.own OG_47.out).ints (Own2.own O6_41.out).ints (Own2.own OH_48.out).ints (Own2.own O8_42.out).ints (by have := HR2.out.1; omega) (by have := HR2.out.2; omega)).mono ?_
      rintro e we ⟨rfl, hb⟩
      have hsz_we := hb.size
      (try simp at hsz_we)
      clear y50_0 y50_1 y50_2 y50_3 y50_4 y50_5 y50_6 y50_7 y50_8 y50_9 y50_10 y50_11 y51_0 y51_1 y51_2 y51_3 y51_4 y51_5 y51_6 y51_7 y51_8 y51_9 y51_10 y51_11
      have hU_52 := Lib.hid (hU_49.out.trans (hb.mono hU_49.out.size))
      clear hU_49
      have B6_53 := Lib.hid (B6_38.out.below hb)
      have BX0_54 := Lib.hid (BX0_39.out.below hb)
      have BX1_55 := Lib.hid (BX1_40.out.below hb)
      have BG_56 := Lib.hid (BG.out.below hb)
      have O6_57 := Lib.hid (O6_41.out.below hb (by first | omega | (simp; done) | (simp; omega)))
      have O8_58 := Lib.hid (O8_42.out.below hb (by first | omega | (simp; done) | (simp; omega)))
      have OX0_59 := Lib.hid (OX0_43.out.below hb (by first | omega | (simp; done) | (simp; omega)))
      have OX1_60 := Lib.hid (OX1_44.out.below hb (by first | omega | (simp; done) | (simp; omega)))
      have OX2_61 := Lib.hid (OX2_45.out.below hb (by first | omega | (simp; done) | (simp; omega)))
      have OX3_62 := Lib.hid (OX3_46.out.below hb (by first | omega | (simp; done) | (simp; omega)))
      have OG_63 := Lib.hid (OG_47.out.below hb (by first | omega | (simp; done) | (simp; omega)))
      have OH_64 := Lib.hid (OH_48.out.below hb (by first | omega | (simp; done) | (simp; omega)))
      clear B6_38 BX0_39 BX1_40 BG O6_41 O8_42 OX0_43 OX1_44 OX2_45 OX3_46 OG_47 OH_48
      clear hb
      obtain ⟨x65_0, x65_1, x65_2, x65_3, x65_4, x65_5, x65_6, x65_7, x65_8, x65_9, x65_10, x65_11⟩ := SS.out _ hU_52.out
      have SX := Lib.hid (show ∀ W, Below we.heap.size we W → (W.cell? ⟨w.heap.size, 0, none⟩ = some (.int .i64 s0) ∧ W.cell? ⟨w.heap.size, 1, none⟩ = some (.slice a0 xs0.length c0) ∧ W.cell? ⟨w.heap.size, 2, none⟩ = some (.int .i64 ex0) ∧ W.cell? ⟨w.heap.size, 3, none⟩ = some (.int .i64 s1) ∧ W.cell? ⟨w.heap.size, 4, none⟩ = some (.slice a1 xs1.length c1) ∧ W.cell? ⟨w.heap.size, 5, none⟩ = some (.int .i64 ex1) ∧ W.cell? ⟨w.heap.size + 1, 0, none⟩ = some (.int .i64 s2) ∧ W.cell? ⟨w.heap.size + 1, 1, none⟩ = some (.slice a2 xs2.length c2) ∧ W.cell? ⟨w.heap.size + 1, 2, none⟩ = some (.int .i64 ex2) ∧ W.cell? ⟨w.heap.size + 1, 3, none⟩ = some (.int .i64 s3) ∧ W.cell? ⟨w.heap.size + 1, 4, none⟩ = some (.slice a3 xs3.length c3) ∧ W.cell? ⟨w.heap.size + 1, 5, none⟩ = some (.int .i64 ex3) ∧ W.cell? ⟨wx1.heap.size, 0, none⟩ = some (.int .i64 s0) ∧ W.cell? ⟨wx1.heap.size, 1, none⟩ = some (.slice b0 xs0.length d0) ∧ W.cell? ⟨wx1.heap.size, 2, none⟩ = some (.int .i64 ex0) ∧ W.cell? ⟨wx1.heap.size, 3, none⟩ = some (.int .i64 s1) ∧ W.cell? ⟨wx1.heap.size, 4, none⟩ = some (.slice b1 xs1.length d1) ∧ W.cell? ⟨wx1.heap.size, 5, none⟩ = some (.int .i64 ex1)) from fun W hW => ⟨(SS.out _ (hU_52.out.trans (hW.mono hU_52.out.size))).1, (SS.out _ (hU_52.out.trans (hW.mono hU_52.out.size))).2.1, (SS.out _ (hU_52.out.trans (hW.mono hU_52.out.size))).2.2.1, (SS.out _ (hU_52.out.trans (hW.mono hU_52.out.size))).2.2.2.1, (SS.out _ (hU_52.out.trans (hW.mono hU_52.out.size))).2.2.2.2.1, (SS.out _ (hU_52.out.trans (hW.mono hU_52.out.size))).2.2.2.2.2.1, (SS.out _ (hU_52.out.trans (hW.mono hU_52.out.size))).2.2.2.2.2.2.1, (SS.out _ (hU_52.out.trans (hW.mono hU_52.out.size))).2.2.2.2.2.2.2.1, (SS.out _ (hU_52.out.trans (hW.mono hU_52.out.size))).2.2.2.2.2.2.2.2.1, (SS.out _ (hU_52.out.trans (hW.mono hU_52.out.size))).2.2.2.2.2.2.2.2.2.1, (SS.out _ (hU_52.out.trans (hW.mono hU_52.out.size))).2.2.2.2.2.2.2.2.2.2.1, (SS.out _ (hU_52.out.trans (hW.mono hU_52.out.size))).2.2.2.2.2.2.2.2.2.2.2, (BX0_54.out.below hW).cell 0, (BX0_54.out.below hW).cell 1, (BX0_54.out.below hW).cell 2, (BX0_54.out.below hW).cell 3, (BX0_54.out.below hW).cell 4, (BX0_54.out.below hW).cell 5⟩)
      have TX := Lib.hid (show ∀ W, Below we.heap.size we W → Calls Tryd.prog 24 #[.agg #[.int .i64 s0, .slice a0 xs0.length c0, .int .i64 ex0, .int .i64 s1, .slice a1 xs1.length c1, .int .i64 ex1]] W fun e w' => ∃ a' c' b' d', e = .returned (.agg #[.int .i64 s0, .slice a' xs0.length c', .int .i64 ex0, .int .i64 s1, .slice b' xs1.length d', .int .i64 ex1]) ∧ Own w' W.heap.size a' xs0 ∧ Own w' W.heap.size b' xs1 ∧ Below we.heap.size we w' from fun W hW => (HT0.out W (hU_52.out.trans (hW.mono hU_52.out.size))).mono fun e w' ⟨a, c, b, d, he, _, _, ho, hp, _, hb, _⟩ => ⟨a, c, b, d, he, ho.own, hp.own, hW.trans (hb.mono hW.size)⟩)
      have EX := Lib.hid (show ∀ a' c' lo b' d' lo' W, Below we.heap.size we W → Own W lo a' xs0 → Own W lo' b' xs1 → Calls Tryd.prog 26 #[.agg #[.int .i64 s0, .slice b0 xs0.length d0, .int .i64 ex0, .int .i64 s1, .slice b1 xs1.length d1, .int .i64 ex1], .agg #[.int .i64 s0, .slice a' xs0.length c', .int .i64 ex0, .int .i64 s1, .slice b' xs1.length d', .int .i64 ex1]] W fun e w' => e = .returned (.bool true) ∧ Below we.heap.size we w' from fun a' c' lo b' d' lo' W hW ho hp => (eqExact_yes s0 _ _ xs0 _ _ _ ex0 s1 _ _ xs1 _ _ _ ex1 rfl rfl _ _ _ _ _ hW.size hW.size (Nat.le_refl _) (Nat.le_refl _) ((Own2.own OX0_59.out).ints.below hW) ho.ints ((Own2.own OX1_60.out).ints.below hW) hp.ints (by have := HN0.out; omega) (by have := HN1.out; omega)).mono fun e w' ⟨he, hb⟩ => ⟨he, hW.trans (hb.mono hW.size)⟩)
      have hTT : Below we.heap.size we we.drew := (Below.refl _ _).drew
      clear x65_0 x65_1 x65_2 x65_3 x65_4 x65_5 x65_6 x65_7 x65_8 x65_9 x65_10 x65_11
      go_wp2_with fail
      go_region_held3 (fun W => W.cell? ⟨w.heap.size, 0, none⟩ = some (.int .i64 s0) ∧ W.cell? ⟨w.heap.size, 1, none⟩ = some (.slice a0 xs0.length c0) ∧ W.cell? ⟨w.heap.size, 2, none⟩ = some (.int .i64 ex0) ∧ W.cell? ⟨w.heap.size, 3, none⟩ = some (.int .i64 s1) ∧ W.cell? ⟨w.heap.size, 4, none⟩ = some (.slice a1 xs1.length c1) ∧ W.cell? ⟨w.heap.size, 5, none⟩ = some (.int .i64 ex1) ∧ W.cell? ⟨w.heap.size + 1, 0, none⟩ = some (.int .i64 s2) ∧ W.cell? ⟨w.heap.size + 1, 1, none⟩ = some (.slice a2 xs2.length c2) ∧ W.cell? ⟨w.heap.size + 1, 2, none⟩ = some (.int .i64 ex2) ∧ W.cell? ⟨w.heap.size + 1, 3, none⟩ = some (.int .i64 s3) ∧ W.cell? ⟨w.heap.size + 1, 4, none⟩ = some (.slice a3 xs3.length c3) ∧ W.cell? ⟨w.heap.size + 1, 5, none⟩ = some (.int .i64 ex3) ∧ W.cell? ⟨wx1.heap.size, 0, none⟩ = some (.int .i64 s0) ∧ W.cell? ⟨wx1.heap.size, 1, none⟩ = some (.slice b0 xs0.length d0) ∧ W.cell? ⟨wx1.heap.size, 2, none⟩ = some (.int .i64 ex0) ∧ W.cell? ⟨wx1.heap.size, 3, none⟩ = some (.int .i64 s1) ∧ W.cell? ⟨wx1.heap.size, 4, none⟩ = some (.slice b1 xs1.length d1) ∧ W.cell? ⟨wx1.heap.size, 5, none⟩ = some (.int .i64 ex1))
          (exact SX.out _ (by assumption))
          (first
          | (go_at_call 24; refine (TX.out _ (by assumption)).mono ?_; rintro e u1_0 ⟨y1, f1, y2, f2, rfl, ho1, ho2, hb1⟩)
          | (go_at_call 26; refine (EX.out _ _ _ _ _ _ _ (by assumption) ho1 ho2).mono ?_; rintro e wd0 ⟨rfl, hbd⟩))
      have hsz_d0 := hbd.size
      have hU_66 := Lib.hid (hU_52.out.trans (hbd.mono hU_52.out.size))
      clear hU_52
      have B6_67 := Lib.hid (B6_53.out.below hbd)
      have BX0_68 := Lib.hid (BX0_54.out.below hbd)
      have BX1_69 := Lib.hid (BX1_55.out.below hbd)
      have BG_70 := Lib.hid (BG_56.out.below hbd)
      have O6_71 := Lib.hid (O6_57.out.below hbd (by first | omega | (simp; done) | (simp; omega)))
      have O8_72 := Lib.hid (O8_58.out.below hbd (by first | omega | (simp; done) | (simp; omega)))
      have OX0_73 := Lib.hid (OX0_59.out.below hbd (by first | omega | (simp; done) | (simp; omega)))
      have OX1_74 := Lib.hid (OX1_60.out.below hbd (by first | omega | (simp; done) | (simp; omega)))
      have OX2_75 := Lib.hid (OX2_61.out.below hbd (by first | omega | (simp; done) | (simp; omega)))
      have OX3_76 := Lib.hid (OX3_62.out.below hbd (by first | omega | (simp; done) | (simp; omega)))
      have OG_77 := Lib.hid (OG_63.out.below hbd (by first | omega | (simp; done) | (simp; omega)))
      have OH_78 := Lib.hid (OH_64.out.below hbd (by first | omega | (simp; done) | (simp; omega)))
      clear B6_53 BX0_54 BX1_55 BG_56 O6_57 O8_58 OX0_59 OX1_60 OX2_61 OX3_62 OG_63 OH_64
      clear ho1 ho2 hb1 hbd hTT SX TX EX
      obtain ⟨x79_0, x79_1, x79_2, x79_3, x79_4, x79_5, x79_6, x79_7, x79_8, x79_9, x79_10, x79_11⟩ := SS.out _ hU_66.out
      have SX := Lib.hid (show ∀ W, Below wd0.heap.size wd0 W → (W.cell? ⟨w.heap.size, 0, none⟩ = some (.int .i64 s0) ∧ W.cell? ⟨w.heap.size, 1, none⟩ = some (.slice a0 xs0.length c0) ∧ W.cell? ⟨w.heap.size, 2, none⟩ = some (.int .i64 ex0) ∧ W.cell? ⟨w.heap.size, 3, none⟩ = some (.int .i64 s1) ∧ W.cell? ⟨w.heap.size, 4, none⟩ = some (.slice a1 xs1.length c1) ∧ W.cell? ⟨w.heap.size, 5, none⟩ = some (.int .i64 ex1) ∧ W.cell? ⟨w.heap.size + 1, 0, none⟩ = some (.int .i64 s2) ∧ W.cell? ⟨w.heap.size + 1, 1, none⟩ = some (.slice a2 xs2.length c2) ∧ W.cell? ⟨w.heap.size + 1, 2, none⟩ = some (.int .i64 ex2) ∧ W.cell? ⟨w.heap.size + 1, 3, none⟩ = some (.int .i64 s3) ∧ W.cell? ⟨w.heap.size + 1, 4, none⟩ = some (.slice a3 xs3.length c3) ∧ W.cell? ⟨w.heap.size + 1, 5, none⟩ = some (.int .i64 ex3) ∧ W.cell? ⟨wx2.heap.size, 0, none⟩ = some (.int .i64 s2) ∧ W.cell? ⟨wx2.heap.size, 1, none⟩ = some (.slice b2 xs2.length d2) ∧ W.cell? ⟨wx2.heap.size, 2, none⟩ = some (.int .i64 ex2) ∧ W.cell? ⟨wx2.heap.size, 3, none⟩ = some (.int .i64 s3) ∧ W.cell? ⟨wx2.heap.size, 4, none⟩ = some (.slice b3 xs3.length d3) ∧ W.cell? ⟨wx2.heap.size, 5, none⟩ = some (.int .i64 ex3)) from fun W hW => ⟨(SS.out _ (hU_66.out.trans (hW.mono hU_66.out.size))).1, (SS.out _ (hU_66.out.trans (hW.mono hU_66.out.size))).2.1, (SS.out _ (hU_66.out.trans (hW.mono hU_66.out.size))).2.2.1, (SS.out _ (hU_66.out.trans (hW.mono hU_66.out.size))).2.2.2.1, (SS.out _ (hU_66.out.trans (hW.mono hU_66.out.size))).2.2.2.2.1, (SS.out _ (hU_66.out.trans (hW.mono hU_66.out.size))).2.2.2.2.2.1, (SS.out _ (hU_66.out.trans (hW.mono hU_66.out.size))).2.2.2.2.2.2.1, (SS.out _ (hU_66.out.trans (hW.mono hU_66.out.size))).2.2.2.2.2.2.2.1, (SS.out _ (hU_66.out.trans (hW.mono hU_66.out.size))).2.2.2.2.2.2.2.2.1, (SS.out _ (hU_66.out.trans (hW.mono hU_66.out.size))).2.2.2.2.2.2.2.2.2.1, (SS.out _ (hU_66.out.trans (hW.mono hU_66.out.size))).2.2.2.2.2.2.2.2.2.2.1, (SS.out _ (hU_66.out.trans (hW.mono hU_66.out.size))).2.2.2.2.2.2.2.2.2.2.2, (BX1_69.out.below hW).cell 0, (BX1_69.out.below hW).cell 1, (BX1_69.out.below hW).cell 2, (BX1_69.out.below hW).cell 3, (BX1_69.out.below hW).cell 4, (BX1_69.out.below hW).cell 5⟩)
      have TX := Lib.hid (show ∀ W, Below wd0.heap.size wd0 W → Calls Tryd.prog 24 #[.agg #[.int .i64 s2, .slice a2 xs2.length c2, .int .i64 ex2, .int .i64 s3, .slice a3 xs3.length c3, .int .i64 ex3]] W fun e w' => ∃ a' c' b' d', e = .returned (.agg #[.int .i64 s2, .slice a' xs2.length c', .int .i64 ex2, .int .i64 s3, .slice b' xs3.length d', .int .i64 ex3]) ∧ Own w' W.heap.size a' xs2 ∧ Own w' W.heap.size b' xs3 ∧ Below wd0.heap.size wd0 w' from fun W hW => (HT1.out W (hU_66.out.trans (hW.mono hU_66.out.size))).mono fun e w' ⟨a, c, b, d, he, _, _, ho, hp, _, hb, _⟩ => ⟨a, c, b, d, he, ho.own, hp.own, hW.trans (hb.mono hW.size)⟩)
      have EX := Lib.hid (show ∀ a' c' lo b' d' lo' W, Below wd0.heap.size wd0 W → Own W lo a' xs2 → Own W lo' b' xs3 → Calls Tryd.prog 26 #[.agg #[.int .i64 s2, .slice b2 xs2.length d2, .int .i64 ex2, .int .i64 s3, .slice b3 xs3.length d3, .int .i64 ex3], .agg #[.int .i64 s2, .slice a' xs2.length c', .int .i64 ex2, .int .i64 s3, .slice b' xs3.length d', .int .i64 ex3]] W fun e w' => e = .returned (.bool true) ∧ Below wd0.heap.size wd0 w' from fun a' c' lo b' d' lo' W hW ho hp => (eqExact_yes s2 _ _ xs2 _ _ _ ex2 s3 _ _ xs3 _ _ _ ex3 rfl rfl _ _ _ _ _ hW.size hW.size (Nat.le_refl _) (Nat.le_refl _) ((Own2.own OX2_75.out).ints.below hW) ho.ints ((Own2.own OX3_76.out).ints.below hW) hp.ints (by have := HN2.out; omega) (by have := HN3.out; omega)).mono fun e w' ⟨he, hb⟩ => ⟨he, hW.trans (hb.mono hW.size)⟩)
      have hTT : Below wd0.heap.size wd0 wd0.drew := (Below.refl _ _).drew
      clear x79_0 x79_1 x79_2 x79_3 x79_4 x79_5 x79_6 x79_7 x79_8 x79_9 x79_10 x79_11
      go_wp2_with fail
      go_region_held3 (fun W => W.cell? ⟨w.heap.size, 0, none⟩ = some (.int .i64 s0) ∧ W.cell? ⟨w.heap.size, 1, none⟩ = some (.slice a0 xs0.length c0) ∧ W.cell? ⟨w.heap.size, 2, none⟩ = some (.int .i64 ex0) ∧ W.cell? ⟨w.heap.size, 3, none⟩ = some (.int .i64 s1) ∧ W.cell? ⟨w.heap.size, 4, none⟩ = some (.slice a1 xs1.length c1) ∧ W.cell? ⟨w.heap.size, 5, none⟩ = some (.int .i64 ex1) ∧ W.cell? ⟨w.heap.size + 1, 0, none⟩ = some (.int .i64 s2) ∧ W.cell? ⟨w.heap.size + 1, 1, none⟩ = some (.slice a2 xs2.length c2) ∧ W.cell? ⟨w.heap.size + 1, 2, none⟩ = some (.int .i64 ex2) ∧ W.cell? ⟨w.heap.size + 1, 3, none⟩ = some (.int .i64 s3) ∧ W.cell? ⟨w.heap.size + 1, 4, none⟩ = some (.slice a3 xs3.length c3) ∧ W.cell? ⟨w.heap.size + 1, 5, none⟩ = some (.int .i64 ex3) ∧ W.cell? ⟨wx2.heap.size, 0, none⟩ = some (.int .i64 s2) ∧ W.cell? ⟨wx2.heap.size, 1, none⟩ = some (.slice b2 xs2.length d2) ∧ W.cell? ⟨wx2.heap.size, 2, none⟩ = some (.int .i64 ex2) ∧ W.cell? ⟨wx2.heap.size, 3, none⟩ = some (.int .i64 s3) ∧ W.cell? ⟨wx2.heap.size, 4, none⟩ = some (.slice b3 xs3.length d3) ∧ W.cell? ⟨wx2.heap.size, 5, none⟩ = some (.int .i64 ex3))
          (exact SX.out _ (by assumption))
          (first
          | (go_at_call 24; refine (TX.out _ (by assumption)).mono ?_; rintro e u1_1 ⟨y1, f1, y2, f2, rfl, ho1, ho2, hb1⟩)
          | (go_at_call 26; refine (EX.out _ _ _ _ _ _ _ (by assumption) ho1 ho2).mono ?_; rintro e wd1 ⟨rfl, hbd⟩))
      have hsz_d1 := hbd.size
      have hU_80 := Lib.hid (hU_66.out.trans (hbd.mono hU_66.out.size))
      clear hU_66
      have B6_81 := Lib.hid (B6_67.out.below hbd)
      have BX0_82 := Lib.hid (BX0_68.out.below hbd)
      have BX1_83 := Lib.hid (BX1_69.out.below hbd)
      have BG_84 := Lib.hid (BG_70.out.below hbd)
      have O6_85 := Lib.hid (O6_71.out.below hbd (by first | omega | (simp; done) | (simp; omega)))
      have O8_86 := Lib.hid (O8_72.out.below hbd (by first | omega | (simp; done) | (simp; omega)))
      have OX0_87 := Lib.hid (OX0_73.out.below hbd (by first | omega | (simp; done) | (simp; omega)))
      have OX1_88 := Lib.hid (OX1_74.out.below hbd (by first | omega | (simp; done) | (simp; omega)))
      have OX2_89 := Lib.hid (OX2_75.out.below hbd (by first | omega | (simp; done) | (simp; omega)))
      have OX3_90 := Lib.hid (OX3_76.out.below hbd (by first | omega | (simp; done) | (simp; omega)))
      have OG_91 := Lib.hid (OG_77.out.below hbd (by first | omega | (simp; done) | (simp; omega)))
      have OH_92 := Lib.hid (OH_78.out.below hbd (by first | omega | (simp; done) | (simp; omega)))
      clear B6_67 BX0_68 BX1_69 BG_70 O6_71 O8_72 OX0_73 OX1_74 OX2_75 OX3_76 OG_77 OH_78
      clear ho1 ho2 hb1 hbd hTT SX TX EX
      obtain ⟨y93_0, y93_1, y93_2, y93_3, y93_4, y93_5, y93_6, y93_7, y93_8, y93_9, y93_10, y93_11⟩ := BX0_82.out.six12
      go_wp2_with fail
      refine (markExact s0 _ xs0 _ ex0 s1 _ xs1 _ ex1 (1) _ _ (by have := HN0.out; omega) (by have := HN1.out; omega) (Own2.own OX0_87.out) (Own2.own OX1_88.out) HAP0.out (by omega) (by have := HN0.out; have := HN1.out; omega)).mono ?_
      rintro e wm0 ⟨rfl, hom, hom2, wq0, row, row', hgr, hgr', hrow, hrow'⟩
      have hrw := Own2.row_ge OX0_87.out rfl hrow
      have hrw' := Own2.row_ge OX1_88.out rfl hrow'
      have hsz_wq0 := hgr.size
      have hsz_wm0 := hgr'.size
      clear y93_0 y93_1 y93_2 y93_3 y93_4 y93_5 y93_6 y93_7 y93_8 y93_9 y93_10 y93_11
      have B6_94 := Lib.hid (B6_81.out.grown hgr (fun e => by have := hrw _ e.symm; (try simp only [size_al] at this); (try simp only [size_al]); omega))
      have BX0_95 := Lib.hid (BX0_82.out.grown hgr (fun e => by have := hrw _ e.symm; (try simp only [size_al] at this); (try simp only [size_al]); omega))
      have BX1_96 := Lib.hid (BX1_83.out.grown hgr (fun e => by have := hrw _ e.symm; (try simp only [size_al] at this); (try simp only [size_al]); omega))
      have BG_97 := Lib.hid (BG_84.out.grown hgr (fun e => by have := hrw _ e.symm; (try simp only [size_al] at this); (try simp only [size_al]); omega))
      have O6_98 := Lib.hid (O6_85.out.grown hgr (fun g e => by have := hrw g e; (try simp only [size_al] at this); (try simp only [size_al]); omega))
      have O8_99 := Lib.hid (O8_86.out.grown hgr (fun g e => by have := hrw g e; (try simp only [size_al] at this); (try simp only [size_al]); omega))
      have OX2_100 := Lib.hid (OX2_89.out.grown hgr (fun g e => by have := hrw g e; (try simp only [size_al] at this); (try simp only [size_al]); omega))
      have OX3_101 := Lib.hid (OX3_90.out.grown hgr (fun g e => by have := hrw g e; (try simp only [size_al] at this); (try simp only [size_al]); omega))
      have OG_102 := Lib.hid (OG_91.out.grown hgr (fun g e => by have := hrw g e; (try simp only [size_al] at this); (try simp only [size_al]); omega))
      have OH_103 := Lib.hid (OH_92.out.grown hgr (fun g e => by have := hrw g e; (try simp only [size_al] at this); (try simp only [size_al]); omega))
      clear B6_81 BX0_82 BX1_83 BG_84 O6_85 O8_86 OX2_89 OX3_90 OG_91 OH_92
      have hU_104 := Lib.hid (hU_80.out.trans (below_of_grown hgr hU_80.out.size (fun g e => by have := hrw g e; (try simp only [size_al] at this); have := hWs; omega)))
      clear hU_80
      have B6_105 := Lib.hid (B6_94.out.grown hgr' (fun e => by have := hrw' _ e.symm; (try simp only [size_al] at this); (try simp only [size_al]); omega))
      have BX0_106 := Lib.hid (BX0_95.out.grown hgr' (fun e => by have := hrw' _ e.symm; (try simp only [size_al] at this); (try simp only [size_al]); omega))
      have BX1_107 := Lib.hid (BX1_96.out.grown hgr' (fun e => by have := hrw' _ e.symm; (try simp only [size_al] at this); (try simp only [size_al]); omega))
      have BG_108 := Lib.hid (BG_97.out.grown hgr' (fun e => by have := hrw' _ e.symm; (try simp only [size_al] at this); (try simp only [size_al]); omega))
      have O6_109 := Lib.hid (O6_98.out.grown hgr' (fun g e => by have := hrw' g e; (try simp only [size_al] at this); (try simp only [size_al]); omega))
      have O8_110 := Lib.hid (O8_99.out.grown hgr' (fun g e => by have := hrw' g e; (try simp only [size_al] at this); (try simp only [size_al]); omega))
      have OX2_111 := Lib.hid (OX2_100.out.grown hgr' (fun g e => by have := hrw' g e; (try simp only [size_al] at this); (try simp only [size_al]); omega))
      have OX3_112 := Lib.hid (OX3_101.out.grown hgr' (fun g e => by have := hrw' g e; (try simp only [size_al] at this); (try simp only [size_al]); omega))
      have OG_113 := Lib.hid (OG_102.out.grown hgr' (fun g e => by have := hrw' g e; (try simp only [size_al] at this); (try simp only [size_al]); omega))
      have OH_114 := Lib.hid (OH_103.out.grown hgr' (fun g e => by have := hrw' g e; (try simp only [size_al] at this); (try simp only [size_al]); omega))
      clear B6_94 BX0_95 BX1_96 BG_97 O6_98 O8_99 OX2_100 OX3_101 OG_102 OH_103
      have hU_115 := Lib.hid (hU_104.out.trans (below_of_grown hgr' hU_104.out.size (fun g e => by have := hrw' g e; (try simp only [size_al] at this); have := hWs; omega)))
      clear hU_104
      clear hgr hgr' hrow hrow' hrw hrw' hom hom2 OX0_87 OX1_88
      obtain ⟨y116_0, y116_1, y116_2, y116_3, y116_4, y116_5, y116_6, y116_7, y116_8, y116_9, y116_10, y116_11⟩ := BX1_107.out.six12
      go_wp2_with fail
      refine (markExact s2 _ xs2 _ ex2 s3 _ xs3 _ ex3 (1 + (xs0.length : Int) + (xs1.length : Int)) _ _ (by have := HN2.out; omega) (by have := HN3.out; omega) (Own2.own OX2_111.out) (Own2.own OX3_112.out) HAP1.out (by omega) (by have := HN0.out; have := HN1.out; omega)).mono ?_
      rintro e wm1 ⟨rfl, hom, hom2, wq1, row, row', hgr, hgr', hrow, hrow'⟩
      have hrw := Own2.row_ge OX2_111.out rfl hrow
      have hrw' := Own2.row_ge OX3_112.out rfl hrow'
      have hsz_wq1 := hgr.size
      have hsz_wm1 := hgr'.size
      clear y116_0 y116_1 y116_2 y116_3 y116_4 y116_5 y116_6 y116_7 y116_8 y116_9 y116_10 y116_11
      have B6_117 := Lib.hid (B6_105.out.grown hgr (fun e => by have := hrw _ e.symm; (try simp only [size_al] at this); (try simp only [size_al]); omega))
      have BX0_118 := Lib.hid (BX0_106.out.grown hgr (fun e => by have := hrw _ e.symm; (try simp only [size_al] at this); (try simp only [size_al]); omega))
      have BX1_119 := Lib.hid (BX1_107.out.grown hgr (fun e => by have := hrw _ e.symm; (try simp only [size_al] at this); (try simp only [size_al]); omega))
      have BG_120 := Lib.hid (BG_108.out.grown hgr (fun e => by have := hrw _ e.symm; (try simp only [size_al] at this); (try simp only [size_al]); omega))
      have O6_121 := Lib.hid (O6_109.out.grown hgr (fun g e => by have := hrw g e; (try simp only [size_al] at this); (try simp only [size_al]); omega))
      have O8_122 := Lib.hid (O8_110.out.grown hgr (fun g e => by have := hrw g e; (try simp only [size_al] at this); (try simp only [size_al]); omega))
      have OG_123 := Lib.hid (OG_113.out.grown hgr (fun g e => by have := hrw g e; (try simp only [size_al] at this); (try simp only [size_al]); omega))
      have OH_124 := Lib.hid (OH_114.out.grown hgr (fun g e => by have := hrw g e; (try simp only [size_al] at this); (try simp only [size_al]); omega))
      clear B6_105 BX0_106 BX1_107 BG_108 O6_109 O8_110 OG_113 OH_114
      have hU_125 := Lib.hid (hU_115.out.trans (below_of_grown hgr hU_115.out.size (fun g e => by have := hrw g e; (try simp only [size_al] at this); have := hWs; omega)))
      clear hU_115
      have B6_126 := Lib.hid (B6_117.out.grown hgr' (fun e => by have := hrw' _ e.symm; (try simp only [size_al] at this); (try simp only [size_al]); omega))
      have BX0_127 := Lib.hid (BX0_118.out.grown hgr' (fun e => by have := hrw' _ e.symm; (try simp only [size_al] at this); (try simp only [size_al]); omega))
      have BX1_128 := Lib.hid (BX1_119.out.grown hgr' (fun e => by have := hrw' _ e.symm; (try simp only [size_al] at this); (try simp only [size_al]); omega))
      have BG_129 := Lib.hid (BG_120.out.grown hgr' (fun e => by have := hrw' _ e.symm; (try simp only [size_al] at this); (try simp only [size_al]); omega))
      have O6_130 := Lib.hid (O6_121.out.grown hgr' (fun g e => by have := hrw' g e; (try simp only [size_al] at this); (try simp only [size_al]); omega))
      have O8_131 := Lib.hid (O8_122.out.grown hgr' (fun g e => by have := hrw' g e; (try simp only [size_al] at this); (try simp only [size_al]); omega))
      have OG_132 := Lib.hid (OG_123.out.grown hgr' (fun g e => by have := hrw' g e; (try simp only [size_al] at this); (try simp only [size_al]); omega))
      have OH_133 := Lib.hid (OH_124.out.grown hgr' (fun g e => by have := hrw' g e; (try simp only [size_al] at this); (try simp only [size_al]); omega))
      clear B6_117 BX0_118 BX1_119 BG_120 O6_121 O8_122 OG_123 OH_124
      have hU_134 := Lib.hid (hU_125.out.trans (below_of_grown hgr' hU_125.out.size (fun g e => by have := hrw' g e; (try simp only [size_al] at this); have := hWs; omega)))
      clear hU_125
      clear hgr hgr' hrow hrow' hrw hrw' hom hom2 OX2_111 OX3_112
      have hmneg : decide (1 + (xs0.length : Int) + (xs1.length : Int) + (xs2.length : Int) + (xs3.length : Int) < 0) = false := decide_eq_false (by omega)
      obtain ⟨y135_0, y135_1, y135_2, y135_3, y135_4, y135_5, y135_6, y135_7, y135_8, y135_9, y135_10, y135_11⟩ := BG_129.out.six12
      obtain ⟨y136_0, y136_1, y136_2, y136_3, y136_4, y136_5, y136_6, y136_7, y136_8, y136_9, y136_10, y136_11⟩ := B6_126.out.six12
      go_wp2_with fail
      refine (eqExact_yes r1 _ _ r2 _ _ _ r3 r4 _ _ r5 _ _ _ r6 rfl rfl _ _ _ _ _ (Nat.le_refl _) (Nat.le_refl _) (Nat.le_refl _) (Nat.le_refl _) (Own2.own OG_132.out).ints (Own2.own O6_130.out).ints (Own2.own OH_133.out).ints (Own2.own O8_131.out).ints (by have := HR2.out.1; omega) (by have := HR2.out.2; omega)).mono ?_
      rintro e wf ⟨rfl, hb⟩
      have hsz_wf := hb.size
      (try simp at hsz_wf)
      clear y135_0 y135_1 y135_2 y135_3 y135_4 y135_5 y135_6 y135_7 y135_8 y135_9 y135_10 y135_11 y136_0 y136_1 y136_2 y136_3 y136_4 y136_5 y136_6 y136_7 y136_8 y136_9 y136_10 y136_11
      have hU_137 := Lib.hid (hU_134.out.trans (hb.mono hU_134.out.size))
      clear hU_134
      have B6_138 := Lib.hid (B6_126.out.below hb)
      have BX0_139 := Lib.hid (BX0_127.out.below hb)
      have BX1_140 := Lib.hid (BX1_128.out.below hb)
      have BG_141 := Lib.hid (BG_129.out.below hb)
      have O6_142 := Lib.hid (O6_130.out.below hb (by first | omega | (simp; done) | (simp; omega)))
      have O8_143 := Lib.hid (O8_131.out.below hb (by first | omega | (simp; done) | (simp; omega)))
      have OG_144 := Lib.hid (OG_132.out.below hb (by first | omega | (simp; done) | (simp; omega)))
      have OH_145 := Lib.hid (OH_133.out.below hb (by first | omega | (simp; done) | (simp; omega)))
      clear B6_126 BX0_127 BX1_128 BG_129 O6_130 O8_131 OG_132 OH_133
      clear hb
      obtain ⟨y146_0, y146_1, y146_2, y146_3, y146_4, y146_5, y146_6, y146_7, y146_8, y146_9, y146_10, y146_11⟩ := BG_141.out.six12
      go_wp2_with fail
      refine (markExact r1 _ r2 _ r3 r4 _ r5 _ r6 1 _ _ (by have := HR2.out.1; omega) (by have := HR2.out.2; omega) (Own2.own OG_144.out) (Own2.own OH_145.out) HAG.out (by omega) (by omega)).mono ?_
      rintro e wk ⟨rfl, hom, hom2, wkq, row, row', hgr, hgr', hrow, hrow'⟩
      have hrw := Own2.row_ge OG_144.out rfl hrow
      have hrw' := Own2.row_ge OH_145.out rfl hrow'
      have hsz_wkq := hgr.size
      have hsz_wk := hgr'.size
      clear y146_0 y146_1 y146_2 y146_3 y146_4 y146_5 y146_6 y146_7 y146_8 y146_9 y146_10 y146_11
      have B6_147 := Lib.hid (B6_138.out.grown hgr (fun e => by have := hrw _ e.symm; (try simp only [size_al] at this); (try simp only [size_al]); omega))
      have BX0_148 := Lib.hid (BX0_139.out.grown hgr (fun e => by have := hrw _ e.symm; (try simp only [size_al] at this); (try simp only [size_al]); omega))
      have BX1_149 := Lib.hid (BX1_140.out.grown hgr (fun e => by have := hrw _ e.symm; (try simp only [size_al] at this); (try simp only [size_al]); omega))
      have BG_150 := Lib.hid (BG_141.out.grown hgr (fun e => by have := hrw _ e.symm; (try simp only [size_al] at this); (try simp only [size_al]); omega))
      have O6_151 := Lib.hid (O6_142.out.grown hgr (fun g e => by have := hrw g e; (try simp only [size_al] at this); (try simp only [size_al]); omega))
      have O8_152 := Lib.hid (O8_143.out.grown hgr (fun g e => by have := hrw g e; (try simp only [size_al] at this); (try simp only [size_al]); omega))
      clear B6_138 BX0_139 BX1_140 BG_141 O6_142 O8_143
      have hU_153 := Lib.hid (hU_137.out.trans (below_of_grown hgr hU_137.out.size (fun g e => by have := hrw g e; (try simp only [size_al] at this); have := hWs; omega)))
      clear hU_137
      have B6_154 := Lib.hid (B6_147.out.grown hgr' (fun e => by have := hrw' _ e.symm; (try simp only [size_al] at this); (try simp only [size_al]); omega))
      have BX0_155 := Lib.hid (BX0_148.out.grown hgr' (fun e => by have := hrw' _ e.symm; (try simp only [size_al] at this); (try simp only [size_al]); omega))
      have BX1_156 := Lib.hid (BX1_149.out.grown hgr' (fun e => by have := hrw' _ e.symm; (try simp only [size_al] at this); (try simp only [size_al]); omega))
      have BG_157 := Lib.hid (BG_150.out.grown hgr' (fun e => by have := hrw' _ e.symm; (try simp only [size_al] at this); (try simp only [size_al]); omega))
      have O6_158 := Lib.hid (O6_151.out.grown hgr' (fun g e => by have := hrw' g e; (try simp only [size_al] at this); (try simp only [size_al]); omega))
      have O8_159 := Lib.hid (O8_152.out.grown hgr' (fun g e => by have := hrw' g e; (try simp only [size_al] at this); (try simp only [size_al]); omega))
      clear B6_147 BX0_148 BX1_149 BG_150 O6_151 O8_152
      have hU_160 := Lib.hid (hU_153.out.trans (below_of_grown hgr' hU_153.out.size (fun g e => by have := hrw' g e; (try simp only [size_al] at this); have := hWs; omega)))
      clear hU_153
      clear hgr hgr' hrow hrow' hrw hrw' OG_144 OH_145
      have OM := Lib.hid hom
      have ON := Lib.hid hom2
      clear hom hom2
      have hmneg2 : decide ((1 : Int) + (r2.length : Int) + (r5.length : Int) < 0) = false := decide_eq_false (by omega)
      have hmne : ((1 : Int) + (r2.length : Int) + (r5.length : Int) != (1 : Int) + (r2.length : Int) + (r5.length : Int)) = false := by simp
      obtain ⟨y161_0, y161_1, y161_2, y161_3, y161_4, y161_5, y161_6, y161_7, y161_8, y161_9, y161_10, y161_11⟩ := BG_157.out.six12
      go_wp2_with fail
      refine (heldExact r1 _ r2.length _ r3 r4 _ r5.length _ r6 1 _ _ (Nat.le_refl _) (by have := HR2.out.1; omega) (by have := HR2.out.2; omega) OM.out.ints ON.out.ints (by omega) (by omega)).mono ?_
      rintro e wh ⟨rfl, hb⟩
      have hsz_wh := hb.size
      clear y161_0 y161_1 y161_2 y161_3 y161_4 y161_5 y161_6 y161_7 y161_8 y161_9 y161_10 y161_11
      have hU_162 := Lib.hid (hU_160.out.trans (hb.mono hU_160.out.size))
      clear hU_160
      have B6_163 := Lib.hid (B6_154.out.below hb)
      have BX0_164 := Lib.hid (BX0_155.out.below hb)
      have BX1_165 := Lib.hid (BX1_156.out.below hb)
      have BG_166 := Lib.hid (BG_157.out.below hb)
      have O6_167 := Lib.hid (O6_158.out.below hb (by first | omega | (simp; done) | (simp; omega)))
      have O8_168 := Lib.hid (O8_159.out.below hb (by first | omega | (simp; done) | (simp; omega)))
      have OM_169 := Lib.hid (OM.out.below hb)
      have ON_170 := Lib.hid (ON.out.below hb)
      clear B6_154 BX0_155 BX1_156 BG_157 O6_158 O8_159 OM ON
      clear hb
      have hV : Below wh.heap.size wh wh := Below.refl _ _
      have SV := Lib.hid (show ∀ W, Below wh.heap.size wh W → (W.cell? ⟨w.heap.size, 0, none⟩ = some (.int .i64 s0) ∧ W.cell? ⟨w.heap.size, 1, none⟩ = some (.slice a0 xs0.length c0) ∧ W.cell? ⟨w.heap.size, 2, none⟩ = some (.int .i64 ex0) ∧ W.cell? ⟨w.heap.size, 3, none⟩ = some (.int .i64 s1) ∧ W.cell? ⟨w.heap.size, 4, none⟩ = some (.slice a1 xs1.length c1) ∧ W.cell? ⟨w.heap.size, 5, none⟩ = some (.int .i64 ex1) ∧ W.cell? ⟨w.heap.size + 1, 0, none⟩ = some (.int .i64 s2) ∧ W.cell? ⟨w.heap.size + 1, 1, none⟩ = some (.slice a2 xs2.length c2) ∧ W.cell? ⟨w.heap.size + 1, 2, none⟩ = some (.int .i64 ex2) ∧ W.cell? ⟨w.heap.size + 1, 3, none⟩ = some (.int .i64 s3) ∧ W.cell? ⟨w.heap.size + 1, 4, none⟩ = some (.slice a3 xs3.length c3) ∧ W.cell? ⟨w.heap.size + 1, 5, none⟩ = some (.int .i64 ex3)) from fun W hW => SS.out _ (hU_162.out.trans (hW.mono hU_162.out.size)))
      have TV0 := Lib.hid (show ∀ W, Below wh.heap.size wh W → Calls Tryd.prog 24 #[.agg #[.int .i64 s0, .slice a0 xs0.length c0, .int .i64 ex0, .int .i64 s1, .slice a1 xs1.length c1, .int .i64 ex1]] W fun e w' => ∃ a' c' b' d', e = .returned (.agg #[.int .i64 s0, .slice a' xs0.length c', .int .i64 ex0, .int .i64 s1, .slice b' xs1.length d', .int .i64 ex1]) ∧ xs0.length ≤ c' ∧ xs1.length ≤ d' ∧ Own2 w' W.heap.size w'.heap.size a' xs0 ∧ Own2 w' W.heap.size w'.heap.size b' xs1 ∧ Apart a' b' xs0 xs1 ∧ Below W.heap.size W w' ∧ Below wh.heap.size wh w' from fun W hW => (HT0.out W (hU_162.out.trans (hW.mono hU_162.out.size))).mono fun e w' ⟨a, c, b, d, he, hc, hd, ho, hp, hap, hb, _⟩ => ⟨a, c, b, d, he, hc, hd, ho, hp, hap, hb, hW.trans (hb.mono hW.size)⟩)
      have TV1 := Lib.hid (show ∀ W, Below wh.heap.size wh W → Calls Tryd.prog 24 #[.agg #[.int .i64 s2, .slice a2 xs2.length c2, .int .i64 ex2, .int .i64 s3, .slice a3 xs3.length c3, .int .i64 ex3]] W fun e w' => ∃ a' c' b' d', e = .returned (.agg #[.int .i64 s2, .slice a' xs2.length c', .int .i64 ex2, .int .i64 s3, .slice b' xs3.length d', .int .i64 ex3]) ∧ xs2.length ≤ c' ∧ xs3.length ≤ d' ∧ Own2 w' W.heap.size w'.heap.size a' xs2 ∧ Own2 w' W.heap.size w'.heap.size b' xs3 ∧ Apart a' b' xs2 xs3 ∧ Below W.heap.size W w' ∧ Below wh.heap.size wh w' from fun W hW => (HT1.out W (hU_162.out.trans (hW.mono hU_162.out.size))).mono fun e w' ⟨a, c, b, d, he, hc, hd, ho, hp, hap, hb, _⟩ => ⟨a, c, b, d, he, hc, hd, ho, hp, hap, hb, hW.trans (hb.mono hW.size)⟩)
      have IV := Lib.hid (show ∀ (b0 : Option Addr) (d0 : Nat) (b1 : Option Addr) (d1 : Nat) (b2 : Option Addr) (d2 : Nat) (b3 : Option Addr) (d3 : Nat) W, Below wh.heap.size wh W → xs0.length ≤ d0 → xs1.length ≤ d1 → xs2.length ≤ d2 → xs3.length ≤ d3 → Ints W W.heap.size b0 xs0 → Ints W W.heap.size b1 xs1 → Ints W W.heap.size b2 xs2 → Ints W W.heap.size b3 xs3 → Calls Tryd.prog 25 #[.agg #[.int .i64 s0, .slice b0 xs0.length d0, .int .i64 ex0, .int .i64 s1, .slice b1 xs1.length d1, .int .i64 ex1], .agg #[.int .i64 s2, .slice b2 xs2.length d2, .int .i64 ex2, .int .i64 s3, .slice b3 xs3.length d3, .int .i64 ex3]] W fun e w' => ∃ a c b d, e = .returned (.tuple #[.agg #[.int .i64 r1, .slice a r2.length c, .int .i64 r3, .int .i64 r4, .slice b r5.length d, .int .i64 r6], .int .i64 rc]) ∧ r2.length ≤ c ∧ r5.length ≤ d ∧ Own w' W.heap.size a r2 ∧ Own w' W.heap.size b r5 ∧ Apart a b r2 r5 ∧ Below W.heap.size W w' ∧ Below wh.heap.size wh w' from fun b0 d0 b1 d1 b2 d2 b3 d3 W hW h0 h1 h2 h3 i0 i1 i2 i3 => (HIM.out b0 d0 b1 d1 b2 d2 b3 d3 W (hU_162.out.trans (hW.mono hU_162.out.size)) h0 h1 h2 h3 i0 i1 i2 i3).mono fun e w' ⟨a, c, b, d, he, hc, hd, ho, hp, hap, hb, _⟩ => ⟨a, c, b, d, he, hc, hd, ho, hp, hap, hb, hW.trans (hb.mono hW.size)⟩)
      obtain ⟨x171_0, x171_1, x171_2, x171_3, x171_4, x171_5, x171_6, x171_7, x171_8, x171_9, x171_10, x171_11⟩ := SS.out _ hU_162.out
      go_wp2_with fail
      go_cut [15, 16] (fun p q W => q = .int .i64 rc ∧ ∃ hi, ResE wh W p r1 r2 r3 r4 r5 r6 hi)
      case first =>
        clear B6_163 BX0_164 BX1_165 BG_166 O6_167 O8_168 OM_169 ON_170 HIM HT0 HT1
        obtain ⟨z0, z1, z2, z3, z4, z5, z6, z7, z8, z9, z10, z11⟩ := SV.out _ hV
        go_wp2_with fail
        clear z0 z1 z2 z3 z4 z5 z6 z7 z8 z9 z10 z11
        have hTd := hV.drew
        have hsz0 := hV.size
        go_region_held3 (fun W => W.cell? ⟨w.heap.size, 0, none⟩ = some (.int .i64 s0) ∧ W.cell? ⟨w.heap.size, 1, none⟩ = some (.slice a0 xs0.length c0) ∧ W.cell? ⟨w.heap.size, 2, none⟩ = some (.int .i64 ex0) ∧ W.cell? ⟨w.heap.size, 3, none⟩ = some (.int .i64 s1) ∧ W.cell? ⟨w.heap.size, 4, none⟩ = some (.slice a1 xs1.length c1) ∧ W.cell? ⟨w.heap.size, 5, none⟩ = some (.int .i64 ex1) ∧ W.cell? ⟨w.heap.size + 1, 0, none⟩ = some (.int .i64 s2) ∧ W.cell? ⟨w.heap.size + 1, 1, none⟩ = some (.slice a2 xs2.length c2) ∧ W.cell? ⟨w.heap.size + 1, 2, none⟩ = some (.int .i64 ex2) ∧ W.cell? ⟨w.heap.size + 1, 3, none⟩ = some (.int .i64 s3) ∧ W.cell? ⟨w.heap.size + 1, 4, none⟩ = some (.slice a3 xs3.length c3) ∧ W.cell? ⟨w.heap.size + 1, 5, none⟩ = some (.int .i64 ex3))
            (exact SV.out _ (by with_reducible first | assumption | exact below_alloc (by assumption) _ | exact below_allocd (by assumption) _ | exact below_set6 (by assumption) (by omega) _ _ _ _ _ _))
            (first
            | (go_at_call 24; with_reducible refine (TV0.out _ (by with_reducible first | assumption | exact below_alloc (by assumption) _ | exact below_allocd (by assumption) _ | exact below_set6 (by assumption) (by omega) _ _ _ _ _ _)).mono ?_; rintro e v1 ⟨e1, f1, e2, f2, rfl, hc1, hc2, ho1, ho2, hap1, hbb1, hbz1⟩; have hsz1 := hbz1.size; have hsy1 := hbb1.size; (try simp at hsy1); have hk1 := fun g cs (h : BoxAt _ g 49 cs) => BoxAt.below h hbb1)
            | (go_at_call 24; with_reducible refine (TV1.out _ (by with_reducible first | assumption | exact below_alloc (by assumption) _ | exact below_allocd (by assumption) _ | exact below_set6 (by assumption) (by omega) _ _ _ _ _ _)).mono ?_; rintro e v2 ⟨e3, f3, e4, f4, rfl, hc3, hc4, ho3, ho4, hap2, hbb2, hbz2⟩; have hsz2 := hbz2.size; have hsy2 := hbb2.size; (try simp at hsy2); have hk2 := fun g cs (h : BoxAt _ g 49 cs) => BoxAt.below h hbb2; have ho1x := Own2.below (by with_reducible first | exact ho1 | exact Own2.alloc ho1 _) hbb2 (by simp); have ho2x := Own2.below (by with_reducible first | exact ho2 | exact Own2.alloc ho2 _) hbb2 (by simp))
            | (go_at_call 25; with_reducible refine (IV.out _ _ _ _ _ _ _ _ _ (by with_reducible first | assumption | exact below_alloc (by assumption) _ | exact below_allocd (by assumption) _ | exact below_set6 (by assumption) (by omega) _ _ _ _ _ _) hc1 hc2 hc3 hc4 (by with_reducible first | exact (Own2.own ho1x).ints | exact (Own2.own (Own2.alloc ho1x _)).ints) (by with_reducible first | exact (Own2.own ho2x).ints | exact (Own2.own (Own2.alloc ho2x _)).ints) (by with_reducible first | exact (Own2.own ho3).ints | exact (Own2.own (Own2.alloc ho3 _)).ints) (by with_reducible first | exact (Own2.own ho4).ints | exact (Own2.own (Own2.alloc ho4 _)).ints)).mono ?_; rintro e v3 ⟨e5, f5, e6, f6, rfl, hc5, hc6, ho5, ho6, hap3, hbb3, hbz3⟩; have hsz3 := hbz3.size; have hsy3 := hbb3.size; (try simp at hsy3); (first | (with_reducible have hq := BoxAt.below (BoxAt.new v2 _ _) hbb3; obtain ⟨g1, g2, g3, g4, g5, g6, g7, g8, g9, g10, g11, g12⟩ := BoxAt.six12 hq) | (with_reducible have hq := BoxAt.below (hk2 _ _ (BoxAt.new v1 _ _)) hbb3; obtain ⟨g1, g2, g3, g4, g5, g6, g7, g8, g9, g10, g11, g12⟩ := BoxAt.six12 hq) | (with_reducible have hq := BoxAt.below (hk2 _ _ (hk1 _ _ (BoxAt.newd wh _ _))) hbb3; obtain ⟨g1, g2, g3, g4, g5, g6, g7, g8, g9, g10, g11, g12⟩ := BoxAt.six12 hq) | skip)))
        all_goals
            go_wp2_with fail
            go_meet
            with_reducible first
            | exact ⟨rfl, _, ResE.mk1 hbz3 ho5 (by first | omega | (simp; omega) | simp) hc5 ho6 (by first | omega | (simp; omega) | simp) hc6 rfl⟩
            | exact ⟨rfl, _, ResE.mk2 hq (by first | omega | (simp; done) | (simp; omega)) hbz3 ho5 (by first | omega | (simp; omega) | simp) hc5 ho6 (by first | omega | (simp; omega) | simp) hc6⟩
      case rest => as_aux_lemma =>
        obtain ⟨rfl, hi7, hres⟩ := hcut
        obtain ⟨g7, a7, c7, b7, d7, rfl, hg7, hh7, hx7, hc7, hd7, ho7, hp7⟩ := hres.ex
        have hs7 := hres.size
        have hb7 := hres.bel
        have hsz7 := hb7.size
        have B7 := Lib.hid hx7
        have O7 := Lib.hid (Own2.of ho7)
        have O9 := Lib.hid (Own2.of hp7)
        have hU_172 := Lib.hid (hU_162.out.trans (hb7.mono hU_162.out.size))
        clear hU_162
        have B6_173 := Lib.hid (B6_163.out.below hb7)
        have BX0_174 := Lib.hid (BX0_164.out.below hb7)
        have BX1_175 := Lib.hid (BX1_165.out.below hb7)
        have BG_176 := Lib.hid (BG_166.out.below hb7)
        have O6_177 := Lib.hid (O6_167.out.below hb7 (by first | omega | (simp; done) | (simp; omega)))
        have O8_178 := Lib.hid (O8_168.out.below hb7 (by first | omega | (simp; done) | (simp; omega)))
        have OM_179 := Lib.hid (OM_169.out.below hb7)
        have ON_180 := Lib.hid (ON_170.out.below hb7)
        clear B6_163 BX0_164 BX1_165 BG_166 O6_167 O8_168 OM_169 ON_170
        clear hres hx7 ho7 hp7 hc7 hd7 hb7 SV TV0 TV1 IV
        obtain ⟨y181_0, y181_1, y181_2, y181_3, y181_4, y181_5, y181_6, y181_7, y181_8, y181_9, y181_10, y181_11⟩ := B7.out.six12
        obtain ⟨y182_0, y182_1, y182_2, y182_3, y182_4, y182_5, y182_6, y182_7, y182_8, y182_9, y182_10, y182_11⟩ := B6_173.out.six12
        go_wp2_with fail
        refine (eqExact_yes r1 _ _ r2 _ _ _ r3 r4 _ _ r5 _ _ _ r6 rfl rfl _ _ _ _ _ (Nat.le_refl _) (Nat.le_refl _) (Nat.le_refl _) (Nat.le_refl _) (Own2.own O7.out).ints (Own2.own O6_177.out).ints (Own2.own O9.out).ints (Own2.own O8_178.out).ints (by have := HR2.out.1; omega) (by have := HR2.out.2; omega)).mono ?_
        rintro e wy ⟨rfl, hb⟩
        have hsz_wy := hb.size
        (try simp at hsz_wy)
        clear y181_0 y181_1 y181_2 y181_3 y181_4 y181_5 y181_6 y181_7 y181_8 y181_9 y181_10 y181_11 y182_0 y182_1 y182_2 y182_3 y182_4 y182_5 y182_6 y182_7 y182_8 y182_9 y182_10 y182_11
        have hU_183 := Lib.hid (hU_172.out.trans (hb.mono hU_172.out.size))
        clear hU_172
        have B6_184 := Lib.hid (B6_173.out.below hb)
        have BX0_185 := Lib.hid (BX0_174.out.below hb)
        have BX1_186 := Lib.hid (BX1_175.out.below hb)
        have BG_187 := Lib.hid (BG_176.out.below hb)
        have B7_188 := Lib.hid (B7.out.below hb)
        have O6_189 := Lib.hid (O6_177.out.below hb (by first | omega | (simp; done) | (simp; omega)))
        have O8_190 := Lib.hid (O8_178.out.below hb (by first | omega | (simp; done) | (simp; omega)))
        have O7_191 := Lib.hid (O7.out.below hb (by first | omega | (simp; done) | (simp; omega)))
        have O9_192 := Lib.hid (O9.out.below hb (by first | omega | (simp; done) | (simp; omega)))
        have OM_193 := Lib.hid (OM_179.out.below hb)
        have ON_194 := Lib.hid (ON_180.out.below hb)
        clear B6_173 BX0_174 BX1_175 BG_176 B7 O6_177 O8_178 O7 O9 OM_179 ON_180
        clear hb
        obtain ⟨y195_0, y195_1, y195_2, y195_3, y195_4, y195_5, y195_6, y195_7, y195_8, y195_9, y195_10, y195_11⟩ := BG_187.out.six12
        go_wp2_with fail
        refine (heldExact r1 _ r2.length _ r3 r4 _ r5.length _ r6 1 _ _ (Nat.le_refl _) (by have := HR2.out.1; omega) (by have := HR2.out.2; omega) OM_193.out.ints ON_194.out.ints (by omega) (by omega)).mono ?_
        rintro e wz ⟨rfl, hb⟩
        have hsz_wz := hb.size
        clear y195_0 y195_1 y195_2 y195_3 y195_4 y195_5 y195_6 y195_7 y195_8 y195_9 y195_10 y195_11
        have hU_196 := Lib.hid (hU_183.out.trans (hb.mono hU_183.out.size))
        clear hU_183
        have B6_197 := Lib.hid (B6_184.out.below hb)
        have BX0_198 := Lib.hid (BX0_185.out.below hb)
        have BX1_199 := Lib.hid (BX1_186.out.below hb)
        have BG_200 := Lib.hid (BG_187.out.below hb)
        have B7_201 := Lib.hid (B7_188.out.below hb)
        have O6_202 := Lib.hid (O6_189.out.below hb (by first | omega | (simp; done) | (simp; omega)))
        have O8_203 := Lib.hid (O8_190.out.below hb (by first | omega | (simp; done) | (simp; omega)))
        have O7_204 := Lib.hid (O7_191.out.below hb (by first | omega | (simp; done) | (simp; omega)))
        have O9_205 := Lib.hid (O9_192.out.below hb (by first | omega | (simp; done) | (simp; omega)))
        have OM_206 := Lib.hid (OM_193.out.below hb)
        have ON_207 := Lib.hid (ON_194.out.below hb)
        clear B6_184 BX0_185 BX1_186 BG_187 B7_188 O6_189 O8_190 O7_191 O9_192 OM_193 ON_194
        clear hb
        go_wp2_with fail
        go_ret
        exact ⟨rfl, P3.out.trans (hU_196.out.mono (by have := P4.out; omega))⟩
  · obtain ⟨W0, hW0⟩ : ∃ W0 : World, ((w.alloc (.cells #[.int .i64 s0, .slice a0 xs0.length c0, .int .i64 ex0, .int .i64 s1, .slice a1 xs1.length c1, .int .i64 ex1] 44)).alloc (.cells #[.int .i64 s2, .slice a2 xs2.length c2, .int .i64 ex2, .int .i64 s3, .slice a3 xs3.length c3, .int .i64 ex3] 44)) = W0 := ⟨_, rfl⟩
    obtain ⟨p0, p1, p8, p9⟩ := two_boxT w 44 44 #[.int .i64 s0, .slice a0 xs0.length c0, .int .i64 ex0, .int .i64 s1, .slice a1 xs1.length c1, .int .i64 ex1] #[.int .i64 s2, .slice a2 xs2.length c2, .int .i64 ex2, .int .i64 s3, .slice a3 xs3.length c3, .int .i64 ex3]
    rw [hW0] at p0 p1 p8 p9
    have HW0 := Lib.hid hW0
    have P3 := Lib.hid p8
    have P4 := Lib.hid p9
    have SS := Lib.hid (show ∀ W, Below W0.heap.size W0 W → (W.cell? ⟨w.heap.size, 0, none⟩ = some (.int .i64 s0) ∧ W.cell? ⟨w.heap.size, 1, none⟩ = some (.slice a0 xs0.length c0) ∧ W.cell? ⟨w.heap.size, 2, none⟩ = some (.int .i64 ex0) ∧ W.cell? ⟨w.heap.size, 3, none⟩ = some (.int .i64 s1) ∧ W.cell? ⟨w.heap.size, 4, none⟩ = some (.slice a1 xs1.length c1) ∧ W.cell? ⟨w.heap.size, 5, none⟩ = some (.int .i64 ex1) ∧ W.cell? ⟨w.heap.size + 1, 0, none⟩ = some (.int .i64 s2) ∧ W.cell? ⟨w.heap.size + 1, 1, none⟩ = some (.slice a2 xs2.length c2) ∧ W.cell? ⟨w.heap.size + 1, 2, none⟩ = some (.int .i64 ex2) ∧ W.cell? ⟨w.heap.size + 1, 3, none⟩ = some (.int .i64 s3) ∧ W.cell? ⟨w.heap.size + 1, 4, none⟩ = some (.slice a3 xs3.length c3) ∧ W.cell? ⟨w.heap.size + 1, 5, none⟩ = some (.int .i64 ex3)) from fun W hW => ⟨(p0.below hW).cell 0, (p0.below hW).cell 1, (p0.below hW).cell 2, (p0.below hW).cell 3, (p0.below hW).cell 4, (p0.below hW).cell 5, (p1.below hW).cell 0, (p1.below hW).cell 1, (p1.below hW).cell 2, (p1.below hW).cell 3, (p1.below hW).cell 4, (p1.below hW).cell 5⟩)
    have hT : Below W0.heap.size W0 W0 := Below.refl _ _
    obtain ⟨k0, k1, k2, k3, k4, k5, k6, k7, k8, k9, k10, k11⟩ := SS.out _ hT
    clear p0 p1 p8 p9 hx0 hx1 hx2 hx3 hW0
    by_cases hf : (xs0.length : Int) + (xs1.length : Int) ≤ 1048576
    · have hn : decide (1048576 - (xs0.length : Int) - (xs1.length : Int) < 0) = false := decide_eq_false (by omega)
      go_enter Tryd.func5, Tryd.ntmps5
      go_wp2_with fail
      rw [HW0.out]
      refine (szEx_ok s0 a0 xs0.length c0 ex0 s1 a1 xs1.length c1 ex1 1048576 _ (by omega) (by omega)).mono ?_
      rintro e w1 ⟨rfl, hb⟩
      have hU1 : Below W0.heap.size W0 w1 := hT.trans (hb.mono hT.size)
      clear hb
      clear k0 k1 k2 k3 k4 k5 k6 k7 k8 k9 k10 k11
      obtain ⟨k0, k1, k2, k3, k4, k5, k6, k7, k8, k9, k10, k11⟩ := SS.out _ hU1
      go_wp2_with fail
      refine (szEx_no s2 a2 xs2.length c2 ex2 s3 a3 xs3.length c3 ex3 (1048576 - (xs0.length : Int) - (xs1.length : Int)) _ (by omega) hl2 hl3 (by omega) (by omega)).mono ?_
      rintro e wq ⟨rfl, hb⟩
      have hB := Lib.hid (P3.out.trans ((hU1.trans (hb.mono hU1.size)).mono (by have := P4.out; omega)))
      clear hb
      go_wp2_with fail
      go_ret
      exact ⟨rfl, hB.out⟩
    · go_enter Tryd.func5, Tryd.ntmps5
      go_wp2_with fail
      rw [HW0.out]
      refine (szEx_no s0 a0 xs0.length c0 ex0 s1 a1 xs1.length c1 ex1 1048576 _ (by omega) hl0 hl1 (by omega) (by omega)).mono ?_
      rintro e wq ⟨rfl, hb⟩
      have hB := Lib.hid (P3.out.trans (hb.mono (by have := P4.out; omega)))
      clear hb
      go_wp2_with fail
      go_ret
      exact ⟨rfl, hB.out⟩
end Go.Proofs.YtpchcigpppdfiaaDoor
