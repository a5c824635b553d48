/-
  The walk of laws.FnWholes. Conditions: the code's bytes can be read.
-/
import Derived.Test.YtpchcigpppdfiaaHa
import Derived.Test.YtpchcigpppdfiaaHb
import Derived.Test.YtpchcigpppdfiaaUk
import Derived.Test.YtpchcigpppdfiaaUg
import Derived.Test.YtpchcigpppdfiaaUc
import Derived.Test.YtpchcigpppdfiaaTf
import Derived.Deep.DeepCutAuto
import Derived.Deep.RegionHeld3
namespace Go.Proofs.Ytpchcigpppdfiaa
set_option linter.unusedVariables false
open Go Go.RowKit

theorem big_len {n : Nat} (h : n ≤ 1000) : n ≤ 9223372036854775807 := by omega
theorem ne_zero_code {c : Int} (h : c ≠ 0) : (c == 0) = false := by simpa using h

set_option maxRecDepth 100000 in
set_option maxHeartbeats 16000000 in
theorem wholes_walk (a : Option Addr) (len cap : Nat) (w : World) (hlen : len ≤ 9223372036854775807) (hcode : Code8 w.heap.size a len w) :
    Calls Try.prog 4 #[.slice a len cap] w (LawDone w) := by
  by_cases hbig : (len : Int) ≤ 4096
  rotate_left
  · have HBG := Lib.hid (bigYes a len cap (by omega))
    clear hlen hcode hbig
    go_enter Try.func4, Try.ntmps4
    go_wp2_with (go_at_call 5; refine (HBG.out _).mono ?_; rintro e w' ⟨rfl, rfl⟩)
    go_ret
    exact ⟨rfl, Below.refl _ _⟩
  · have HL := Lib.hid hlen
    have HC := Lib.hid hcode
    have HBG := Lib.hid (bigNo a len cap hbig)
    clear hlen hcode hbig
    go_enter Try.func4, Try.ntmps4
    go_wp2_with (go_at_call 5; refine (HBG.out _).mono ?_; rintro e w' ⟨rfl, rfl⟩)
    refine (drawDiv a len cap w HL.out HC.out).mono ?_
    rintro e wA ⟨s1, xs1, a1, c1, s2, xs2, a2, c2, rfl, hx1, hc1, hx2, hc2, ho1, ho2, hb⟩
    obtain ⟨W1, hW1⟩ : ∃ W1 : World, (wA.alloc (.cells #[.int .i64 s1, .slice a1 xs1.length c1] 43)).alloc (.cells #[.int .i64 s2, .slice a2 xs2.length c2] 43) = W1 := ⟨_, rfl⟩
    obtain ⟨p0, p1, p8, p9⟩ := two_box wA 43 #[.int .i64 s1, .slice a1 xs1.length c1] #[.int .i64 s2, .slice a2 xs2.length c2]
    rw [hW1] at p0 p1 p8 p9
    have HW1 := Lib.hid hW1
    have BA := Lib.hid p0
    have BB := Lib.hid p1
    have HZ1 := Lib.hid p9
    have O1 := Lib.hid (ho1.below p8)
    have O2 := Lib.hid (ho2.below p8)
    have U1 := Lib.hid (hb.trans (p8.mono hb.size))
    have L1 := Lib.hid (big_len hx1)
    have L2 := Lib.hid (big_len hx2)
    obtain ⟨⟨d1, l1, d2, l2, dc⟩, hr⟩ : ∃ r, r = divR s1 xs1 s2 xs2 := ⟨_, rfl⟩
    have hll := divR_len s1 xs1 s2 xs2
    rw [← hr] at hll
    have L3 := Lib.hid (show l1.length ≤ 9223372036854775807 by have := hll.1; simp only at this; omega)
    have L4 := Lib.hid (show l2.length ≤ 9223372036854775807 by have := hll.2; simp only at this; omega)
    have HDI := Lib.hid (show Calls Try.prog 27 #[.agg #[.int .i64 s1, .slice a1 xs1.length c1], .agg #[.int .i64 s2, .slice a2 xs2.length c2]] W1 fun e w' => ∃ a c a' c', e = .returned (.tuple #[.agg #[.int .i64 d1, .slice a l1.length c], .agg #[.int .i64 d2, .slice a' l2.length c'], .int .i64 dc]) ∧ Own w' W1.heap.size a l1 ∧ Own w' W1.heap.size a' l2 ∧ Below W1.heap.size W1 w' from by
      have := iDivideWholes s1 s2 a1 a2 xs1 xs2 c1 c2 W1 W1.heap.size W1.heap.size (Nat.le_refl _) (Nat.le_refl _) O1.out.ints O2.out.ints L1.out L2.out
      rw [← hr] at this
      exact this.mono fun e w' ⟨a, c, a', c', he, _, _, ho, hp, _, hb⟩ => ⟨a, c, a', c', he, ho, hp, hb⟩)
    have HDS := Lib.hid (show ∀ W, Below W1.heap.size W1 W → Calls Try.prog 28 #[.agg #[.int .i64 s1, .slice a1 xs1.length c1], .agg #[.int .i64 s2, .slice a2 xs2.length c2]] W fun e w' => ∃ a c a' c', e = .returned (.tuple #[.agg #[.int .i64 d1, .slice a l1.length c], .agg #[.int .i64 d2, .slice a' l2.length c'], .int .i64 dc]) ∧ Own w' W.heap.size a l1 ∧ Own w' W.heap.size a' l2 ∧ Below W.heap.size W w' from fun W hW => by
      have := sDivideWholes s1 s2 a1 a2 xs1 xs2 c1 c2 W W.heap.size W.heap.size (Nat.le_refl _) (Nat.le_refl _) (O1.out.below hW).ints (O2.out.below hW).ints L1.out L2.out
      rw [← hr] at this
      exact this.mono fun e w' ⟨a, c, a', c', he, _, _, ho, hp, _, hb⟩ => ⟨a, c, a', c', he, ho, hp, hb⟩)
    have HR := Lib.hid hr
    obtain ⟨k1, k2, k3, k4⟩ := p0.two
    obtain ⟨k5, k6, k7, k8⟩ := p1.two
    clear hW1 p0 p1 p8 p9 ho1 ho2 hb hx1 hx2 hc1 hc2 hll hr
    go_wp2_with fail
    rw [HW1.out]
    refine HDI.out.mono ?_
    rintro e wB ⟨a3, c3, a4, c4, rfl, ho3, ho4, hb⟩
    obtain ⟨W2, hW2⟩ : ∃ W2 : World, (wB.alloc (.cells #[.int .i64 d1, .slice a3 l1.length c3] 43)).alloc (.cells #[.int .i64 d2, .slice a4 l2.length c4] 43) = W2 := ⟨_, rfl⟩
    obtain ⟨p0, p1, p8, p9⟩ := two_box wB 43 #[.int .i64 d1, .slice a3 l1.length c3] #[.int .i64 d2, .slice a4 l2.length c4]
    rw [hW2] at p0 p1 p8 p9
    have HW2 := Lib.hid hW2
    have BQ := Lib.hid p0
    have BR := Lib.hid p1
    have O3 := Lib.hid (ho3.below p8)
    have O4 := Lib.hid (ho4.below p8)
    have U2 := Lib.hid (hb.trans (p8.mono hb.size))
    have z1 : wA.heap.size < wB.heap.size := by have := hb.size; have := HZ1.out; omega
    have z2 : wA.heap.size + 1 < wB.heap.size := by have := hb.size; have := HZ1.out; omega
    clear k1 k2 k3 k4 k5 k6 k7 k8
    obtain ⟨k1, k2, k3, k4⟩ := (BA.out.below hb).two
    obtain ⟨k5, k6, k7, k8⟩ := (BB.out.below hb).two
    have HZ2 := Lib.hid (show W1.heap.size ≤ wB.heap.size from hb.size)
    clear hW2 p0 p1 p8 p9 ho3 ho4 hb HDI
    go_wp2_with fail
    rw [HW2.out]
    refine (HDS.out _ U2.out).mono ?_
    rintro e wC ⟨a5, c5, a6, c6, rfl, ho5, ho6, hb⟩
    obtain ⟨W3, hW3⟩ : ∃ W3 : World, (wC.alloc (.cells #[.int .i64 d1, .slice a5 l1.length c5] 43)).alloc (.cells #[.int .i64 d2, .slice a6 l2.length c6] 43) = W3 := ⟨_, rfl⟩
    obtain ⟨p0, p1, p8, p9⟩ := two_box wC 43 #[.int .i64 d1, .slice a5 l1.length c5] #[.int .i64 d2, .slice a6 l2.length c6]
    rw [hW3] at p0 p1 p8 p9
    have HW3 := Lib.hid hW3
    have HZ3 := Lib.hid (show wB.heap.size + 1 < W3.heap.size ∧ wA.heap.size + 1 < W3.heap.size by have h1 := hb.size; have h2 := HZ2.out; have h3 := HZ1.out; rw [← HW2.out] at h1; simp at h1; omega)
    have V3 := hb.trans (p8.mono hb.size)
    have B5 := Lib.hid p0
    have B6 := Lib.hid p1
    have O5 := Lib.hid (ho5.below p8)
    have O6 := Lib.hid (ho6.below p8)
    have U3 := Lib.hid (U2.out.trans (V3.mono U2.out.size))
    have C1 := Lib.hid (BA.out.below U3.out)
    have C2 := Lib.hid (BB.out.below U3.out)
    have C3 := Lib.hid (BQ.out.below V3)
    have C4 := Lib.hid (BR.out.below V3)
    have Q1 := Lib.hid (O1.out.below U3.out)
    have Q2 := Lib.hid (O2.out.below U3.out)
    have Q3 := Lib.hid (O3.out.below V3)
    have Q4 := Lib.hid (O4.out.below V3)
    have UB := Lib.hid (U1.out.trans (U3.out.mono U1.out.size))
    clear k1 k2 k3 k4 k5 k6 k7 k8 hW3 p0 p1 p8 p9 ho5 ho6 hb V3 HDS BA BB BQ BR O1 O2 O3 O4 U1 U2 U3
    have SS := Lib.hid (show ∀ W, Below W3.heap.size W3 W → (W.cell? ⟨wA.heap.size, 0, none⟩ = some (.int .i64 s1) ∧ W.cell? ⟨wA.heap.size, 1, none⟩ = some (.slice a1 xs1.length c1) ∧ W.cell? ⟨wB.heap.size, 0, none⟩ = some (.int .i64 d1) ∧ W.cell? ⟨wB.heap.size, 1, none⟩ = some (.slice a3 l1.length c3) ∧ W.cell? ⟨wB.heap.size + 1, 0, none⟩ = some (.int .i64 d2) ∧ W.cell? ⟨wB.heap.size + 1, 1, none⟩ = some (.slice a4 l2.length c4) ∧ W.cell? ⟨wC.heap.size, 0, none⟩ = some (.int .i64 d1) ∧ W.cell? ⟨wC.heap.size, 1, none⟩ = some (.slice a5 l1.length c5) ∧ W.cell? ⟨wC.heap.size + 1, 0, none⟩ = some (.int .i64 d2) ∧ W.cell? ⟨wC.heap.size + 1, 1, none⟩ = some (.slice a6 l2.length c6)) from fun W hW => ⟨(C1.out.below hW).cell 0, (C1.out.below hW).cell 1, (C3.out.below hW).cell 0, (C3.out.below hW).cell 1, (C4.out.below hW).cell 0, (C4.out.below hW).cell 1, (B5.out.below hW).cell 0, (B5.out.below hW).cell 1, (B6.out.below hW).cell 0, (B6.out.below hW).cell 1⟩)
    have HQ1 := Lib.hid (show ∀ W, Below W3.heap.size W3 W → Calls Try.prog 29 #[.agg #[.int .i64 d1, .slice a3 l1.length c3], .agg #[.int .i64 d1, .slice a5 l1.length c5]] W fun e w' => e = .returned (.bool true) ∧ Below W3.heap.size W3 w' from fun W hW => (whole5_same d1 a3 a5 l1 c3 c5 W W.heap.size W.heap.size (Nat.le_refl _) (Nat.le_refl _) (Q3.out.below hW).ints (O5.out.below hW).ints L3.out).mono fun e w' ⟨he, hb⟩ => ⟨he, hW.trans (hb.mono hW.size)⟩)
    have HQ2 := Lib.hid (show ∀ W, Below W3.heap.size W3 W → Calls Try.prog 29 #[.agg #[.int .i64 d2, .slice a4 l2.length c4], .agg #[.int .i64 d2, .slice a6 l2.length c6]] W fun e w' => e = .returned (.bool true) ∧ Below W3.heap.size W3 w' from fun W hW => (whole5_same d2 a4 a6 l2 c4 c6 W W.heap.size W.heap.size (Nat.le_refl _) (Nat.le_refl _) (Q4.out.below hW).ints (O6.out.below hW).ints L4.out).mono fun e w' ⟨he, hb⟩ => ⟨he, hW.trans (hb.mono hW.size)⟩)
    obtain ⟨wb, hwb⟩ : ∃ wb, wb = whB s1 xs1 := ⟨_, rfl⟩
    have HI1 := Lib.hid (show ∀ W, Below W3.heap.size W3 W → Calls Try.prog 30 #[.agg #[.int .i64 s1, .slice a1 xs1.length c1]] W fun e w' => e = .returned (.bool wb) ∧ Below W3.heap.size W3 w' from fun W hW => by
      have := iIsWhole s1 a1 xs1 c1 W W.heap.size (Nat.le_refl _) L1.out (Q1.out.below hW).ints
      rw [← hwb] at this
      exact this.mono fun e w' ⟨he, hb⟩ => ⟨he, hW.trans (hb.mono hW.size)⟩)
    have HI2 := Lib.hid (show ∀ W, Below W3.heap.size W3 W → Calls Try.prog 31 #[.agg #[.int .i64 s1, .slice a1 xs1.length c1]] W fun e w' => e = .returned (.bool wb) ∧ Below W3.heap.size W3 w' from fun W hW => by
      have := sIsWhole s1 a1 xs1 c1 W W.heap.size (Nat.le_refl _) L1.out (Q1.out.below hW).ints
      rw [← hwb] at this
      exact this.mono fun e w' ⟨he, hb⟩ => ⟨he, hW.trans (hb.mono hW.size)⟩)
    clear hwb
    have hdc : (dc != dc) = false := by simp
    have hwbb : (wb != wb) = false := by simp
    have hT3 : Below W3.heap.size W3 W3 := Below.refl _ _
    have hT3d := hT3.drew
    go_wp2_with fail
    rw [HW3.out]
    go_region_held3 (fun W => W.cell? ⟨wA.heap.size, 0, none⟩ = some (.int .i64 s1) ∧ W.cell? ⟨wA.heap.size, 1, none⟩ = some (.slice a1 xs1.length c1) ∧ W.cell? ⟨wB.heap.size, 0, none⟩ = some (.int .i64 d1) ∧ W.cell? ⟨wB.heap.size, 1, none⟩ = some (.slice a3 l1.length c3) ∧ W.cell? ⟨wB.heap.size + 1, 0, none⟩ = some (.int .i64 d2) ∧ W.cell? ⟨wB.heap.size + 1, 1, none⟩ = some (.slice a4 l2.length c4) ∧ W.cell? ⟨wC.heap.size, 0, none⟩ = some (.int .i64 d1) ∧ W.cell? ⟨wC.heap.size, 1, none⟩ = some (.slice a5 l1.length c5) ∧ W.cell? ⟨wC.heap.size + 1, 0, none⟩ = some (.int .i64 d2) ∧ W.cell? ⟨wC.heap.size + 1, 1, none⟩ = some (.slice a6 l2.length c6))
      (with_reducible exact SS.out _ (by assumption))
      (first
      | (go_at_call 29; with_reducible refine (HQ1.out _ (by assumption)).mono ?_; rintro e v1 ⟨rfl, hv1⟩)
      | (go_at_call 29; with_reducible refine (HQ2.out _ (by assumption)).mono ?_; rintro e v2 ⟨rfl, hv2⟩)
      | (go_at_call 30; with_reducible refine (HI1.out _ (by assumption)).mono ?_; rintro e v3 ⟨rfl, hv3⟩)
      | (go_at_call 31; with_reducible refine (HI2.out _ (by assumption)).mono ?_; rintro e v4 ⟨rfl, hv4⟩))
    have V4 := Lib.hid hv4
    have UV := Lib.hid (UB.out.trans (hv4.mono UB.out.size))
    clear hv1 hv2 hv3 hv4 hT3 hT3d hwbb HQ1 HQ2 HI1 HI2 SS B5 B6 O5 O6
    go_upto_if 85 with fail
    go_cut [] (fun W => Below w.heap.size w W)
    case first =>
      by_cases hz : dc = 0
      · subst hz
        obtain ⟨⟨p1, p2, hmul, hadd⟩, hsg, hsb, hcmp⟩ := div_facts HR.out
        have HMUL := Lib.hid hmul
        have HADD := Lib.hid hadd
        have HCMP := Lib.hid hcmp
        have HP := Lib.hid (show p2.length ≤ 9223372036854775807 by have h := binR_len (fun x y => x * y) d1 l1 s2 xs2; rw [hmul] at h; simp only at h; omega)
        obtain ⟨kk, hkk⟩ : ∃ kk, kk = d2 * d2 := ⟨_, rfl⟩
        have hwr : wrap64 (d2 * d2) = kk := by
          rw [hkk]
          have h3 : d2 = -1 ∨ d2 = 0 ∨ d2 = 1 := by omega
          rcases h3 with h | h | h <;> rw [h] <;> unfold wrap64 <;> omega
        rw [← hkk] at HCMP
        clear hmul hadd hcmp hsb hkk
        obtain ⟨k1, k2, _, _⟩ := (C3.out.below V4.out).two
        obtain ⟨k3, k4, _, _⟩ := (C2.out.below V4.out).two
        go_wp2_with fail
        refine (Calls.mono (show Calls Try.prog 32 #[.agg #[.int .i64 d1, .slice a3 l1.length c3], .agg #[.int .i64 s2, .slice a2 xs2.length c2]] v4 (RetWC (p1, p2, 0) v4.heap.size v4) from by
          have := iMultiplyWholes d1 s2 a3 a2 l1 xs2 c3 c2 v4 v4.heap.size v4.heap.size (Nat.le_refl _) (Nat.le_refl _) (Q3.out.below V4.out).ints (Q2.out.below V4.out).ints L3.out L2.out
          rwa [HMUL.out] at this) ?_)
        rintro e wD ⟨a7, c7, rfl, hc7, ho7, hb⟩
        have V5 := Lib.hid ((V4.out.trans (hb.mono V4.out.size)).alloc (V4.out.trans (hb.mono V4.out.size)).size (.cells #[.int .i64 p1, .slice a7 p2.length c7] 43))
        have B7 := Lib.hid (BoxAt.new wD 43 #[.int .i64 p1, .slice a7 p2.length c7])
        have O7 := Lib.hid (ho7.alloc (.cells #[.int .i64 p1, .slice a7 p2.length c7] 43))
        clear k1 k2 k3 k4
        have z1 : wB.heap.size + 1 < wD.heap.size := by have := (V4.out.trans (hb.mono V4.out.size)).size; have := HZ3.out; omega
        obtain ⟨k3, k4, _, _⟩ := (C4.out.below (V4.out.trans (hb.mono V4.out.size))).two
        clear ho7 hb hc7
        obtain ⟨W5, hW5⟩ : ∃ W5, wD.alloc (.cells #[.int .i64 p1, .slice a7 p2.length c7] 43) = W5 := ⟨_, rfl⟩
        rw [hW5] at V5 B7 O7
        have HW5 := Lib.hid hW5
        clear hW5
        go_wp2_with fail
        rw [HW5.out]
        refine (Calls.mono (show Calls Try.prog 33 #[.agg #[.int .i64 p1, .slice a7 p2.length c7], .agg #[.int .i64 d2, .slice a4 l2.length c4]] W5 (RetWC (s1, xs1, 0) W5.heap.size W5) from by
          have := iAddWholes p1 d2 a7 a4 p2 l2 c7 c4 W5 W5.heap.size W5.heap.size (Nat.le_refl _) (Nat.le_refl _) O7.out.ints (Q4.out.below V5.out).ints HP.out L4.out
          rwa [HADD.out] at this) ?_)
        rintro e wE ⟨a8, c8, rfl, hc8, ho8, hb⟩
        have V6 := Lib.hid ((V5.out.trans (hb.mono V5.out.size)).alloc (V5.out.trans (hb.mono V5.out.size)).size (.cells #[.int .i64 s1, .slice a8 xs1.length c8] 43))
        have B8 := Lib.hid (BoxAt.new wE 43 #[.int .i64 s1, .slice a8 xs1.length c8])
        have O8 := Lib.hid (ho8.alloc (.cells #[.int .i64 s1, .slice a8 xs1.length c8] 43))
        clear k3 k4 z1
        have z1 : wA.heap.size < wE.heap.size := by have := (V5.out.trans (hb.mono V5.out.size)).size; have := HZ3.out; omega
        obtain ⟨k3, k4, _, _⟩ := (C1.out.below (V5.out.trans (hb.mono V5.out.size))).two
        clear ho8 hb hc8
        obtain ⟨W6, hW6⟩ : ∃ W6, wE.alloc (.cells #[.int .i64 s1, .slice a8 xs1.length c8] 43) = W6 := ⟨_, rfl⟩
        rw [hW6] at V6 B8 O8
        have HW6 := Lib.hid hW6
        clear hW6
        go_wp2_with fail
        rw [HW6.out]
        refine (whole5_same s1 a8 a1 xs1 c8 c1 W6 W6.heap.size W6.heap.size (Nat.le_refl _) (Nat.le_refl _) O8.out.ints (Q1.out.below V6.out).ints L1.out).mono ?_
        rintro e wF ⟨rfl, hb⟩
        have V7 := Lib.hid (V6.out.trans (hb.mono V6.out.size))
        clear k3 k4 hb z1
        obtain ⟨k1, k2, _, _⟩ := (C4.out.below V7.out).two
        obtain ⟨k3, k4, _, _⟩ := (C2.out.below V7.out).two
        obtain ⟨k5, k6, _, _⟩ := (C1.out.below V7.out).two
        have HCM := Lib.hid (show Calls Try.prog 34 #[.agg #[.int .i64 kk, .slice a4 l2.length c4], .agg #[.int .i64 1, .slice a2 xs2.length c2]] wF (RetB (.tuple #[.int .i64 (-1), .int .i64 0]) wF) from by
          have := iCompareWholes kk 1 a4 a2 l2 xs2 c4 c2 wF wF.heap.size wF.heap.size (Nat.le_refl _) (Nat.le_refl _) (Q4.out.below V7.out).ints (Q2.out.below V7.out).ints L4.out L2.out
          rwa [HCMP.out] at this)
        by_cases h0 : d2 = 0
        · have hd0 : (d2 != 0) = false := by simp [h0]
          clear hsg h0
          go_wp2_with fail
          refine HCM.out.mono ?_
          rintro e wG ⟨rfl, hb⟩
          have V8 := Lib.hid (V7.out.trans (hb.mono V7.out.size))
          clear k1 k2 k3 k4 k5 k6 hb
          go_wp2_with fail
          go_meet
          exact UB.out.trans (V8.out.mono UB.out.size)
        · have hd0 : (d2 != 0) = true := by simp [h0]
          have hd1 : (d2 != s1) = false := by rcases hsg with h | h; exact absurd h h0; simp [h]
          clear hsg h0
          go_wp2_with fail
          refine HCM.out.mono ?_
          rintro e wG ⟨rfl, hb⟩
          have V8 := Lib.hid (V7.out.trans (hb.mono V7.out.size))
          clear k1 k2 k3 k4 k5 k6 hb
          go_wp2_with fail
          go_meet
          exact UB.out.trans (V8.out.mono UB.out.size)
      · have h0 := ne_zero_code hz
        clear hz
        go_wp2_with fail
        go_meet
        exact UV.out
    case rest => as_aux_lemma =>
      have PB := Lib.hid hcut
      clear hcut UV V4 HR UB C1 C2 C3 C4 Q1 Q2 Q3 Q4 L1 L2 L3 L4 hdc HW1 HW2 HW3
      go_wp2_with fail
      refine (drawAdd a len cap wc HL.out (HC.out.below PB.out PB.out.size)).mono ?_
      rintro e wA' ⟨s1, xs1, a1, c1, s2, xs2, a2, c2, rfl, hx1, hc1, hx2, hc2, ho1, ho2, hb⟩
      have PA := Lib.hid (PB.out.trans (hb.mono PB.out.size))
      obtain ⟨W1', hW1⟩ : ∃ W1' : World, (wA'.alloc (.cells #[.int .i64 s1, .slice a1 xs1.length c1] 43)).alloc (.cells #[.int .i64 s2, .slice a2 xs2.length c2] 43) = W1' := ⟨_, rfl⟩
      obtain ⟨p0, p1, p8, p9⟩ := two_box wA' 43 #[.int .i64 s1, .slice a1 xs1.length c1] #[.int .i64 s2, .slice a2 xs2.length c2]
      rw [hW1] at p0 p1 p8 p9
      have HW1 := Lib.hid hW1
      have BA := Lib.hid p0
      have BB := Lib.hid p1
      have O1 := Lib.hid (ho1.below p8)
      have O2 := Lib.hid (ho2.below p8)
      have P1 := Lib.hid (PA.out.trans (p8.mono PA.out.size))
      have HZ := Lib.hid p9
      have L1 := Lib.hid (big_len hx1)
      have L2 := Lib.hid (big_len hx2)
      have CC1 := Lib.hid hc1
      have CC2 := Lib.hid hc2
      obtain ⟨⟨t1, m1, e1⟩, hr1⟩ : ∃ r, r = binR (fun x y => x + y) s1 xs1 s2 xs2 := ⟨_, rfl⟩
      obtain ⟨⟨t2, m2, e2⟩, hr2⟩ : ∃ r, r = binR (fun x y => x - y) s1 xs1 s2 xs2 := ⟨_, rfl⟩
      obtain ⟨⟨t3, e3⟩, hr3⟩ : ∃ r, r = cmpR s1 xs1 s2 xs2 := ⟨_, rfl⟩
      have R1 := Lib.hid hr1
      have R2 := Lib.hid hr2
      have R3 := Lib.hid hr3
      have L3 := Lib.hid (show m1.length ≤ 9223372036854775807 by have h := binR_len (fun x y => x + y) s1 xs1 s2 xs2; rw [← hr1] at h; simp only at h; omega)
      have L4 := Lib.hid (show m2.length ≤ 9223372036854775807 by have h := binR_len (fun x y => x - y) s1 xs1 s2 xs2; rw [← hr2] at h; simp only at h; omega)
      have IX := Lib.hid (show ∀ W, Below W1'.heap.size W1' W → Ints W W.heap.size a1 xs1 ∧ Ints W W.heap.size a2 xs2 from fun W hW => ⟨(O1.out.below hW).ints, (O2.out.below hW).ints⟩)
      clear hW1 p0 p1 p8 p9 ho1 ho2 hb hx1 hx2 hc1 hc2 hr1 hr2 hr3
      have hT : Below W1'.heap.size W1' W1' := Below.refl _ _
      have V0 := Lib.hid hT
      clear hT
      go_wp2_with fail
      rw [HW1.out]
      refine (Calls.mono (show Calls Try.prog 33 #[.agg #[.int .i64 s1, .slice a1 xs1.length c1], .agg #[.int .i64 s2, .slice a2 xs2.length c2]] W1' (RetWC (t1, m1, e1) W1'.heap.size W1') from by
        have := iAddWholes s1 s2 a1 a2 xs1 xs2 c1 c2 W1' W1'.heap.size W1'.heap.size (Nat.le_refl _) (Nat.le_refl _) (IX.out _ V0.out).1 (IX.out _ V0.out).2 L1.out L2.out
        rwa [← R1.out] at this) ?_)
      rintro e w21 ⟨f1, g1, rfl, hc, ho, hb⟩
      have V21 := Lib.hid ((V0.out.trans (hb.mono V0.out.size)).alloc (V0.out.trans (hb.mono V0.out.size)).size (.cells #[.int .i64 t1, .slice f1 m1.length g1] 43))
      have B21 := Lib.hid (BoxAt.new w21 43 #[.int .i64 t1, .slice f1 m1.length g1])
      have O21 := Lib.hid (ho.alloc (.cells #[.int .i64 t1, .slice f1 m1.length g1] 43))
      obtain ⟨W21, hW21⟩ : ∃ W21, w21.alloc (.cells #[.int .i64 t1, .slice f1 m1.length g1] 43) = W21 := ⟨_, rfl⟩
      rw [hW21] at V21 B21 O21
      have EW21 := Lib.hid hW21
      have N21 := Lib.hid (show Below W1'.heap.size W1' W21 from by rw [← hW21]; exact hb.alloc hb.size _)

      have z1 : wA'.heap.size < w21.heap.size := by have := (V0.out.trans (hb.mono V0.out.size)).size; have := HZ.out; omega
      have z2 : wA'.heap.size + 1 < w21.heap.size := by have := (V0.out.trans (hb.mono V0.out.size)).size; have := HZ.out; omega
      obtain ⟨k1, k2, _, _⟩ := (BA.out.below (V0.out.trans (hb.mono V0.out.size))).two
      obtain ⟨k3, k4, _, _⟩ := (BB.out.below (V0.out.trans (hb.mono V0.out.size))).two
      clear ho hb hc hW21
      go_wp2_with fail
      rw [EW21.out]
      refine (Calls.mono (show Calls Try.prog 36 #[.agg #[.int .i64 s1, .slice a1 xs1.length c1], .agg #[.int .i64 s2, .slice a2 xs2.length c2]] W21 (RetWC (t1, m1, e1) W21.heap.size W21) from by
        have := sAddWholes s1 s2 a1 a2 xs1 xs2 c1 c2 W21 W21.heap.size W21.heap.size (Nat.le_refl _) (Nat.le_refl _) (IX.out _ V21.out).1 (IX.out _ V21.out).2 L1.out L2.out CC1.out CC2.out
        rwa [← R1.out] at this) ?_)
      rintro e w22 ⟨f2, g2, rfl, hc, ho, hb⟩
      have V22 := Lib.hid ((V21.out.trans (hb.mono V21.out.size)).alloc (V21.out.trans (hb.mono V21.out.size)).size (.cells #[.int .i64 t1, .slice f2 m1.length g2] 43))
      have B22 := Lib.hid (BoxAt.new w22 43 #[.int .i64 t1, .slice f2 m1.length g2])
      have O22 := Lib.hid (ho.alloc (.cells #[.int .i64 t1, .slice f2 m1.length g2] 43))
      obtain ⟨W22, hW22⟩ : ∃ W22, w22.alloc (.cells #[.int .i64 t1, .slice f2 m1.length g2] 43) = W22 := ⟨_, rfl⟩
      rw [hW22] at V22 B22 O22
      have EW22 := Lib.hid hW22
      have N22 := Lib.hid (show Below W21.heap.size W21 W22 from by rw [← hW22]; exact hb.alloc hb.size _)
      clear k1 k2 k3 k4 z1 z2
      have z1 : wA'.heap.size < w22.heap.size := by have := (V21.out.trans (hb.mono V21.out.size)).size; have := HZ.out; omega
      have z2 : wA'.heap.size + 1 < w22.heap.size := by have := (V21.out.trans (hb.mono V21.out.size)).size; have := HZ.out; omega
      obtain ⟨k1, k2, _, _⟩ := (BA.out.below (V21.out.trans (hb.mono V21.out.size))).two
      obtain ⟨k3, k4, _, _⟩ := (BB.out.below (V21.out.trans (hb.mono V21.out.size))).two
      clear ho hb hc hW22
      go_wp2_with fail
      rw [EW22.out]
      refine (Calls.mono (show Calls Try.prog 37 #[.agg #[.int .i64 s1, .slice a1 xs1.length c1], .agg #[.int .i64 s2, .slice a2 xs2.length c2]] W22 (RetWC (t2, m2, e2) W22.heap.size W22) from by
        have := iSubtractWholes s1 s2 a1 a2 xs1 xs2 c1 c2 W22 W22.heap.size W22.heap.size (Nat.le_refl _) (Nat.le_refl _) (IX.out _ V22.out).1 (IX.out _ V22.out).2 L1.out L2.out
        rwa [← R2.out] at this) ?_)
      rintro e w23 ⟨f3, g3, rfl, hc, ho, hb⟩
      have V23 := Lib.hid ((V22.out.trans (hb.mono V22.out.size)).alloc (V22.out.trans (hb.mono V22.out.size)).size (.cells #[.int .i64 t2, .slice f3 m2.length g3] 43))
      have B23 := Lib.hid (BoxAt.new w23 43 #[.int .i64 t2, .slice f3 m2.length g3])
      have O23 := Lib.hid (ho.alloc (.cells #[.int .i64 t2, .slice f3 m2.length g3] 43))
      obtain ⟨W23, hW23⟩ : ∃ W23, w23.alloc (.cells #[.int .i64 t2, .slice f3 m2.length g3] 43) = W23 := ⟨_, rfl⟩
      rw [hW23] at V23 B23 O23
      have EW23 := Lib.hid hW23
      have N23 := Lib.hid (show Below W22.heap.size W22 W23 from by rw [← hW23]; exact hb.alloc hb.size _)
      clear k1 k2 k3 k4 z1 z2
      have z1 : wA'.heap.size < w23.heap.size := by have := (V22.out.trans (hb.mono V22.out.size)).size; have := HZ.out; omega
      have z2 : wA'.heap.size + 1 < w23.heap.size := by have := (V22.out.trans (hb.mono V22.out.size)).size; have := HZ.out; omega
      obtain ⟨k1, k2, _, _⟩ := (BA.out.below (V22.out.trans (hb.mono V22.out.size))).two
      obtain ⟨k3, k4, _, _⟩ := (BB.out.below (V22.out.trans (hb.mono V22.out.size))).two
      clear ho hb hc hW23
      go_wp2_with fail
      rw [EW23.out]
      refine (Calls.mono (show Calls Try.prog 38 #[.agg #[.int .i64 s1, .slice a1 xs1.length c1], .agg #[.int .i64 s2, .slice a2 xs2.length c2]] W23 (RetWC (t2, m2, e2) W23.heap.size W23) from by
        have := sSubtractWholes s1 s2 a1 a2 xs1 xs2 c1 c2 W23 W23.heap.size W23.heap.size (Nat.le_refl _) (Nat.le_refl _) (IX.out _ V23.out).1 (IX.out _ V23.out).2 L1.out L2.out CC1.out CC2.out
        rwa [← R2.out] at this) ?_)
      rintro e w24 ⟨f4, g4, rfl, hc, ho, hb⟩
      have V24 := Lib.hid ((V23.out.trans (hb.mono V23.out.size)).alloc (V23.out.trans (hb.mono V23.out.size)).size (.cells #[.int .i64 t2, .slice f4 m2.length g4] 43))
      have B24 := Lib.hid (BoxAt.new w24 43 #[.int .i64 t2, .slice f4 m2.length g4])
      have O24 := Lib.hid (ho.alloc (.cells #[.int .i64 t2, .slice f4 m2.length g4] 43))
      obtain ⟨W24, hW24⟩ : ∃ W24, w24.alloc (.cells #[.int .i64 t2, .slice f4 m2.length g4] 43) = W24 := ⟨_, rfl⟩
      rw [hW24] at V24 B24 O24
      have EW24 := Lib.hid hW24
      have N24 := Lib.hid (show Below W23.heap.size W23 W24 from by rw [← hW24]; exact hb.alloc hb.size _)
      clear k1 k2 k3 k4 z1 z2
      have z1 : wA'.heap.size < w24.heap.size := by have := (V23.out.trans (hb.mono V23.out.size)).size; have := HZ.out; omega
      have z2 : wA'.heap.size + 1 < w24.heap.size := by have := (V23.out.trans (hb.mono V23.out.size)).size; have := HZ.out; omega
      obtain ⟨k1, k2, _, _⟩ := (BA.out.below (V23.out.trans (hb.mono V23.out.size))).two
      obtain ⟨k3, k4, _, _⟩ := (BB.out.below (V23.out.trans (hb.mono V23.out.size))).two
      clear ho hb hc hW24
      go_wp2_with fail
      rw [EW24.out]
      refine (Calls.mono (show Calls Try.prog 34 #[.agg #[.int .i64 s1, .slice a1 xs1.length c1], .agg #[.int .i64 s2, .slice a2 xs2.length c2]] W24 (RetB (.tuple #[.int .i64 t3, .int .i64 e3]) W24) from by
        have := iCompareWholes s1 s2 a1 a2 xs1 xs2 c1 c2 W24 W24.heap.size W24.heap.size (Nat.le_refl _) (Nat.le_refl _) (IX.out _ V24.out).1 (IX.out _ V24.out).2 L1.out L2.out
        rwa [← R3.out] at this) ?_)
      rintro e w25 ⟨rfl, hb25⟩
      have D24 := Lib.hid hb25
      have V25 := Lib.hid (V24.out.trans (hb25.mono V24.out.size))
      have F1 := Lib.hid (((B21.out.below N22.out).below N23.out).below N24.out |>.below hb25)
      have F2 := Lib.hid ((B22.out.below N23.out).below N24.out |>.below hb25)
      have F3 := Lib.hid ((B23.out.below N24.out).below hb25)
      have F4 := Lib.hid (B24.out.below hb25)
      have G1 := Lib.hid (((O21.out.below N22.out).below N23.out).below N24.out |>.below hb25)
      have G2 := Lib.hid ((O22.out.below N23.out).below N24.out |>.below hb25)
      have G3 := Lib.hid ((O23.out.below N24.out).below hb25)
      have G4 := Lib.hid (O24.out.below hb25)
      clear k1 k2 k3 k4 z1 z2 hb25 B21 B22 B23 B24 O21 O22 O23 O24 N21 N22 N23 N24 D24 V21 V22 V23 V24
      obtain ⟨k1, k2, _, _⟩ := F1.out.two
      obtain ⟨k3, k4, _, _⟩ := F2.out.two
      have hq1 : (e1 != e1) = false := by simp
      have hq2 : (e2 != e2) = false := by simp
      go_wp2_with fail
      refine (whole5_same t1 f1 f2 m1 g1 g2 w25 w25.heap.size w25.heap.size (Nat.le_refl _) (Nat.le_refl _) G1.out.ints G2.out.ints L3.out).mono ?_
      rintro e w26 ⟨rfl, hb26⟩
      have N26 := Lib.hid hb26
      clear k1 k2 k3 k4 hb26
      obtain ⟨k1, k2, _, _⟩ := (F3.out.below N26.out).two
      obtain ⟨k3, k4, _, _⟩ := (F4.out.below N26.out).two
      go_wp2_with fail
      refine (whole5_same t2 f3 f4 m2 g3 g4 w26 w26.heap.size w26.heap.size (Nat.le_refl _) (Nat.le_refl _) (G3.out.below N26.out).ints (G4.out.below N26.out).ints L4.out).mono ?_
      rintro e w27 ⟨rfl, hb27⟩
      have N27 := Lib.hid (N26.out.trans (hb27.mono N26.out.size))
      have P27 := Lib.hid (P1.out.trans ((V25.out.trans (N27.out.mono V25.out.size)).mono P1.out.size))
      have H3 := Lib.hid (F3.out.below N27.out)
      clear k1 k2 k3 k4 hb27 hq1 hq2
      go_upto_if 199 with fail
      go_cut [] (fun W => Below w27.heap.size w27 W)
      case first =>
        by_cases hz : e1 = 0
        · subst hz
          have HSB := Lib.hid (sum_undone R1.out)
          obtain ⟨k1, k2, _, _⟩ := (F1.out.below N27.out).two
          obtain ⟨k3, k4, _, _⟩ := (BB.out.below (V25.out.trans (N27.out.mono V25.out.size))).two
          go_wp2_with fail
          refine (Calls.mono (show Calls Try.prog 37 #[.agg #[.int .i64 t1, .slice f1 m1.length g1], .agg #[.int .i64 s2, .slice a2 xs2.length c2]] w27 (RetWC (s1, xs1, 0) w27.heap.size w27) from by
            have := iSubtractWholes t1 s2 f1 a2 m1 xs2 g1 c2 w27 w27.heap.size w27.heap.size (Nat.le_refl _) (Nat.le_refl _) (G1.out.below N27.out).ints (IX.out _ (V25.out.trans (N27.out.mono V25.out.size))).2 L3.out L2.out
            rwa [← HSB.out] at this) ?_)
          rintro e w28 ⟨f5, g5, rfl, hc, ho, hb⟩
          have V28 := Lib.hid (hb.alloc hb.size (.cells #[.int .i64 s1, .slice f5 xs1.length g5] 43))
          have B28 := Lib.hid (BoxAt.new w28 43 #[.int .i64 s1, .slice f5 xs1.length g5])
          have O28 := Lib.hid (ho.alloc (.cells #[.int .i64 s1, .slice f5 xs1.length g5] 43))
          obtain ⟨W28, hW28⟩ : ∃ W28, w28.alloc (.cells #[.int .i64 s1, .slice f5 xs1.length g5] 43) = W28 := ⟨_, rfl⟩
          rw [hW28] at V28 B28 O28
          have EW28 := Lib.hid hW28
          have Z28 := Lib.hid (show Below W1'.heap.size W1' W28 from (V25.out.trans (N27.out.mono V25.out.size)).trans (V28.out.mono (V25.out.trans (N27.out.mono V25.out.size)).size))
          clear k1 k2 k3 k4
          have hz28 := (V25.out.trans (N27.out.mono V25.out.size)).trans (hb.mono (V25.out.trans (N27.out.mono V25.out.size)).size)
          have z1 : wA'.heap.size < w28.heap.size := by have := hz28.size; have := HZ.out; omega
          obtain ⟨k3, k4, _, _⟩ := (BA.out.below hz28).two
          clear ho hb hc hW28 hz28
          go_wp2_with fail
          rw [EW28.out]
          refine (whole5_same s1 f5 a1 xs1 g5 c1 W28 W28.heap.size W28.heap.size (Nat.le_refl _) (Nat.le_refl _) O28.out.ints (IX.out _ Z28.out).1 L1.out).mono ?_
          rintro e w29 ⟨rfl, hb⟩
          have V29 := Lib.hid (V28.out.trans (hb.mono V28.out.size))
          clear k3 k4 hb z1
          go_wp2_with fail
          go_meet
          exact V29.out
        · have h0 := ne_zero_code hz
          clear hz
          go_wp2_with fail
          go_meet
          exact Below.refl _ _
      case rest => as_aux_lemma =>
        have N28 := Lib.hid hcut
        have P28 := Lib.hid (P27.out.trans (hcut.mono P27.out.size))
        obtain ⟨k1, k2, _, _⟩ := (H3.out.below hcut).two
        clear hcut
        by_cases hz : e2 = 0
        · subst hz
          have h3 := sub_order R2.out
          rw [← R3.out] at h3
          obtain ⟨h3a, h3b⟩ : t3 = t2 ∧ e3 = 0 := by injection h3 with h1 h2; exact ⟨h1, h2⟩
          subst h3a h3b
          have hq : (t3 != t3) = false := by simp
          clear h3 R1 R2 R3 IX F1 F2 F3 F4 G1 G2 G3 G4 H3 BA BB O1 O2 L1 L2 L3 L4 CC1 CC2 V25 N26 N27 P27 N28
          go_wp2_with fail
          refine (drawOf a len cap _ HL.out (HC.out.below P28.out P28.out.size)).mono ?_
          rintro e x1 ⟨n, hn, rfl, hb⟩
          have HN := Lib.hid hn
          have X1 := Lib.hid (P28.out.trans (hb.mono P28.out.size))
          have hln := Lib.hid (show (lim n.natAbs).length ≤ 200 by have := lim_len_small (n := n.natAbs) (by unfold InI64 at hn; omega); omega)
          clear hn hb k1 k2
          go_wp2_with fail
          refine (iWholeOf n HN.out.1 HN.out.2 x1).mono ?_
          rintro e x2 ⟨b1, h1, rfl, hc, ho, hb⟩
          have X2 := Lib.hid ((X1.out.trans (hb.mono X1.out.size)).alloc (by have := X1.out.size; have := hb.size; omega) (.cells #[.int .i64 n.sign, .slice b1 (lim n.natAbs).length h1] 43))
          have BX := Lib.hid (BoxAt.new x2 43 #[.int .i64 n.sign, .slice b1 (lim n.natAbs).length h1])
          have OX := Lib.hid (ho.alloc (.cells #[.int .i64 n.sign, .slice b1 (lim n.natAbs).length h1] 43))
          obtain ⟨X2', hX2⟩ : ∃ X2', x2.alloc (.cells #[.int .i64 n.sign, .slice b1 (lim n.natAbs).length h1] 43) = X2' := ⟨_, rfl⟩
          rw [hX2] at X2 BX OX
          have EX2 := Lib.hid hX2
          clear hc ho hb hX2
          obtain ⟨k1, k2, _, _⟩ := BX.out.two
          have IB := Lib.hid (int_back HN.out hln.out)
          go_wp2_with fail
          rw [EX2.out]
          refine (Calls.mono (show Calls Try.prog 41 #[.agg #[.int .i64 n.sign, .slice b1 (lim n.natAbs).length h1]] X2' (RetB (.tuple #[.int .i64 n, .int .i64 0]) X2') from by
            have := iIntegerOf n.sign b1 (lim n.natAbs) h1 X2' X2'.heap.size (Nat.le_refl _) OX.out.ints (by have := hln.out; omega)
            rwa [IB.out.1] at this) ?_)
          rintro e x3 ⟨rfl, hb⟩
          have X3 := Lib.hid (X2.out.trans (hb.mono X2.out.size))
          have OX3 := Lib.hid (OX.out.below hb)
          clear k1 k2
          obtain ⟨k1, k2, _, _⟩ := (BX.out.below hb).two
          clear hb
          have hnn : (n != n) = false := by simp
          go_wp2_with fail
          refine (Calls.mono (show Calls Try.prog 30 #[.agg #[.int .i64 n.sign, .slice b1 (lim n.natAbs).length h1]] x3 (RetB (.bool true) x3) from by
            have := iIsWhole n.sign b1 (lim n.natAbs) h1 x3 x3.heap.size (Nat.le_refl _) (by have := hln.out; omega) OX3.out.ints
            rwa [IB.out.2] at this) ?_)
          rintro e x4 ⟨rfl, hb⟩
          have X4 := Lib.hid (X3.out.trans (hb.mono X3.out.size))
          clear k1 k2 hb
          go_wp2_with fail
          refine (drawInt a len cap x4 HL.out (HC.out.below X4.out X4.out.size)).mono ?_
          rintro e x5 ⟨s9, xs9, b9, h9, rfl, hx9, hc9, ho9, hb⟩
          have L9 := Lib.hid (big_len hx9)
          have X5 := Lib.hid ((X4.out.trans (hb.mono X4.out.size)).alloc (by have := X4.out.size; have := hb.size; omega) (.cells #[.int .i64 s9, .slice b9 xs9.length h9] 43))
          have BY := Lib.hid (BoxAt.new x5 43 #[.int .i64 s9, .slice b9 xs9.length h9])
          have OY := Lib.hid (ho9.alloc (.cells #[.int .i64 s9, .slice b9 xs9.length h9] 43))
          obtain ⟨X5', hX5⟩ : ∃ X5', x5.alloc (.cells #[.int .i64 s9, .slice b9 xs9.length h9] 43) = X5' := ⟨_, rfl⟩
          rw [hX5] at X5 BY OY
          have EX5 := Lib.hid hX5
          clear hx9 hc9 ho9 hb hX5
          obtain ⟨k1, k2, _, _⟩ := BY.out.two
          obtain ⟨⟨y1, y2⟩, hy⟩ : ∃ r, r = intR s9 xs9 := ⟨_, rfl⟩
          have HY := Lib.hid hy
          clear hy
          have hy1 : (y1 == y1) = true := by simp
          have hy2 : (y2 == y2) = true := by simp
          go_wp2_with fail
          rw [EX5.out]
          refine (Calls.mono (show Calls Try.prog 41 #[.agg #[.int .i64 s9, .slice b9 xs9.length h9]] X5' (RetB (.tuple #[.int .i64 y1, .int .i64 y2]) X5') from by
            have := iIntegerOf s9 b9 xs9 h9 X5' X5'.heap.size (Nat.le_refl _) OY.out.ints L9.out
            rwa [← HY.out] at this) ?_)
          rintro e x6 ⟨rfl, hb⟩
          have X6 := Lib.hid (X5.out.trans (hb.mono X5.out.size))
          have OY6 := Lib.hid (OY.out.below hb)
          clear k1 k2
          obtain ⟨k1, k2, _, _⟩ := (BY.out.below hb).two
          clear hb
          go_wp2_with fail
          refine (Calls.mono (show Calls Try.prog 43 #[.agg #[.int .i64 s9, .slice b9 xs9.length h9]] x6 (RetB (.tuple #[.int .i64 y1, .int .i64 y2]) x6) from by
            have := sIntegerOf s9 b9 xs9 h9 x6 x6.heap.size (Nat.le_refl _) OY6.out.ints L9.out
            rwa [← HY.out] at this) ?_)
          rintro e x7 ⟨rfl, hb⟩
          have X7 := Lib.hid (X6.out.trans (hb.mono X6.out.size))
          clear k1 k2 hb
          go_wp2_with fail
          go_ret
          exact ⟨rfl, X7.out⟩
        · have h0 := ne_zero_code hz
          clear hz R1 R2 R3 IX F1 F2 F3 F4 G1 G2 G3 G4 H3 BA BB O1 O2 L1 L2 L3 L4 CC1 CC2 V25 N26 N27 P27 N28
          go_wp2_with fail
          refine (drawOf a len cap _ HL.out (HC.out.below P28.out P28.out.size)).mono ?_
          rintro e x1 ⟨n, hn, rfl, hb⟩
          have HN := Lib.hid hn
          have X1 := Lib.hid (P28.out.trans (hb.mono P28.out.size))
          have hln := Lib.hid (show (lim n.natAbs).length ≤ 200 by have := lim_len_small (n := n.natAbs) (by unfold InI64 at hn; omega); omega)
          clear hn hb k1 k2
          go_wp2_with fail
          refine (iWholeOf n HN.out.1 HN.out.2 x1).mono ?_
          rintro e x2 ⟨b1, h1, rfl, hc, ho, hb⟩
          have X2 := Lib.hid ((X1.out.trans (hb.mono X1.out.size)).alloc (by have := X1.out.size; have := hb.size; omega) (.cells #[.int .i64 n.sign, .slice b1 (lim n.natAbs).length h1] 43))
          have BX := Lib.hid (BoxAt.new x2 43 #[.int .i64 n.sign, .slice b1 (lim n.natAbs).length h1])
          have OX := Lib.hid (ho.alloc (.cells #[.int .i64 n.sign, .slice b1 (lim n.natAbs).length h1] 43))
          obtain ⟨X2', hX2⟩ : ∃ X2', x2.alloc (.cells #[.int .i64 n.sign, .slice b1 (lim n.natAbs).length h1] 43) = X2' := ⟨_, rfl⟩
          rw [hX2] at X2 BX OX
          have EX2 := Lib.hid hX2
          clear hc ho hb hX2
          obtain ⟨k1, k2, _, _⟩ := BX.out.two
          have IB := Lib.hid (int_back HN.out hln.out)
          go_wp2_with fail
          rw [EX2.out]
          refine (Calls.mono (show Calls Try.prog 41 #[.agg #[.int .i64 n.sign, .slice b1 (lim n.natAbs).length h1]] X2' (RetB (.tuple #[.int .i64 n, .int .i64 0]) X2') from by
            have := iIntegerOf n.sign b1 (lim n.natAbs) h1 X2' X2'.heap.size (Nat.le_refl _) OX.out.ints (by have := hln.out; omega)
            rwa [IB.out.1] at this) ?_)
          rintro e x3 ⟨rfl, hb⟩
          have X3 := Lib.hid (X2.out.trans (hb.mono X2.out.size))
          have OX3 := Lib.hid (OX.out.below hb)
          clear k1 k2
          obtain ⟨k1, k2, _, _⟩ := (BX.out.below hb).two
          clear hb
          have hnn : (n != n) = false := by simp
          go_wp2_with fail
          refine (Calls.mono (show Calls Try.prog 30 #[.agg #[.int .i64 n.sign, .slice b1 (lim n.natAbs).length h1]] x3 (RetB (.bool true) x3) from by
            have := iIsWhole n.sign b1 (lim n.natAbs) h1 x3 x3.heap.size (Nat.le_refl _) (by have := hln.out; omega) OX3.out.ints
            rwa [IB.out.2] at this) ?_)
          rintro e x4 ⟨rfl, hb⟩
          have X4 := Lib.hid (X3.out.trans (hb.mono X3.out.size))
          clear k1 k2 hb
          go_wp2_with fail
          refine (drawInt a len cap x4 HL.out (HC.out.below X4.out X4.out.size)).mono ?_
          rintro e x5 ⟨s9, xs9, b9, h9, rfl, hx9, hc9, ho9, hb⟩
          have L9 := Lib.hid (big_len hx9)
          have X5 := Lib.hid ((X4.out.trans (hb.mono X4.out.size)).alloc (by have := X4.out.size; have := hb.size; omega) (.cells #[.int .i64 s9, .slice b9 xs9.length h9] 43))
          have BY := Lib.hid (BoxAt.new x5 43 #[.int .i64 s9, .slice b9 xs9.length h9])
          have OY := Lib.hid (ho9.alloc (.cells #[.int .i64 s9, .slice b9 xs9.length h9] 43))
          obtain ⟨X5', hX5⟩ : ∃ X5', x5.alloc (.cells #[.int .i64 s9, .slice b9 xs9.length h9] 43) = X5' := ⟨_, rfl⟩
          rw [hX5] at X5 BY OY
          have EX5 := Lib.hid hX5
          clear hx9 hc9 ho9 hb hX5
          obtain ⟨k1, k2, _, _⟩ := BY.out.two
          obtain ⟨⟨y1, y2⟩, hy⟩ : ∃ r, r = intR s9 xs9 := ⟨_, rfl⟩
          have HY := Lib.hid hy
          clear hy
          have hy1 : (y1 == y1) = true := by simp
          have hy2 : (y2 == y2) = true := by simp
          go_wp2_with fail
          rw [EX5.out]
          refine (Calls.mono (show Calls Try.prog 41 #[.agg #[.int .i64 s9, .slice b9 xs9.length h9]] X5' (RetB (.tuple #[.int .i64 y1, .int .i64 y2]) X5') from by
            have := iIntegerOf s9 b9 xs9 h9 X5' X5'.heap.size (Nat.le_refl _) OY.out.ints L9.out
            rwa [← HY.out] at this) ?_)
          rintro e x6 ⟨rfl, hb⟩
          have X6 := Lib.hid (X5.out.trans (hb.mono X5.out.size))
          have OY6 := Lib.hid (OY.out.below hb)
          clear k1 k2
          obtain ⟨k1, k2, _, _⟩ := (BY.out.below hb).two
          clear hb
          go_wp2_with fail
          refine (Calls.mono (show Calls Try.prog 43 #[.agg #[.int .i64 s9, .slice b9 xs9.length h9]] x6 (RetB (.tuple #[.int .i64 y1, .int .i64 y2]) x6) from by
            have := sIntegerOf s9 b9 xs9 h9 x6 x6.heap.size (Nat.le_refl _) OY6.out.ints L9.out
            rwa [← HY.out] at this) ?_)
          rintro e x7 ⟨rfl, hb⟩
          have X7 := Lib.hid (X6.out.trans (hb.mono X6.out.size))
          clear k1 k2 hb
          go_wp2_with fail
          go_ret
          exact ⟨rfl, X7.out⟩
end Go.Proofs.Ytpchcigpppdfiaa
