/-
  The walk of laws.FnExactDivideWholes. Conditions: the limbs can be read.
-/
import Derived.Test.YtebkpaonmeokgaaVs
import Derived.Deep.DeepCutAuto
import Derived.Deep.RegionHeld3
namespace Go.Proofs.Ytebkpaonmeokgaa
set_option linter.unusedVariables false
open Go Go.RowKit

set_option maxRecDepth 100000 in
set_option maxHeartbeats 60000000 in
theorem DivideWholes_walk (s0 : Int) (a0 : Option Addr) (xs0 : List Int) (c0 : Nat) (s1 : Int) (a1 : Option Addr) (xs1 : List Int) (c1 : Nat) (w : World) (hl0 : xs0.length ≤ 9223372036854775807) (hx0 : Ints w w.heap.size a0 xs0) (hl1 : xs1.length ≤ 9223372036854775807) (hx1 : Ints w w.heap.size a1 xs1) :
    Calls Try.prog 4 #[.agg #[.int .i64 s0, .slice a0 xs0.length c0], .agg #[.int .i64 s1, .slice a1 xs1.length c1]] w (LawDone w) := by
  by_cases hbig : (xs0.length : Int) + (xs1.length : Int) ≤ 1048576
  · have HL := Lib.hid hbig
    obtain ⟨⟨r1, r2, r4, r5, r3⟩, hr⟩ : ∃ r : DivRes, r = divR s0 xs0 s1 xs1 := ⟨_, rfl⟩
    obtain ⟨W0, hW0⟩ : ∃ W0 : World, ((w.alloc (.cells #[.int .i64 s0, .slice a0 xs0.length c0] 41)).alloc (.cells #[.int .i64 s1, .slice a1 xs1.length c1] 41)) = W0 := ⟨_, rfl⟩
    obtain ⟨p0, p1, p8, p9⟩ := two_box w 41 #[.int .i64 s0, .slice a0 xs0.length c0] #[.int .i64 s1, .slice a1 xs1.length c1]
    rw [hW0] at p0 p1 p8 p9
    have HW0 := Lib.hid hW0
    have P3 := Lib.hid p8
    have P4 := Lib.hid p9
    have SS := Lib.hid (show ∀ W, Below W0.heap.size W0 W → (W.cell? ⟨w.heap.size, 0, none⟩ = some (.int .i64 s0) ∧ W.cell? ⟨w.heap.size, 1, none⟩ = some (.slice a0 xs0.length c0) ∧ W.cell? ⟨w.heap.size + 1, 0, none⟩ = some (.int .i64 s1) ∧ W.cell? ⟨w.heap.size + 1, 1, none⟩ = some (.slice a1 xs1.length c1)) from fun W hW => ⟨(p0.below hW).cell 0, (p0.below hW).cell 1, (p1.below hW).cell 0, (p1.below hW).cell 1⟩)
    have HT0 := Lib.hid (show ∀ W, Below W0.heap.size W0 W → Calls Try.prog 27 #[.agg #[.int .i64 s0, .slice a0 xs0.length c0]] W fun e w' => ∃ a' c', e = .returned (.agg #[.int .i64 s0, .slice a' xs0.length c']) ∧ xs0.length ≤ c' ∧ Own2 w' W.heap.size w'.heap.size a' xs0 ∧ Below W.heap.size W w' ∧ Below W0.heap.size W0 w' from
      fun W hW => (toWhole s0 a0 xs0 c0 W w.heap.size (by have := hW.size; omega) (by omega) (hx0.below (p8.trans (hW.mono (by omega))))).mono fun e w' ⟨a, c, he, hc, ho, hb⟩ => ⟨a, c, he, hc, Own2.of ho, hb, hW.trans (hb.mono hW.size)⟩)
    have HT1 := Lib.hid (show ∀ W, Below W0.heap.size W0 W → Calls Try.prog 27 #[.agg #[.int .i64 s1, .slice a1 xs1.length c1]] W fun e w' => ∃ a' c', e = .returned (.agg #[.int .i64 s1, .slice a' xs1.length c']) ∧ xs1.length ≤ c' ∧ Own2 w' W.heap.size w'.heap.size a' xs1 ∧ Below W.heap.size W w' ∧ Below W0.heap.size W0 w' from
      fun W hW => (toWhole s1 a1 xs1 c1 W w.heap.size (by have := hW.size; omega) (by omega) (hx1.below (p8.trans (hW.mono (by omega))))).mono fun e w' ⟨a, c, he, hc, ho, hb⟩ => ⟨a, c, he, hc, Own2.of ho, hb, hW.trans (hb.mono hW.size)⟩)
    have HSP := Lib.hid (show ∀ (b0 : Option Addr) (d0 : Nat) (b1 : Option Addr) (d1 : Nat) W, Below W0.heap.size W0 W → xs0.length ≤ d0 → xs1.length ≤ d1 → Ints W W.heap.size b0 xs0 → Ints W W.heap.size b1 xs1 → Calls Try.prog 10 #[.agg #[.int .i64 s0, .slice b0 xs0.length d0], .agg #[.int .i64 s1, .slice b1 xs1.length d1]] W fun e w' => ∃ a c a' c', e = .returned (.tuple #[.agg #[.int .i64 r1, .slice a r2.length c], .agg #[.int .i64 r4, .slice a' r5.length c'], .int .i64 r3]) ∧ r2.length ≤ c ∧ r5.length ≤ c' ∧ Own w' W.heap.size a r2 ∧ Own w' W.heap.size a' r5 ∧ Apart a a' r2 r5 ∧ Below W.heap.size W w' ∧ Below W0.heap.size W0 w' from
      fun b0 d0 b1 d1 W hW h0 h1 i0 i1 => by
        have := sDivideWholes s0 s1 b0 b1 xs0 xs1 d0 d1 W _ _ (Nat.le_refl _) (Nat.le_refl _) i0 i1 hl0 hl1
        rw [← hr] at this
        exact this.mono fun e w' ⟨a, c, a', c', he, hc, hc', ho, ho', hap, hb⟩ => ⟨a, c, a', c', he, hc, hc', ho, ho', hap, hb, hW.trans (hb.mono hW.size)⟩)
    have HIM := Lib.hid (show ∀ (b0 : Option Addr) (d0 : Nat) (b1 : Option Addr) (d1 : Nat) W, Below W0.heap.size W0 W → xs0.length ≤ d0 → xs1.length ≤ d1 → Ints W W.heap.size b0 xs0 → Ints W W.heap.size b1 xs1 → Calls Try.prog 9 #[.agg #[.int .i64 s0, .slice b0 xs0.length d0], .agg #[.int .i64 s1, .slice b1 xs1.length d1]] W fun e w' => ∃ a c a' c', e = .returned (.tuple #[.agg #[.int .i64 r1, .slice a r2.length c], .agg #[.int .i64 r4, .slice a' r5.length c'], .int .i64 r3]) ∧ r2.length ≤ c ∧ r5.length ≤ c' ∧ Own w' W.heap.size a r2 ∧ Own w' W.heap.size a' r5 ∧ Apart a a' r2 r5 ∧ Below W.heap.size W w' ∧ Below W0.heap.size W0 w' from
      fun b0 d0 b1 d1 W hW h0 h1 i0 i1 => by
        have := iDivideWholes s0 s1 b0 b1 xs0 xs1 d0 d1 W _ _ (Nat.le_refl _) (Nat.le_refl _) i0 i1 hl0 hl1
        rw [← hr] at this
        exact this.mono fun e w' ⟨a, c, a', c', he, hc, hc', ho, ho', hap, hb⟩ => ⟨a, c, a', c', he, hc, hc', ho, ho', hap, hb, hW.trans (hb.mono hW.size)⟩)
    have hT : Below W0.heap.size W0 W0 := Below.refl _ _
    have hn0 : decide (1048576 - (xs0.length : Int) < 0) = false := decide_eq_false (by omega)
    have hn1 : decide (1048576 - (xs0.length : Int) - (xs1.length : Int) < 0) = false := decide_eq_false (by omega)
    have HN0 := Lib.hid (show xs0.length ≤ 1048576 by omega)
    have HN1 := Lib.hid (show xs1.length ≤ 1048576 by omega)
    have HR2 := Lib.hid (show r2.length ≤ 200 ∧ r5.length ≤ 200 from (by have h1 := divR_len s0 xs0 s1 xs1; rw [← hr] at h1; exact h1))
    clear p0 p1 p8 p9 hx0 hx1 hW0 hl0 hl1 hbig hr
    go_enter Try.func4, Try.ntmps4
    go_wp2_with fail
    rw [HW0.out]
    refine (szWhole_ok s0 a0 xs0.length c0 (1048576) _ (by have := HL.out; omega) (by omega)).mono ?_
    rintro e w1 ⟨rfl, hb⟩
    have hU1 : Below W0.heap.size W0 w1 := hT.trans (hb.mono hT.size)
    clear hb
    obtain ⟨k0, k1, k2, k3⟩ := SS.out _ hU1
    go_wp2_with fail
    refine (szWhole_ok s1 a1 xs1.length c1 (1048576 - (xs0.length : Int)) _ (by have := HL.out; omega) (by omega)).mono ?_
    rintro e w2 ⟨rfl, hb⟩
    clear k0 k1 k2 k3
    have hU2 : Below W0.heap.size W0 w2 := hU1.trans (hb.mono hU1.size)
    clear hb
    obtain ⟨k0, k1, k2, k3⟩ := SS.out _ hU2
    go_wp2_with fail
    go_cut [6, 7, 8] (fun p p' q W => q = .int .i64 r3 ∧ ∃ hi, ResD W0 W p p' (⟨r1, r2, r4, r5, r3⟩ : DivRes) hi)
    case first => as_aux_lemma =>
      have hTd := hU2.drew
      have hTd1 := (below_alloc hU2 (.cells #[.int .i64 0, .slice none 0 0] 26)).drew
      have hTd2 := (below_alloc (below_alloc hU2 (.cells #[.int .i64 0, .slice none 0 0] 26)) (.cells #[.int .i64 0, .slice none 0 0] 26)).drew
      have hsz0 := hU2.size
      clear k0 k1 k2 k3
      have z1 : ∀ W : World, ((W.alloc (.cells #[.int .i64 0, .slice none 0 0] 26)).alloc (.cells #[.int .i64 0, .slice none 0 0] 26)).cell? ⟨W.heap.size, 0, none⟩ = some (.int .i64 0) := fun W => ((BoxAt.new W _ _).alloc _).cell 0
      have z2 : ∀ W : World, ((W.alloc (.cells #[.int .i64 0, .slice none 0 0] 26)).alloc (.cells #[.int .i64 0, .slice none 0 0] 26)).cell? ⟨W.heap.size, 1, none⟩ = some (.slice none 0 0) := fun W => ((BoxAt.new W _ _).alloc _).cell 1
      have z3 : ∀ W : World, ((W.alloc (.cells #[.int .i64 0, .slice none 0 0] 26)).alloc (.cells #[.int .i64 0, .slice none 0 0] 26)).frozen? ⟨W.heap.size, 0, none⟩ = false := fun W => ((BoxAt.new W _ _).alloc _).frozen 0
      have z4 : ∀ W : World, ((W.alloc (.cells #[.int .i64 0, .slice none 0 0] 26)).alloc (.cells #[.int .i64 0, .slice none 0 0] 26)).frozen? ⟨W.heap.size, 1, none⟩ = false := fun W => ((BoxAt.new W _ _).alloc _).frozen 1
      go_region_held3 (fun W => W.cell? ⟨w.heap.size, 0, none⟩ = some (.int .i64 s0) ∧ W.cell? ⟨w.heap.size, 1, none⟩ = some (.slice a0 xs0.length c0) ∧ W.cell? ⟨w.heap.size + 1, 0, none⟩ = some (.int .i64 s1) ∧ W.cell? ⟨w.heap.size + 1, 1, none⟩ = some (.slice a1 xs1.length c1))
        (with_reducible first | exact SS.out _ (by assumption) | exact SS.out _ (below_alloc (by assumption) _) | exact SS.out _ (below_alloc (below_alloc (by assumption) _) _) | exact SS.out _ (by repeat (first | assumption | refine below_set2 ?_ (by first | omega | (simp; omega) | simp) _ _ | refine below_alloc ?_ _)))
        (first
        | (go_at_call 27; with_reducible refine (HT0.out _ (by with_reducible first | assumption | exact below_alloc (by assumption) _ | exact below_alloc (below_alloc (by assumption) _) _)).mono ?_; rintro e v1 ⟨e1, f1, rfl, hc1, ho1, hbb1, hbz1⟩; have hsz1 := hbz1.size; have hsy1 := hbb1.size; (try simp at hsy1); have hk1 := fun g v0 v1 (h : BoxAt _ g 26 #[v0, v1]) => BoxAt.below h hbb1)
        | (go_at_call 27; with_reducible refine (HT1.out _ (by with_reducible first | assumption | exact below_alloc (by assumption) _ | exact below_alloc (below_alloc (by assumption) _) _)).mono ?_; rintro e v2 ⟨e2, f2, rfl, hc2, ho2, hbb2, hbz2⟩; have hsz2 := hbz2.size; have hsy2 := hbb2.size; (try simp at hsy2); have hk2 := fun g v0 v1 (h : BoxAt _ g 26 #[v0, v1]) => BoxAt.below h hbb2; have ho12 := Own2.below (by with_reducible first | exact ho1 | exact Own2.alloc ho1 _ | exact Own2.alloc (Own2.alloc ho1 _) _) hbb2 (by first | (simp; done) | (simp; omega) | omega))
        | (go_at_call 10; with_reducible refine (HSP.out _ _ _ _ _ (by with_reducible first | assumption | exact below_alloc (by assumption) _ | exact below_alloc (below_alloc (by assumption) _) _) hc1 hc2 (by with_reducible first | exact (Own2.own ho12).ints | exact (Own2.own (Own2.alloc ho12 _)).ints | exact (Own2.own (Own2.alloc (Own2.alloc ho12 _) _)).ints) (by with_reducible first | exact (Own2.own ho2).ints | exact (Own2.own (Own2.alloc ho2 _)).ints | exact (Own2.own (Own2.alloc (Own2.alloc ho2 _) _)).ints)).mono ?_; rintro e v3 ⟨e3, f3, e4, f4, rfl, hc3, hc4, ho3, ho4, hap3, hbb3, hbz3⟩; have hsz3 := hbz3.size; have hsy3 := hbb3.size; (try simp at hsy3); (first | (with_reducible have hq := BoxAt.below (hk2 _ _ _ (hk1 _ _ _ (boxDrew (BoxAt.alloc (BoxAt.new w2 _ _) _)))) hbb3; (try simp only [size_al] at hq); obtain ⟨q1, q2, q3, q4⟩ := BoxAt.two hq; with_reducible have hr := BoxAt.below (hk2 _ _ _ (hk1 _ _ _ (BoxAt.newd (w2.alloc _) _ _))) hbb3; (try simp only [size_al] at hr); obtain ⟨r1', r2', r3', r4'⟩ := BoxAt.two hr; obtain ⟨g1, g2, g3, g4⟩ := far_twoL hq hr (by first | omega | (simp; omega) | simp); obtain ⟨g5, g6, g7, g8⟩ := far_twoL hr hq (by first | omega | (simp; omega) | simp)) | (with_reducible have hq := BoxAt.below (hk2 _ _ _ (BoxAt.alloc (hk1 _ _ _ (BoxAt.newd w2 _ _)) _)) hbb3; (try simp only [size_al] at hq); obtain ⟨q1, q2, q3, q4⟩ := BoxAt.two hq; with_reducible have hr := BoxAt.below (hk2 _ _ _ (BoxAt.new v1 _ _)) hbb3; (try simp only [size_al] at hr); obtain ⟨r1', r2', r3', r4'⟩ := BoxAt.two hr; obtain ⟨g1, g2, g3, g4⟩ := far_twoL hq hr (by first | omega | (simp; omega) | simp); obtain ⟨g5, g6, g7, g8⟩ := far_twoL hr hq (by first | omega | (simp; omega) | simp)) | (with_reducible have hq := BoxAt.below (BoxAt.alloc (hk2 _ _ _ (hk1 _ _ _ (BoxAt.newd w2 _ _))) _) hbb3; (try simp only [size_al] at hq); obtain ⟨q1, q2, q3, q4⟩ := BoxAt.two hq; with_reducible have hr := BoxAt.below (BoxAt.new v2 _ _) hbb3; (try simp only [size_al] at hr); obtain ⟨r1', r2', r3', r4'⟩ := BoxAt.two hr; obtain ⟨g1, g2, g3, g4⟩ := far_twoL hq hr (by first | omega | (simp; omega) | simp); obtain ⟨g5, g6, g7, g8⟩ := far_twoL hr hq (by first | omega | (simp; omega) | simp)) | (with_reducible have hq := BoxAt.below (hk2 _ _ _ (BoxAt.alloc (BoxAt.new v1 _ _) _)) hbb3; (try simp only [size_al] at hq); obtain ⟨q1, q2, q3, q4⟩ := BoxAt.two hq; with_reducible have hr := BoxAt.below (hk2 _ _ _ (BoxAt.new (v1.alloc _) _ _)) hbb3; (try simp only [size_al] at hr); obtain ⟨r1', r2', r3', r4'⟩ := BoxAt.two hr; obtain ⟨g1, g2, g3, g4⟩ := far_twoL hq hr (by first | omega | (simp; omega) | simp); obtain ⟨g5, g6, g7, g8⟩ := far_twoL hr hq (by first | omega | (simp; omega) | simp)) | (with_reducible have hq := BoxAt.below (BoxAt.alloc (hk2 _ _ _ (BoxAt.new v1 _ _)) _) hbb3; (try simp only [size_al] at hq); obtain ⟨q1, q2, q3, q4⟩ := BoxAt.two hq; with_reducible have hr := BoxAt.below (BoxAt.new v2 _ _) hbb3; (try simp only [size_al] at hr); obtain ⟨r1', r2', r3', r4'⟩ := BoxAt.two hr; obtain ⟨g1, g2, g3, g4⟩ := far_twoL hq hr (by first | omega | (simp; omega) | simp); obtain ⟨g5, g6, g7, g8⟩ := far_twoL hr hq (by first | omega | (simp; omega) | simp)) | (with_reducible have hq := BoxAt.below (BoxAt.alloc (BoxAt.new v2 _ _) _) hbb3; (try simp only [size_al] at hq); obtain ⟨q1, q2, q3, q4⟩ := BoxAt.two hq; with_reducible have hr := BoxAt.below (BoxAt.new (v2.alloc _) _ _) hbb3; (try simp only [size_al] at hr); obtain ⟨r1', r2', r3', r4'⟩ := BoxAt.two hr; obtain ⟨g1, g2, g3, g4⟩ := far_twoL hq hr (by first | omega | (simp; omega) | simp); obtain ⟨g5, g6, g7, g8⟩ := far_twoL hr hq (by first | omega | (simp; omega) | simp)) | (with_reducible have hq := BoxAt.below (hk2 _ _ _ (hk1 _ _ _ (BoxAt.newd w2 _ _))) hbb3; (try simp only [size_al] at hq); obtain ⟨q1, q2, q3, q4⟩ := BoxAt.two hq; obtain ⟨q5, q6, q7, q8⟩ := BoxAt.two (BoxAt.alloc hq (.cells #[.int .i64 0, .slice none 0 0] 26)); have hqv := BoxAt.lt hq; obtain ⟨g1, g2, g3, g4⟩ := far_twoL (BoxAt.new v3 26 #[.int .i64 0, .slice none 0 0]) (BoxAt.alloc hq (.cells #[.int .i64 0, .slice none 0 0] 26)) (by omega); obtain ⟨g5, g6, g7, g8⟩ := far_twoL (BoxAt.alloc hq (.cells #[.int .i64 0, .slice none 0 0] 26)) (BoxAt.new v3 26 #[.int .i64 0, .slice none 0 0]) (by omega)) | (with_reducible have hq := BoxAt.below (hk2 _ _ _ (BoxAt.new v1 _ _)) hbb3; (try simp only [size_al] at hq); obtain ⟨q1, q2, q3, q4⟩ := BoxAt.two hq; obtain ⟨q5, q6, q7, q8⟩ := BoxAt.two (BoxAt.alloc hq (.cells #[.int .i64 0, .slice none 0 0] 26)); have hqv := BoxAt.lt hq; obtain ⟨g1, g2, g3, g4⟩ := far_twoL (BoxAt.new v3 26 #[.int .i64 0, .slice none 0 0]) (BoxAt.alloc hq (.cells #[.int .i64 0, .slice none 0 0] 26)) (by omega); obtain ⟨g5, g6, g7, g8⟩ := far_twoL (BoxAt.alloc hq (.cells #[.int .i64 0, .slice none 0 0] 26)) (BoxAt.new v3 26 #[.int .i64 0, .slice none 0 0]) (by omega)) | (with_reducible have hq := BoxAt.below (BoxAt.new v2 _ _) hbb3; (try simp only [size_al] at hq); obtain ⟨q1, q2, q3, q4⟩ := BoxAt.two hq; obtain ⟨q5, q6, q7, q8⟩ := BoxAt.two (BoxAt.alloc hq (.cells #[.int .i64 0, .slice none 0 0] 26)); have hqv := BoxAt.lt hq; obtain ⟨g1, g2, g3, g4⟩ := far_twoL (BoxAt.new v3 26 #[.int .i64 0, .slice none 0 0]) (BoxAt.alloc hq (.cells #[.int .i64 0, .slice none 0 0] 26)) (by omega); obtain ⟨g5, g6, g7, g8⟩ := far_twoL (BoxAt.alloc hq (.cells #[.int .i64 0, .slice none 0 0] 26)) (BoxAt.new v3 26 #[.int .i64 0, .slice none 0 0]) (by omega)) | skip)))
      all_goals
        go_wp2_with fail
        go_meet
        with_reducible first
        | exact ⟨rfl, _, ResD.mk0 (r := (⟨r1, r2, r4, r5, r3⟩ : DivRes)) hbz3 (by first | omega | (simp; omega) | simp) ho3 hc3 ho4 hc4⟩
        | exact ⟨rfl, _, ResD.mk0' (r := (⟨r1, r2, r4, r5, r3⟩ : DivRes)) hbz3 (by first | omega | (simp; omega) | simp) ho3 hc3 ho4 hc4⟩
        | exact ⟨rfl, _, ResD.mk1 (r := (⟨r1, r2, r4, r5, r3⟩ : DivRes)) hq (by first | omega | (simp; omega) | simp) hbz3 (by first | omega | (simp; omega) | simp) ho3 hc3 ho4 hc4⟩
        | exact ⟨rfl, _, ResD.mk1' (r := (⟨r1, r2, r4, r5, r3⟩ : DivRes)) hq (by first | omega | (simp; omega) | simp) hbz3 (by first | omega | (simp; omega) | simp) ho3 hc3 ho4 hc4⟩
        | exact ⟨rfl, _, ResD.mk2 (r := (⟨r1, r2, r4, r5, r3⟩ : DivRes)) hq hr (by first | omega | (simp; omega) | simp) (by first | omega | (simp; omega) | simp) (by first | omega | (simp; omega) | simp) hbz3 (by first | omega | (simp; omega) | simp) ho3 hc3 ho4 hc4⟩
        | exact ⟨rfl, _, ResD.mk2 (r := (⟨r1, r2, r4, r5, r3⟩ : DivRes)) hr hq (by first | omega | (simp; omega) | simp) (by first | omega | (simp; omega) | simp) (by first | omega | (simp; omega) | simp) hbz3 (by first | omega | (simp; omega) | simp) ho3 hc3 ho4 hc4⟩
    case rest => as_aux_lemma =>
      obtain ⟨rfl, hi6, hres⟩ := hcut
      obtain ⟨g6, a6, c6, g8, a8, c8, rfl, rfl, hg6, hh6, hg8, hh8, ⟨hx6, hc6, ho6⟩, hx8, hc8, ho8⟩ := hres.ex
      have hs6 := hres.size
      have hWs := hres.bel.size
      have hU := Lib.hid hres.bel
      have B6 := Lib.hid (show BoxAt _ g6 26 #[.int .i64 r1, .slice a6 r2.length c6] from hx6)
      have B8 := Lib.hid (show BoxAt _ g8 26 #[.int .i64 r4, .slice a8 r5.length c8] from hx8)
      have O6 := Lib.hid (show Own2 _ W0.heap.size hi6 a6 r2 from ho6)
      have O8 := Lib.hid (show Own2 _ W0.heap.size hi6 a8 r5 from ho8)
      have hr3 : (r3 != r3) = false := by simp
      clear hx8 ho8 hc8
      clear hres hx6 ho6 hc6 HSP hT HL
      clear hU1
      clear hU2
      clear k0 k1 k2 k3
      obtain ⟨x1_0, x1_1, x1_2, x1_3⟩ := SS.out _ hU.out
      go_wp2_with fail
      refine (HT0.out _ hU.out).mono ?_
      rintro e wx1 ⟨b0, d0, rfl, hd0, ho, hb, hz⟩
      have hsz_wx1 := hb.size
      (try simp at hsz_wx1)
      clear x1_0 x1_1 x1_2 x1_3
      have B6_2 := Lib.hid (B6.out.below hb)
      have B8_3 := Lib.hid (B8.out.below hb)
      have O6_4 := Lib.hid (O6.out.below hb (by first | omega | (simp; done) | (simp; omega)))
      have O8_5 := Lib.hid (O8.out.below hb (by first | omega | (simp; done) | (simp; omega)))
      clear B6 B8 O6 O8
      clear hU
      have hU_wx1 := Lib.hid hz
      have OX0 := Lib.hid ho
      have HD0 := Lib.hid hd0
      clear ho hb hz hd0
      have B6_6 := Lib.hid (B6_2.out.alloc (.cells #[.int .i64 s0, .slice b0 xs0.length d0] 26))
      have B8_7 := Lib.hid (B8_3.out.alloc (.cells #[.int .i64 s0, .slice b0 xs0.length d0] 26))
      have O6_8 := Lib.hid (O6_4.out.alloc (.cells #[.int .i64 s0, .slice b0 xs0.length d0] 26))
      have O8_9 := Lib.hid (O8_5.out.alloc (.cells #[.int .i64 s0, .slice b0 xs0.length d0] 26))
      have OX0_10 := Lib.hid (OX0.out.alloc (.cells #[.int .i64 s0, .slice b0 xs0.length d0] 26))
      clear B6_2 B8_3 O6_4 O8_5 OX0
      have hU_11 := Lib.hid (below_alloc hU_wx1.out (.cells #[.int .i64 s0, .slice b0 xs0.length d0] 26))
      clear hU_wx1
      have BX0 := Lib.hid (BoxAt.new wx1 26 #[.int .i64 s0, .slice b0 xs0.length d0])
      obtain ⟨x12_0, x12_1, x12_2, x12_3⟩ := SS.out _ hU_11.out
      go_wp2_with fail
      refine (HT1.out _ hU_11.out).mono ?_
      rintro e wx2 ⟨b1, d1, rfl, hd1, ho, hb, hz⟩
      have hsz_wx2 := hb.size
      (try simp at hsz_wx2)
      clear x12_0 x12_1 x12_2 x12_3
      have B6_13 := Lib.hid (B6_6.out.below hb)
      have B8_14 := Lib.hid (B8_7.out.below hb)
      have BX0_15 := Lib.hid (BX0.out.below hb)
      have O6_16 := Lib.hid (O6_8.out.below hb (by first | omega | (simp; done) | (simp; omega)))
      have O8_17 := Lib.hid (O8_9.out.below hb (by first | omega | (simp; done) | (simp; omega)))
      have OX0_18 := Lib.hid (OX0_10.out.below hb (by first | omega | (simp; done) | (simp; omega)))
      clear B6_6 B8_7 BX0 O6_8 O8_9 OX0_10
      clear hU_11
      have hU_wx2 := Lib.hid hz
      have OX1 := Lib.hid ho
      have HD1 := Lib.hid hd1
      clear ho hb hz hd1
      have B6_19 := Lib.hid (B6_13.out.alloc (.cells #[.int .i64 s1, .slice b1 xs1.length d1] 26))
      have B8_20 := Lib.hid (B8_14.out.alloc (.cells #[.int .i64 s1, .slice b1 xs1.length d1] 26))
      have BX0_21 := Lib.hid (BX0_15.out.alloc (.cells #[.int .i64 s1, .slice b1 xs1.length d1] 26))
      have O6_22 := Lib.hid (O6_16.out.alloc (.cells #[.int .i64 s1, .slice b1 xs1.length d1] 26))
      have O8_23 := Lib.hid (O8_17.out.alloc (.cells #[.int .i64 s1, .slice b1 xs1.length d1] 26))
      have OX0_24 := Lib.hid (OX0_18.out.alloc (.cells #[.int .i64 s1, .slice b1 xs1.length d1] 26))
      have OX1_25 := Lib.hid (OX1.out.alloc (.cells #[.int .i64 s1, .slice b1 xs1.length d1] 26))
      clear B6_13 B8_14 BX0_15 O6_16 O8_17 OX0_18 OX1
      have hU_26 := Lib.hid (below_alloc hU_wx2.out (.cells #[.int .i64 s1, .slice b1 xs1.length d1] 26))
      clear hU_wx2
      have BX1 := Lib.hid (BoxAt.new wx2 26 #[.int .i64 s1, .slice b1 xs1.length d1])
      obtain ⟨y27_0, y27_1, y27_2, y27_3⟩ := BX0_21.out.two
      obtain ⟨y28_0, y28_1, y28_2, y28_3⟩ := BX1.out.two
      go_wp2_with fail
      refine (HIM.out _ _ _ _ _ hU_26.out HD0.out HD1.out (Own2.own OX0_24.out).ints (Own2.own OX1_25.out).ints).mono ?_
      rintro e wg ⟨ag, cg, ah, ch, rfl, hcg, hch, ho, ho', hap, hb, hz⟩
      have hsz_g := hb.size
      (try simp at hsz_g)
      clear y27_0 y27_1 y27_2 y27_3 y28_0 y28_1 y28_2 y28_3
      have B6_29 := Lib.hid (B6_19.out.below hb)
      have B8_30 := Lib.hid (B8_20.out.below hb)
      have BX0_31 := Lib.hid (BX0_21.out.below hb)
      have BX1_32 := Lib.hid (BX1.out.below hb)
      have O6_33 := Lib.hid (O6_22.out.below hb (by first | omega | (simp; done) | (simp; omega)))
      have O8_34 := Lib.hid (O8_23.out.below hb (by first | omega | (simp; done) | (simp; omega)))
      have OX0_35 := Lib.hid (OX0_24.out.below hb (by first | omega | (simp; done) | (simp; omega)))
      have OX1_36 := Lib.hid (OX1_25.out.below hb (by first | omega | (simp; done) | (simp; omega)))
      clear B6_19 B8_20 BX0_21 BX1 O6_22 O8_23 OX0_24 OX1_25
      clear hU_26
      have hU_g := Lib.hid hz
      have OG := Lib.hid (Own2.of ho)
      have OH := Lib.hid (Own2.of ho')
      have HAP := Lib.hid hap
      have HCG := Lib.hid hcg
      clear ho ho' hb hz hcg hch hap
      have B6_37 := Lib.hid (B6_29.out.alloc (.cells #[.int .i64 r1, .slice ag r2.length cg] 26))
      have B8_38 := Lib.hid (B8_30.out.alloc (.cells #[.int .i64 r1, .slice ag r2.length cg] 26))
      have BX0_39 := Lib.hid (BX0_31.out.alloc (.cells #[.int .i64 r1, .slice ag r2.length cg] 26))
      have BX1_40 := Lib.hid (BX1_32.out.alloc (.cells #[.int .i64 r1, .slice ag r2.length cg] 26))
      have O6_41 := Lib.hid (O6_33.out.alloc (.cells #[.int .i64 r1, .slice ag r2.length cg] 26))
      have O8_42 := Lib.hid (O8_34.out.alloc (.cells #[.int .i64 r1, .slice ag r2.length cg] 26))
      have OX0_43 := Lib.hid (OX0_35.out.alloc (.cells #[.int .i64 r1, .slice ag r2.length cg] 26))
      have OX1_44 := Lib.hid (OX1_36.out.alloc (.cells #[.int .i64 r1, .slice ag r2.length cg] 26))
      have OG_45 := Lib.hid (OG.out.alloc (.cells #[.int .i64 r1, .slice ag r2.length cg] 26))
      have OH_46 := Lib.hid (OH.out.alloc (.cells #[.int .i64 r1, .slice ag r2.length cg] 26))
      clear B6_29 B8_30 BX0_31 BX1_32 O6_33 O8_34 OX0_35 OX1_36 OG OH
      have hU_47 := Lib.hid (below_alloc hU_g.out (.cells #[.int .i64 r1, .slice ag r2.length cg] 26))
      clear hU_g
      have BG := Lib.hid (BoxAt.new wg 26 #[.int .i64 r1, .slice ag r2.length cg])
      have B6_48 := Lib.hid (B6_37.out.alloc (.cells #[.int .i64 r4, .slice ah r5.length ch] 26))
      have B8_49 := Lib.hid (B8_38.out.alloc (.cells #[.int .i64 r4, .slice ah r5.length ch] 26))
      have BX0_50 := Lib.hid (BX0_39.out.alloc (.cells #[.int .i64 r4, .slice ah r5.length ch] 26))
      have BX1_51 := Lib.hid (BX1_40.out.alloc (.cells #[.int .i64 r4, .slice ah r5.length ch] 26))
      have BG_52 := Lib.hid (BG.out.alloc (.cells #[.int .i64 r4, .slice ah r5.length ch] 26))
      have O6_53 := Lib.hid (O6_41.out.alloc (.cells #[.int .i64 r4, .slice ah r5.length ch] 26))
      have O8_54 := Lib.hid (O8_42.out.alloc (.cells #[.int .i64 r4, .slice ah r5.length ch] 26))
      have OX0_55 := Lib.hid (OX0_43.out.alloc (.cells #[.int .i64 r4, .slice ah r5.length ch] 26))
      have OX1_56 := Lib.hid (OX1_44.out.alloc (.cells #[.int .i64 r4, .slice ah r5.length ch] 26))
      have OG_57 := Lib.hid (OG_45.out.alloc (.cells #[.int .i64 r4, .slice ah r5.length ch] 26))
      have OH_58 := Lib.hid (OH_46.out.alloc (.cells #[.int .i64 r4, .slice ah r5.length ch] 26))
      clear B6_37 B8_38 BX0_39 BX1_40 BG O6_41 O8_42 OX0_43 OX1_44 OG_45 OH_46
      have hU_59 := Lib.hid (below_alloc hU_47.out (.cells #[.int .i64 r4, .slice ah r5.length ch] 26))
      clear hU_47
      have BH0 := BoxAt.new (wg.alloc (.cells #[.int .i64 r1, .slice ag r2.length cg] 26)) 26 #[.int .i64 r4, .slice ah r5.length ch]
      simp only [size_al] at BH0
      have BH := Lib.hid BH0
      clear BH0
      obtain ⟨y60_0, y60_1, y60_2, y60_3⟩ := BG_52.out.two
      obtain ⟨y61_0, y61_1, y61_2, y61_3⟩ := B6_48.out.two
      go_wp2_with fail
      refine (eqWhole_yes r1 _ _ r2 _ _ _ rfl _ _ _ (Nat.le_refl _) (Nat.le_refl _) (Own2.own OG_57.out).ints (Own2.own O6_53.out).ints (by have := HR2.out.1; omega)).mono ?_
      rintro e we ⟨rfl, hb⟩
      have hsz_we := hb.size
      (try simp at hsz_we)
      clear y60_0 y60_1 y60_2 y60_3 y61_0 y61_1 y61_2 y61_3
      have hU_62 := Lib.hid (hU_59.out.trans (hb.mono hU_59.out.size))
      clear hU_59
      have B6_63 := Lib.hid (B6_48.out.below hb)
      have B8_64 := Lib.hid (B8_49.out.below hb)
      have BX0_65 := Lib.hid (BX0_50.out.below hb)
      have BX1_66 := Lib.hid (BX1_51.out.below hb)
      have BG_67 := Lib.hid (BG_52.out.below hb)
      have BH_68 := Lib.hid (BH.out.below hb)
      have O6_69 := Lib.hid (O6_53.out.below hb (by first | omega | (simp; done) | (simp; omega)))
      have O8_70 := Lib.hid (O8_54.out.below hb (by first | omega | (simp; done) | (simp; omega)))
      have OX0_71 := Lib.hid (OX0_55.out.below hb (by first | omega | (simp; done) | (simp; omega)))
      have OX1_72 := Lib.hid (OX1_56.out.below hb (by first | omega | (simp; done) | (simp; omega)))
      have OG_73 := Lib.hid (OG_57.out.below hb (by first | omega | (simp; done) | (simp; omega)))
      have OH_74 := Lib.hid (OH_58.out.below hb (by first | omega | (simp; done) | (simp; omega)))
      clear B6_48 B8_49 BX0_50 BX1_51 BG_52 BH O6_53 O8_54 OX0_55 OX1_56 OG_57 OH_58
      clear hb
      obtain ⟨y75_0, y75_1, y75_2, y75_3⟩ := BH_68.out.two
      obtain ⟨y76_0, y76_1, y76_2, y76_3⟩ := B8_64.out.two
      go_wp2_with fail
      refine (eqWhole_yes r4 _ _ r5 _ _ _ rfl _ _ _ (Nat.le_refl _) (Nat.le_refl _) (Own2.own OH_74.out).ints (Own2.own O8_70.out).ints (by have := HR2.out.2; omega)).mono ?_
      rintro e we2 ⟨rfl, hb⟩
      have hsz_we2 := hb.size
      (try simp at hsz_we2)
      clear y75_0 y75_1 y75_2 y75_3 y76_0 y76_1 y76_2 y76_3
      have hU_77 := Lib.hid (hU_62.out.trans (hb.mono hU_62.out.size))
      clear hU_62
      have B6_78 := Lib.hid (B6_63.out.below hb)
      have B8_79 := Lib.hid (B8_64.out.below hb)
      have BX0_80 := Lib.hid (BX0_65.out.below hb)
      have BX1_81 := Lib.hid (BX1_66.out.below hb)
      have BG_82 := Lib.hid (BG_67.out.below hb)
      have BH_83 := Lib.hid (BH_68.out.below hb)
      have O6_84 := Lib.hid (O6_69.out.below hb (by first | omega | (simp; done) | (simp; omega)))
      have O8_85 := Lib.hid (O8_70.out.below hb (by first | omega | (simp; done) | (simp; omega)))
      have OX0_86 := Lib.hid (OX0_71.out.below hb (by first | omega | (simp; done) | (simp; omega)))
      have OX1_87 := Lib.hid (OX1_72.out.below hb (by first | omega | (simp; done) | (simp; omega)))
      have OG_88 := Lib.hid (OG_73.out.below hb (by first | omega | (simp; done) | (simp; omega)))
      have OH_89 := Lib.hid (OH_74.out.below hb (by first | omega | (simp; done) | (simp; omega)))
      clear B6_63 B8_64 BX0_65 BX1_66 BG_67 BH_68 O6_69 O8_70 OX0_71 OX1_72 OG_73 OH_74
      clear hb
      obtain ⟨x90_0, x90_1, x90_2, x90_3⟩ := SS.out _ hU_77.out
      have SX := Lib.hid (show ∀ W, Below we2.heap.size we2 W → (W.cell? ⟨w.heap.size, 0, none⟩ = some (.int .i64 s0) ∧ W.cell? ⟨w.heap.size, 1, none⟩ = some (.slice a0 xs0.length c0) ∧ W.cell? ⟨w.heap.size + 1, 0, none⟩ = some (.int .i64 s1) ∧ W.cell? ⟨w.heap.size + 1, 1, none⟩ = some (.slice a1 xs1.length c1) ∧ W.cell? ⟨wx1.heap.size, 0, none⟩ = some (.int .i64 s0) ∧ W.cell? ⟨wx1.heap.size, 1, none⟩ = some (.slice b0 xs0.length d0)) from fun W hW => ⟨(SS.out _ (hU_77.out.trans (hW.mono hU_77.out.size))).1, (SS.out _ (hU_77.out.trans (hW.mono hU_77.out.size))).2.1, (SS.out _ (hU_77.out.trans (hW.mono hU_77.out.size))).2.2.1, (SS.out _ (hU_77.out.trans (hW.mono hU_77.out.size))).2.2.2, (BX0_80.out.below hW).cell 0, (BX0_80.out.below hW).cell 1⟩)
      have TX := Lib.hid (show ∀ W, Below we2.heap.size we2 W → Calls Try.prog 27 #[.agg #[.int .i64 s0, .slice a0 xs0.length c0]] W fun e w' => ∃ a' c', e = .returned (.agg #[.int .i64 s0, .slice a' xs0.length c']) ∧ Own w' W.heap.size a' xs0 ∧ Below we2.heap.size we2 w' from fun W hW => (HT0.out W (hU_77.out.trans (hW.mono hU_77.out.size))).mono fun e w' ⟨a, c, he, _, ho, hb, _⟩ => ⟨a, c, he, ho.own, hW.trans (hb.mono hW.size)⟩)
      have EX := Lib.hid (show ∀ a' c' lo W, Below we2.heap.size we2 W → Own W lo a' xs0 → Calls Try.prog 28 #[.agg #[.int .i64 s0, .slice b0 xs0.length d0], .agg #[.int .i64 s0, .slice a' xs0.length c']] W fun e w' => e = .returned (.bool true) ∧ Below we2.heap.size we2 w' from fun a' c' lo W hW ho => (eqWhole_yes s0 _ _ xs0 _ _ _ rfl _ _ _ hW.size (Nat.le_refl _) ((Own2.own OX0_86.out).ints.below hW) ho.ints (by have := HN0.out; omega)).mono fun e w' ⟨he, hb⟩ => ⟨he, hW.trans (hb.mono hW.size)⟩)
      have hTT : Below we2.heap.size we2 we2.drew := (Below.refl _ _).drew
      clear x90_0 x90_1 x90_2 x90_3
      go_wp2_with fail
      go_region_held3 (fun W => W.cell? ⟨w.heap.size, 0, none⟩ = some (.int .i64 s0) ∧ W.cell? ⟨w.heap.size, 1, none⟩ = some (.slice a0 xs0.length c0) ∧ W.cell? ⟨w.heap.size + 1, 0, none⟩ = some (.int .i64 s1) ∧ W.cell? ⟨w.heap.size + 1, 1, none⟩ = some (.slice a1 xs1.length c1) ∧ W.cell? ⟨wx1.heap.size, 0, none⟩ = some (.int .i64 s0) ∧ W.cell? ⟨wx1.heap.size, 1, none⟩ = some (.slice b0 xs0.length d0))
        (exact SX.out _ (by assumption))
        (first
        | (go_at_call 27; refine (TX.out _ (by assumption)).mono ?_; rintro e u1_0 ⟨e1, f1, rfl, ho1, hb1⟩)
        | (go_at_call 28; refine (EX.out _ _ _ _ (by assumption) (by assumption)).mono ?_; rintro e wd0 ⟨rfl, hbd⟩))
      have hsz_d0 := hbd.size
      have hU_91 := Lib.hid (hU_77.out.trans (hbd.mono hU_77.out.size))
      clear hU_77
      have B6_92 := Lib.hid (B6_78.out.below hbd)
      have B8_93 := Lib.hid (B8_79.out.below hbd)
      have BX0_94 := Lib.hid (BX0_80.out.below hbd)
      have BX1_95 := Lib.hid (BX1_81.out.below hbd)
      have BG_96 := Lib.hid (BG_82.out.below hbd)
      have BH_97 := Lib.hid (BH_83.out.below hbd)
      have O6_98 := Lib.hid (O6_84.out.below hbd (by first | omega | (simp; done) | (simp; omega)))
      have O8_99 := Lib.hid (O8_85.out.below hbd (by first | omega | (simp; done) | (simp; omega)))
      have OX0_100 := Lib.hid (OX0_86.out.below hbd (by first | omega | (simp; done) | (simp; omega)))
      have OX1_101 := Lib.hid (OX1_87.out.below hbd (by first | omega | (simp; done) | (simp; omega)))
      have OG_102 := Lib.hid (OG_88.out.below hbd (by first | omega | (simp; done) | (simp; omega)))
      have OH_103 := Lib.hid (OH_89.out.below hbd (by first | omega | (simp; done) | (simp; omega)))
      clear B6_78 B8_79 BX0_80 BX1_81 BG_82 BH_83 O6_84 O8_85 OX0_86 OX1_87 OG_88 OH_89
      clear ho1 hb1 hbd hTT SX TX EX
      obtain ⟨x104_0, x104_1, x104_2, x104_3⟩ := SS.out _ hU_91.out
      have SX := Lib.hid (show ∀ W, Below wd0.heap.size wd0 W → (W.cell? ⟨w.heap.size, 0, none⟩ = some (.int .i64 s0) ∧ W.cell? ⟨w.heap.size, 1, none⟩ = some (.slice a0 xs0.length c0) ∧ W.cell? ⟨w.heap.size + 1, 0, none⟩ = some (.int .i64 s1) ∧ W.cell? ⟨w.heap.size + 1, 1, none⟩ = some (.slice a1 xs1.length c1) ∧ W.cell? ⟨wx2.heap.size, 0, none⟩ = some (.int .i64 s1) ∧ W.cell? ⟨wx2.heap.size, 1, none⟩ = some (.slice b1 xs1.length d1)) from fun W hW => ⟨(SS.out _ (hU_91.out.trans (hW.mono hU_91.out.size))).1, (SS.out _ (hU_91.out.trans (hW.mono hU_91.out.size))).2.1, (SS.out _ (hU_91.out.trans (hW.mono hU_91.out.size))).2.2.1, (SS.out _ (hU_91.out.trans (hW.mono hU_91.out.size))).2.2.2, (BX1_95.out.below hW).cell 0, (BX1_95.out.below hW).cell 1⟩)
      have TX := Lib.hid (show ∀ W, Below wd0.heap.size wd0 W → Calls Try.prog 27 #[.agg #[.int .i64 s1, .slice a1 xs1.length c1]] W fun e w' => ∃ a' c', e = .returned (.agg #[.int .i64 s1, .slice a' xs1.length c']) ∧ Own w' W.heap.size a' xs1 ∧ Below wd0.heap.size wd0 w' from fun W hW => (HT1.out W (hU_91.out.trans (hW.mono hU_91.out.size))).mono fun e w' ⟨a, c, he, _, ho, hb, _⟩ => ⟨a, c, he, ho.own, hW.trans (hb.mono hW.size)⟩)
      have EX := Lib.hid (show ∀ a' c' lo W, Below wd0.heap.size wd0 W → Own W lo a' xs1 → Calls Try.prog 28 #[.agg #[.int .i64 s1, .slice b1 xs1.length d1], .agg #[.int .i64 s1, .slice a' xs1.length c']] W fun e w' => e = .returned (.bool true) ∧ Below wd0.heap.size wd0 w' from fun a' c' lo W hW ho => (eqWhole_yes s1 _ _ xs1 _ _ _ rfl _ _ _ hW.size (Nat.le_refl _) ((Own2.own OX1_101.out).ints.below hW) ho.ints (by have := HN1.out; omega)).mono fun e w' ⟨he, hb⟩ => ⟨he, hW.trans (hb.mono hW.size)⟩)
      have hTT : Below wd0.heap.size wd0 wd0.drew := (Below.refl _ _).drew
      clear x104_0 x104_1 x104_2 x104_3
      go_wp2_with fail
      go_region_held3 (fun W => W.cell? ⟨w.heap.size, 0, none⟩ = some (.int .i64 s0) ∧ W.cell? ⟨w.heap.size, 1, none⟩ = some (.slice a0 xs0.length c0) ∧ W.cell? ⟨w.heap.size + 1, 0, none⟩ = some (.int .i64 s1) ∧ W.cell? ⟨w.heap.size + 1, 1, none⟩ = some (.slice a1 xs1.length c1) ∧ W.cell? ⟨wx2.heap.size, 0, none⟩ = some (.int .i64 s1) ∧ W.cell? ⟨wx2.heap.size, 1, none⟩ = some (.slice b1 xs1.length d1))
        (exact SX.out _ (by assumption))
        (first
        | (go_at_call 27; refine (TX.out _ (by assumption)).mono ?_; rintro e u1_1 ⟨e1, f1, rfl, ho1, hb1⟩)
        | (go_at_call 28; refine (EX.out _ _ _ _ (by assumption) (by assumption)).mono ?_; rintro e wd1 ⟨rfl, hbd⟩))
      have hsz_d1 := hbd.size
      have hU_105 := Lib.hid (hU_91.out.trans (hbd.mono hU_91.out.size))
      clear hU_91
      have B6_106 := Lib.hid (B6_92.out.below hbd)
      have B8_107 := Lib.hid (B8_93.out.below hbd)
      have BX0_108 := Lib.hid (BX0_94.out.below hbd)
      have BX1_109 := Lib.hid (BX1_95.out.below hbd)
      have BG_110 := Lib.hid (BG_96.out.below hbd)
      have BH_111 := Lib.hid (BH_97.out.below hbd)
      have O6_112 := Lib.hid (O6_98.out.below hbd (by first | omega | (simp; done) | (simp; omega)))
      have O8_113 := Lib.hid (O8_99.out.below hbd (by first | omega | (simp; done) | (simp; omega)))
      have OX0_114 := Lib.hid (OX0_100.out.below hbd (by first | omega | (simp; done) | (simp; omega)))
      have OX1_115 := Lib.hid (OX1_101.out.below hbd (by first | omega | (simp; done) | (simp; omega)))
      have OG_116 := Lib.hid (OG_102.out.below hbd (by first | omega | (simp; done) | (simp; omega)))
      have OH_117 := Lib.hid (OH_103.out.below hbd (by first | omega | (simp; done) | (simp; omega)))
      clear B6_92 B8_93 BX0_94 BX1_95 BG_96 BH_97 O6_98 O8_99 OX0_100 OX1_101 OG_102 OH_103
      clear ho1 hb1 hbd hTT SX TX EX
      skip
      obtain ⟨y118_0, y118_1, y118_2, y118_3⟩ := BX0_108.out.two
      go_wp2_with fail
      refine (markWhole s0 _ xs0 _ (1) _ _ (by have := HN0.out; omega) (Own2.own OX0_114.out) (by omega) (by have := HN0.out; have := HN1.out;  omega)).mono ?_
      rintro e wm0 ⟨rfl, hom, row, hgr, hrow⟩
      have hrw := Own2.row_ge OX0_114.out rfl hrow
      have hsz_wm0 := hgr.size
      clear y118_0 y118_1 y118_2 y118_3
      have B6_119 := Lib.hid (B6_106.out.grown hgr (fun e => by have := hrw _ e.symm; (try simp only [size_al] at this); (try simp only [size_al]); omega))
      have B8_120 := Lib.hid (B8_107.out.grown hgr (fun e => by have := hrw _ e.symm; (try simp only [size_al] at this); (try simp only [size_al]); omega))
      have BX0_121 := Lib.hid (BX0_108.out.grown hgr (fun e => by have := hrw _ e.symm; (try simp only [size_al] at this); (try simp only [size_al]); omega))
      have BX1_122 := Lib.hid (BX1_109.out.grown hgr (fun e => by have := hrw _ e.symm; (try simp only [size_al] at this); (try simp only [size_al]); omega))
      have BG_123 := Lib.hid (BG_110.out.grown hgr (fun e => by have := hrw _ e.symm; (try simp only [size_al] at this); (try simp only [size_al]); omega))
      have BH_124 := Lib.hid (BH_111.out.grown hgr (fun e => by have := hrw _ e.symm; (try simp only [size_al] at this); (try simp only [size_al]); omega))
      have O6_125 := Lib.hid (O6_112.out.grown hgr (fun g e => by have := hrw g e; (try simp only [size_al] at this); (try simp only [size_al]); omega))
      have O8_126 := Lib.hid (O8_113.out.grown hgr (fun g e => by have := hrw g e; (try simp only [size_al] at this); (try simp only [size_al]); omega))
      have OX1_127 := Lib.hid (OX1_115.out.grown hgr (fun g e => by have := hrw g e; (try simp only [size_al] at this); (try simp only [size_al]); omega))
      have OG_128 := Lib.hid (OG_116.out.grown hgr (fun g e => by have := hrw g e; (try simp only [size_al] at this); (try simp only [size_al]); omega))
      have OH_129 := Lib.hid (OH_117.out.grown hgr (fun g e => by have := hrw g e; (try simp only [size_al] at this); (try simp only [size_al]); omega))
      clear B6_106 B8_107 BX0_108 BX1_109 BG_110 BH_111 O6_112 O8_113 OX1_115 OG_116 OH_117
      have hU_130 := Lib.hid (hU_105.out.trans (below_of_grown hgr hU_105.out.size (fun g e => by have := hrw g e; (try simp only [size_al] at this); have := hWs; omega)))
      clear hU_105
      clear hgr hrow hrw
      clear OX0_114
      clear hom
      obtain ⟨y131_0, y131_1, y131_2, y131_3⟩ := BX1_122.out.two
      go_wp2_with fail
      refine (markWhole s1 _ xs1 _ (1 + (xs0.length : Int)) _ _ (by have := HN1.out; omega) (Own2.own OX1_127.out) (by omega) (by have := HN0.out; have := HN1.out;  omega)).mono ?_
      rintro e wm1 ⟨rfl, hom, row, hgr, hrow⟩
      have hrw := Own2.row_ge OX1_127.out rfl hrow
      have hsz_wm1 := hgr.size
      clear y131_0 y131_1 y131_2 y131_3
      have B6_132 := Lib.hid (B6_119.out.grown hgr (fun e => by have := hrw _ e.symm; (try simp only [size_al] at this); (try simp only [size_al]); omega))
      have B8_133 := Lib.hid (B8_120.out.grown hgr (fun e => by have := hrw _ e.symm; (try simp only [size_al] at this); (try simp only [size_al]); omega))
      have BX0_134 := Lib.hid (BX0_121.out.grown hgr (fun e => by have := hrw _ e.symm; (try simp only [size_al] at this); (try simp only [size_al]); omega))
      have BX1_135 := Lib.hid (BX1_122.out.grown hgr (fun e => by have := hrw _ e.symm; (try simp only [size_al] at this); (try simp only [size_al]); omega))
      have BG_136 := Lib.hid (BG_123.out.grown hgr (fun e => by have := hrw _ e.symm; (try simp only [size_al] at this); (try simp only [size_al]); omega))
      have BH_137 := Lib.hid (BH_124.out.grown hgr (fun e => by have := hrw _ e.symm; (try simp only [size_al] at this); (try simp only [size_al]); omega))
      have O6_138 := Lib.hid (O6_125.out.grown hgr (fun g e => by have := hrw g e; (try simp only [size_al] at this); (try simp only [size_al]); omega))
      have O8_139 := Lib.hid (O8_126.out.grown hgr (fun g e => by have := hrw g e; (try simp only [size_al] at this); (try simp only [size_al]); omega))
      have OG_140 := Lib.hid (OG_128.out.grown hgr (fun g e => by have := hrw g e; (try simp only [size_al] at this); (try simp only [size_al]); omega))
      have OH_141 := Lib.hid (OH_129.out.grown hgr (fun g e => by have := hrw g e; (try simp only [size_al] at this); (try simp only [size_al]); omega))
      clear B6_119 B8_120 BX0_121 BX1_122 BG_123 BH_124 O6_125 O8_126 OG_128 OH_129
      have hU_142 := Lib.hid (hU_130.out.trans (below_of_grown hgr hU_130.out.size (fun g e => by have := hrw g e; (try simp only [size_al] at this); have := hWs; omega)))
      clear hU_130
      clear hgr hrow hrw
      clear OX1_127
      clear hom
      have hmneg : decide (1 + (xs0.length : Int) + (xs1.length : Int) < 0) = false := decide_eq_false (by omega)
      obtain ⟨y143_0, y143_1, y143_2, y143_3⟩ := BG_136.out.two
      obtain ⟨y144_0, y144_1, y144_2, y144_3⟩ := B6_132.out.two
      go_wp2_with fail
      refine (eqWhole_yes r1 _ _ r2 _ _ _ rfl _ _ _ (Nat.le_refl _) (Nat.le_refl _) (Own2.own OG_140.out).ints (Own2.own O6_138.out).ints (by have := HR2.out.1; omega)).mono ?_
      rintro e wf ⟨rfl, hb⟩
      have hsz_wf := hb.size
      (try simp at hsz_wf)
      clear y143_0 y143_1 y143_2 y143_3 y144_0 y144_1 y144_2 y144_3
      have hU_145 := Lib.hid (hU_142.out.trans (hb.mono hU_142.out.size))
      clear hU_142
      have B6_146 := Lib.hid (B6_132.out.below hb)
      have B8_147 := Lib.hid (B8_133.out.below hb)
      have BX0_148 := Lib.hid (BX0_134.out.below hb)
      have BX1_149 := Lib.hid (BX1_135.out.below hb)
      have BG_150 := Lib.hid (BG_136.out.below hb)
      have BH_151 := Lib.hid (BH_137.out.below hb)
      have O6_152 := Lib.hid (O6_138.out.below hb (by first | omega | (simp; done) | (simp; omega)))
      have O8_153 := Lib.hid (O8_139.out.below hb (by first | omega | (simp; done) | (simp; omega)))
      have OG_154 := Lib.hid (OG_140.out.below hb (by first | omega | (simp; done) | (simp; omega)))
      have OH_155 := Lib.hid (OH_141.out.below hb (by first | omega | (simp; done) | (simp; omega)))
      clear B6_132 B8_133 BX0_134 BX1_135 BG_136 BH_137 O6_138 O8_139 OG_140 OH_141
      clear hb
      obtain ⟨y156_0, y156_1, y156_2, y156_3⟩ := BH_151.out.two
      obtain ⟨y157_0, y157_1, y157_2, y157_3⟩ := B8_147.out.two
      go_wp2_with fail
      refine (eqWhole_yes r4 _ _ r5 _ _ _ rfl _ _ _ (Nat.le_refl _) (Nat.le_refl _) (Own2.own OH_155.out).ints (Own2.own O8_153.out).ints (by have := HR2.out.2; omega)).mono ?_
      rintro e wf2 ⟨rfl, hb⟩
      have hsz_wf2 := hb.size
      (try simp at hsz_wf2)
      clear y156_0 y156_1 y156_2 y156_3 y157_0 y157_1 y157_2 y157_3
      have hU_158 := Lib.hid (hU_145.out.trans (hb.mono hU_145.out.size))
      clear hU_145
      have B6_159 := Lib.hid (B6_146.out.below hb)
      have B8_160 := Lib.hid (B8_147.out.below hb)
      have BX0_161 := Lib.hid (BX0_148.out.below hb)
      have BX1_162 := Lib.hid (BX1_149.out.below hb)
      have BG_163 := Lib.hid (BG_150.out.below hb)
      have BH_164 := Lib.hid (BH_151.out.below hb)
      have O6_165 := Lib.hid (O6_152.out.below hb (by first | omega | (simp; done) | (simp; omega)))
      have O8_166 := Lib.hid (O8_153.out.below hb (by first | omega | (simp; done) | (simp; omega)))
      have OG_167 := Lib.hid (OG_154.out.below hb (by first | omega | (simp; done) | (simp; omega)))
      have OH_168 := Lib.hid (OH_155.out.below hb (by first | omega | (simp; done) | (simp; omega)))
      clear B6_146 B8_147 BX0_148 BX1_149 BG_150 BH_151 O6_152 O8_153 OG_154 OH_155
      clear hb
      obtain ⟨y169_0, y169_1, y169_2, y169_3⟩ := BG_163.out.two
      go_wp2_with fail
      refine (markWhole r1 _ r2 _ 1 _ _ (by have := HR2.out.1; omega) (Own2.own OG_167.out) (by omega) (by omega)).mono ?_
      rintro e wk ⟨rfl, hom, row, hgr, hrow⟩
      have hrw := Own2.row_ge OG_167.out rfl hrow
      have hsz_wk := hgr.size
      have OHn := Lib.hid (Own2.grownA OH_168.out hgr HAP.out rfl hrow)
      clear y169_0 y169_1 y169_2 y169_3
      have B6_170 := Lib.hid (B6_159.out.grown hgr (fun e => by have := hrw _ e.symm; (try simp only [size_al] at this); (try simp only [size_al]); omega))
      have B8_171 := Lib.hid (B8_160.out.grown hgr (fun e => by have := hrw _ e.symm; (try simp only [size_al] at this); (try simp only [size_al]); omega))
      have BX0_172 := Lib.hid (BX0_161.out.grown hgr (fun e => by have := hrw _ e.symm; (try simp only [size_al] at this); (try simp only [size_al]); omega))
      have BX1_173 := Lib.hid (BX1_162.out.grown hgr (fun e => by have := hrw _ e.symm; (try simp only [size_al] at this); (try simp only [size_al]); omega))
      have BG_174 := Lib.hid (BG_163.out.grown hgr (fun e => by have := hrw _ e.symm; (try simp only [size_al] at this); (try simp only [size_al]); omega))
      have BH_175 := Lib.hid (BH_164.out.grown hgr (fun e => by have := hrw _ e.symm; (try simp only [size_al] at this); (try simp only [size_al]); omega))
      have O6_176 := Lib.hid (O6_165.out.grown hgr (fun g e => by have := hrw g e; (try simp only [size_al] at this); (try simp only [size_al]); omega))
      have O8_177 := Lib.hid (O8_166.out.grown hgr (fun g e => by have := hrw g e; (try simp only [size_al] at this); (try simp only [size_al]); omega))
      clear B6_159 B8_160 BX0_161 BX1_162 BG_163 BH_164 O6_165 O8_166
      have hU_178 := Lib.hid (hU_158.out.trans (below_of_grown hgr hU_158.out.size (fun g e => by have := hrw g e; (try simp only [size_al] at this); have := hWs; omega)))
      clear hU_158
      clear hgr hrow hrw OG_167 OH_168
      have OM := Lib.hid hom
      clear hom
      obtain ⟨y179_0, y179_1, y179_2, y179_3⟩ := BH_175.out.two
      go_wp2_with fail
      refine (markWhole r4 _ r5 _ (1 + (r2.length : Int)) _ _ (by have := HR2.out.2; omega) (Own2.own OHn.out) (by omega) (by have := HR2.out.1; omega)).mono ?_
      rintro e wk2 ⟨rfl, hom, row, hgr, hrow⟩
      have hrw := Own2.row_ge OHn.out rfl hrow
      have hsz_wk2 := hgr.size
      have OMn := Lib.hid (Own.grownA (ys := r2) OM.out (marks_length _ _) hgr HAP.out rfl hrow)
      clear OM
      have OM := OMn
      clear OMn
      clear y179_0 y179_1 y179_2 y179_3
      have B6_180 := Lib.hid (B6_170.out.grown hgr (fun e => by have := hrw _ e.symm; (try simp only [size_al] at this); (try simp only [size_al]); omega))
      have B8_181 := Lib.hid (B8_171.out.grown hgr (fun e => by have := hrw _ e.symm; (try simp only [size_al] at this); (try simp only [size_al]); omega))
      have BX0_182 := Lib.hid (BX0_172.out.grown hgr (fun e => by have := hrw _ e.symm; (try simp only [size_al] at this); (try simp only [size_al]); omega))
      have BX1_183 := Lib.hid (BX1_173.out.grown hgr (fun e => by have := hrw _ e.symm; (try simp only [size_al] at this); (try simp only [size_al]); omega))
      have BG_184 := Lib.hid (BG_174.out.grown hgr (fun e => by have := hrw _ e.symm; (try simp only [size_al] at this); (try simp only [size_al]); omega))
      have BH_185 := Lib.hid (BH_175.out.grown hgr (fun e => by have := hrw _ e.symm; (try simp only [size_al] at this); (try simp only [size_al]); omega))
      have O6_186 := Lib.hid (O6_176.out.grown hgr (fun g e => by have := hrw g e; (try simp only [size_al] at this); (try simp only [size_al]); omega))
      have O8_187 := Lib.hid (O8_177.out.grown hgr (fun g e => by have := hrw g e; (try simp only [size_al] at this); (try simp only [size_al]); omega))
      clear B6_170 B8_171 BX0_172 BX1_173 BG_174 BH_175 O6_176 O8_177
      have hU_188 := Lib.hid (hU_178.out.trans (below_of_grown hgr hU_178.out.size (fun g e => by have := hrw g e; (try simp only [size_al] at this); have := hWs; omega)))
      clear hU_178
      clear hgr hrow hrw OHn
      have ON := Lib.hid hom
      clear hom HAP
      have hmneg2 : decide ((1 : Int) + (r2.length : Int) < 0) = false := decide_eq_false (by omega)
      have hmneg3 : decide ((1 : Int) + (r2.length : Int) + (r5.length : Int) < 0) = false := decide_eq_false (by omega)
      have hmne : ((1 : Int) + (r2.length : Int) + (r5.length : Int) != (1 : Int) + (r2.length : Int) + (r5.length : Int)) = false := by simp
      obtain ⟨y189_0, y189_1, y189_2, y189_3⟩ := BG_184.out.two
      go_wp2_with fail
      refine (heldWhole r1 _ r2.length _ 1 _ _ (Nat.le_refl _) (by have := HR2.out.1; omega) OM.out.ints (by omega) (by omega)).mono ?_
      rintro e wh ⟨rfl, hb⟩
      have hsz_wh := hb.size
      clear y189_0 y189_1 y189_2 y189_3
      have OMn := Lib.hid (OM.out.below hb)
      clear OM
      have OM := OMn
      clear OMn
      have ONn := Lib.hid (ON.out.below hb)
      clear ON
      have ON := ONn
      clear ONn
      have hU_190 := Lib.hid (hU_188.out.trans (hb.mono hU_188.out.size))
      clear hU_188
      have B6_191 := Lib.hid (B6_180.out.below hb)
      have B8_192 := Lib.hid (B8_181.out.below hb)
      have BX0_193 := Lib.hid (BX0_182.out.below hb)
      have BX1_194 := Lib.hid (BX1_183.out.below hb)
      have BG_195 := Lib.hid (BG_184.out.below hb)
      have BH_196 := Lib.hid (BH_185.out.below hb)
      have O6_197 := Lib.hid (O6_186.out.below hb (by first | omega | (simp; done) | (simp; omega)))
      have O8_198 := Lib.hid (O8_187.out.below hb (by first | omega | (simp; done) | (simp; omega)))
      clear B6_180 B8_181 BX0_182 BX1_183 BG_184 BH_185 O6_186 O8_187
      clear hb
      obtain ⟨y199_0, y199_1, y199_2, y199_3⟩ := BH_196.out.two
      go_wp2_with fail
      refine (heldWhole r4 _ r5.length _ (1 + (r2.length : Int)) _ _ (Nat.le_refl _) (by have := HR2.out.2; omega) ON.out.ints (by omega) (by have := HR2.out.1; omega)).mono ?_
      rintro e whh ⟨rfl, hb⟩
      have hsz_whh := hb.size
      clear y199_0 y199_1 y199_2 y199_3
      have OMn := Lib.hid (OM.out.below hb)
      clear OM
      have OM := OMn
      clear OMn
      have ONn := Lib.hid (ON.out.below hb)
      clear ON
      have ON := ONn
      clear ONn
      have hU_200 := Lib.hid (hU_190.out.trans (hb.mono hU_190.out.size))
      clear hU_190
      have B6_201 := Lib.hid (B6_191.out.below hb)
      have B8_202 := Lib.hid (B8_192.out.below hb)
      have BX0_203 := Lib.hid (BX0_193.out.below hb)
      have BX1_204 := Lib.hid (BX1_194.out.below hb)
      have BG_205 := Lib.hid (BG_195.out.below hb)
      have BH_206 := Lib.hid (BH_196.out.below hb)
      have O6_207 := Lib.hid (O6_197.out.below hb (by first | omega | (simp; done) | (simp; omega)))
      have O8_208 := Lib.hid (O8_198.out.below hb (by first | omega | (simp; done) | (simp; omega)))
      clear B6_191 B8_192 BX0_193 BX1_194 BG_195 BH_196 O6_197 O8_198
      clear hb
      obtain ⟨x209_0, x209_1, x209_2, x209_3⟩ := SS.out _ hU_200.out
      have hV : Below whh.heap.size whh whh := Below.refl _ _
      have SV := Lib.hid (show ∀ W, Below whh.heap.size whh W → (W.cell? ⟨w.heap.size, 0, none⟩ = some (.int .i64 s0) ∧ W.cell? ⟨w.heap.size, 1, none⟩ = some (.slice a0 xs0.length c0) ∧ W.cell? ⟨w.heap.size + 1, 0, none⟩ = some (.int .i64 s1) ∧ W.cell? ⟨w.heap.size + 1, 1, none⟩ = some (.slice a1 xs1.length c1)) from fun W hW => SS.out _ (hU_200.out.trans (hW.mono hU_200.out.size)))
      have TV0 := Lib.hid (show ∀ W, Below whh.heap.size whh W → Calls Try.prog 27 #[.agg #[.int .i64 s0, .slice a0 xs0.length c0]] W fun e w' => ∃ a' c', e = .returned (.agg #[.int .i64 s0, .slice a' xs0.length c']) ∧ xs0.length ≤ c' ∧ Own2 w' W.heap.size w'.heap.size a' xs0 ∧ Below W.heap.size W w' ∧ Below whh.heap.size whh w' from fun W hW => (HT0.out W (hU_200.out.trans (hW.mono hU_200.out.size))).mono fun e w' ⟨a, c, he, hc, ho, hb, _⟩ => ⟨a, c, he, hc, ho, hb, hW.trans (hb.mono hW.size)⟩)
      have TV1 := Lib.hid (show ∀ W, Below whh.heap.size whh W → Calls Try.prog 27 #[.agg #[.int .i64 s1, .slice a1 xs1.length c1]] W fun e w' => ∃ a' c', e = .returned (.agg #[.int .i64 s1, .slice a' xs1.length c']) ∧ xs1.length ≤ c' ∧ Own2 w' W.heap.size w'.heap.size a' xs1 ∧ Below W.heap.size W w' ∧ Below whh.heap.size whh w' from fun W hW => (HT1.out W (hU_200.out.trans (hW.mono hU_200.out.size))).mono fun e w' ⟨a, c, he, hc, ho, hb, _⟩ => ⟨a, c, he, hc, ho, hb, hW.trans (hb.mono hW.size)⟩)
      have IV := Lib.hid (show ∀ (b0 : Option Addr) (d0 : Nat) (b1 : Option Addr) (d1 : Nat) W, Below whh.heap.size whh W → xs0.length ≤ d0 → xs1.length ≤ d1 → Ints W W.heap.size b0 xs0 → Ints W W.heap.size b1 xs1 → Calls Try.prog 9 #[.agg #[.int .i64 s0, .slice b0 xs0.length d0], .agg #[.int .i64 s1, .slice b1 xs1.length d1]] W fun e w' => ∃ a c a' c', e = .returned (.tuple #[.agg #[.int .i64 r1, .slice a r2.length c], .agg #[.int .i64 r4, .slice a' r5.length c'], .int .i64 r3]) ∧ r2.length ≤ c ∧ r5.length ≤ c' ∧ Own w' W.heap.size a r2 ∧ Own w' W.heap.size a' r5 ∧ Apart a a' r2 r5 ∧ Below W.heap.size W w' ∧ Below whh.heap.size whh w' from fun b0 d0 b1 d1 W hW h0 h1 i0 i1 => (HIM.out b0 d0 b1 d1 W (hU_200.out.trans (hW.mono hU_200.out.size)) h0 h1 i0 i1).mono fun e w' ⟨a, c, a', c', he, hc, hc', ho, ho', hap, hb, _⟩ => ⟨a, c, a', c', he, hc, hc', ho, ho', hap, hb, hW.trans (hb.mono hW.size)⟩)
      go_wp2_with fail
      go_cut [17, 18, 19] (fun p p' q W => q = .int .i64 r3 ∧ ∃ hi, ResD whh W p p' (⟨r1, r2, r4, r5, r3⟩ : DivRes) hi)
      case first => as_aux_lemma =>
        clear B6_201 B8_202 BX0_203 BX1_204 BG_205 BH_206 O6_207 O8_208 OM ON HIM HT0 HT1
        obtain ⟨z0, z1, z2, z3⟩ := SV.out _ hV
        go_wp2_with fail
        clear z0 z1 z2 z3
        have hTd := hV.drew
        have hTd1 := (below_alloc hV (.cells #[.int .i64 0, .slice none 0 0] 26)).drew
        have hTd2 := (below_alloc (below_alloc hV (.cells #[.int .i64 0, .slice none 0 0] 26)) (.cells #[.int .i64 0, .slice none 0 0] 26)).drew
        have hsz0 := hV.size
        skip
        have z1 : ∀ W : World, ((W.alloc (.cells #[.int .i64 0, .slice none 0 0] 26)).alloc (.cells #[.int .i64 0, .slice none 0 0] 26)).cell? ⟨W.heap.size, 0, none⟩ = some (.int .i64 0) := fun W => ((BoxAt.new W _ _).alloc _).cell 0
        have z2 : ∀ W : World, ((W.alloc (.cells #[.int .i64 0, .slice none 0 0] 26)).alloc (.cells #[.int .i64 0, .slice none 0 0] 26)).cell? ⟨W.heap.size, 1, none⟩ = some (.slice none 0 0) := fun W => ((BoxAt.new W _ _).alloc _).cell 1
        have z3 : ∀ W : World, ((W.alloc (.cells #[.int .i64 0, .slice none 0 0] 26)).alloc (.cells #[.int .i64 0, .slice none 0 0] 26)).frozen? ⟨W.heap.size, 0, none⟩ = false := fun W => ((BoxAt.new W _ _).alloc _).frozen 0
        have z4 : ∀ W : World, ((W.alloc (.cells #[.int .i64 0, .slice none 0 0] 26)).alloc (.cells #[.int .i64 0, .slice none 0 0] 26)).frozen? ⟨W.heap.size, 1, none⟩ = false := fun W => ((BoxAt.new W _ _).alloc _).frozen 1
        go_region_held3 (fun W => W.cell? ⟨w.heap.size, 0, none⟩ = some (.int .i64 s0) ∧ W.cell? ⟨w.heap.size, 1, none⟩ = some (.slice a0 xs0.length c0) ∧ W.cell? ⟨w.heap.size + 1, 0, none⟩ = some (.int .i64 s1) ∧ W.cell? ⟨w.heap.size + 1, 1, none⟩ = some (.slice a1 xs1.length c1))
          (with_reducible first | exact SV.out _ (by assumption) | exact SV.out _ (below_alloc (by assumption) _) | exact SV.out _ (below_alloc (below_alloc (by assumption) _) _) | exact SV.out _ (by repeat (first | assumption | refine below_set2 ?_ (by first | omega | (simp; omega) | simp) _ _ | refine below_alloc ?_ _)))
          (first
          | (go_at_call 27; with_reducible refine (TV0.out _ (by with_reducible first | assumption | exact below_alloc (by assumption) _ | exact below_alloc (below_alloc (by assumption) _) _)).mono ?_; rintro e v1 ⟨e1, f1, rfl, hc1, ho1, hbb1, hbz1⟩; have hsz1 := hbz1.size; have hsy1 := hbb1.size; (try simp at hsy1); have hk1 := fun g v0 v1 (h : BoxAt _ g 26 #[v0, v1]) => BoxAt.below h hbb1)
          | (go_at_call 27; with_reducible refine (TV1.out _ (by with_reducible first | assumption | exact below_alloc (by assumption) _ | exact below_alloc (below_alloc (by assumption) _) _)).mono ?_; rintro e v2 ⟨e2, f2, rfl, hc2, ho2, hbb2, hbz2⟩; have hsz2 := hbz2.size; have hsy2 := hbb2.size; (try simp at hsy2); have hk2 := fun g v0 v1 (h : BoxAt _ g 26 #[v0, v1]) => BoxAt.below h hbb2; have ho12 := Own2.below (by with_reducible first | exact ho1 | exact Own2.alloc ho1 _ | exact Own2.alloc (Own2.alloc ho1 _) _) hbb2 (by first | (simp; done) | (simp; omega) | omega))
          | (go_at_call 9; with_reducible refine (IV.out _ _ _ _ _ (by with_reducible first | assumption | exact below_alloc (by assumption) _ | exact below_alloc (below_alloc (by assumption) _) _) hc1 hc2 (by with_reducible first | exact (Own2.own ho12).ints | exact (Own2.own (Own2.alloc ho12 _)).ints | exact (Own2.own (Own2.alloc (Own2.alloc ho12 _) _)).ints) (by with_reducible first | exact (Own2.own ho2).ints | exact (Own2.own (Own2.alloc ho2 _)).ints | exact (Own2.own (Own2.alloc (Own2.alloc ho2 _) _)).ints)).mono ?_; rintro e v3 ⟨e3, f3, e4, f4, rfl, hc3, hc4, ho3, ho4, hap3, hbb3, hbz3⟩; have hsz3 := hbz3.size; have hsy3 := hbb3.size; (try simp at hsy3); (first | (with_reducible have hq := BoxAt.below (hk2 _ _ _ (hk1 _ _ _ (boxDrew (BoxAt.alloc (BoxAt.new whh _ _) _)))) hbb3; (try simp only [size_al] at hq); obtain ⟨q1, q2, q3, q4⟩ := BoxAt.two hq; with_reducible have hr := BoxAt.below (hk2 _ _ _ (hk1 _ _ _ (BoxAt.newd (whh.alloc _) _ _))) hbb3; (try simp only [size_al] at hr); obtain ⟨r1', r2', r3', r4'⟩ := BoxAt.two hr; obtain ⟨g1, g2, g3, g4⟩ := far_twoL hq hr (by first | omega | (simp; omega) | simp); obtain ⟨g5, g6, g7, g8⟩ := far_twoL hr hq (by first | omega | (simp; omega) | simp)) | (with_reducible have hq := BoxAt.below (hk2 _ _ _ (BoxAt.alloc (hk1 _ _ _ (BoxAt.newd whh _ _)) _)) hbb3; (try simp only [size_al] at hq); obtain ⟨q1, q2, q3, q4⟩ := BoxAt.two hq; with_reducible have hr := BoxAt.below (hk2 _ _ _ (BoxAt.new v1 _ _)) hbb3; (try simp only [size_al] at hr); obtain ⟨r1', r2', r3', r4'⟩ := BoxAt.two hr; obtain ⟨g1, g2, g3, g4⟩ := far_twoL hq hr (by first | omega | (simp; omega) | simp); obtain ⟨g5, g6, g7, g8⟩ := far_twoL hr hq (by first | omega | (simp; omega) | simp)) | (with_reducible have hq := BoxAt.below (BoxAt.alloc (hk2 _ _ _ (hk1 _ _ _ (BoxAt.newd whh _ _))) _) hbb3; (try simp only [size_al] at hq); obtain ⟨q1, q2, q3, q4⟩ := BoxAt.two hq; with_reducible have hr := BoxAt.below (BoxAt.new v2 _ _) hbb3; (try simp only [size_al] at hr); obtain ⟨r1', r2', r3', r4'⟩ := BoxAt.two hr; obtain ⟨g1, g2, g3, g4⟩ := far_twoL hq hr (by first | omega | (simp; omega) | simp); obtain ⟨g5, g6, g7, g8⟩ := far_twoL hr hq (by first | omega | (simp; omega) | simp)) | (with_reducible have hq := BoxAt.below (hk2 _ _ _ (BoxAt.alloc (BoxAt.new v1 _ _) _)) hbb3; (try simp only [size_al] at hq); obtain ⟨q1, q2, q3, q4⟩ := BoxAt.two hq; with_reducible have hr := BoxAt.below (hk2 _ _ _ (BoxAt.new (v1.alloc _) _ _)) hbb3; (try simp only [size_al] at hr); obtain ⟨r1', r2', r3', r4'⟩ := BoxAt.two hr; obtain ⟨g1, g2, g3, g4⟩ := far_twoL hq hr (by first | omega | (simp; omega) | simp); obtain ⟨g5, g6, g7, g8⟩ := far_twoL hr hq (by first | omega | (simp; omega) | simp)) | (with_reducible have hq := BoxAt.below (BoxAt.alloc (hk2 _ _ _ (BoxAt.new v1 _ _)) _) hbb3; (try simp only [size_al] at hq); obtain ⟨q1, q2, q3, q4⟩ := BoxAt.two hq; with_reducible have hr := BoxAt.below (BoxAt.new v2 _ _) hbb3; (try simp only [size_al] at hr); obtain ⟨r1', r2', r3', r4'⟩ := BoxAt.two hr; obtain ⟨g1, g2, g3, g4⟩ := far_twoL hq hr (by first | omega | (simp; omega) | simp); obtain ⟨g5, g6, g7, g8⟩ := far_twoL hr hq (by first | omega | (simp; omega) | simp)) | (with_reducible have hq := BoxAt.below (BoxAt.alloc (BoxAt.new v2 _ _) _) hbb3; (try simp only [size_al] at hq); obtain ⟨q1, q2, q3, q4⟩ := BoxAt.two hq; with_reducible have hr := BoxAt.below (BoxAt.new (v2.alloc _) _ _) hbb3; (try simp only [size_al] at hr); obtain ⟨r1', r2', r3', r4'⟩ := BoxAt.two hr; obtain ⟨g1, g2, g3, g4⟩ := far_twoL hq hr (by first | omega | (simp; omega) | simp); obtain ⟨g5, g6, g7, g8⟩ := far_twoL hr hq (by first | omega | (simp; omega) | simp)) | (with_reducible have hq := BoxAt.below (hk2 _ _ _ (hk1 _ _ _ (BoxAt.newd whh _ _))) hbb3; (try simp only [size_al] at hq); obtain ⟨q1, q2, q3, q4⟩ := BoxAt.two hq; obtain ⟨q5, q6, q7, q8⟩ := BoxAt.two (BoxAt.alloc hq (.cells #[.int .i64 0, .slice none 0 0] 26)); have hqv := BoxAt.lt hq; obtain ⟨g1, g2, g3, g4⟩ := far_twoL (BoxAt.new v3 26 #[.int .i64 0, .slice none 0 0]) (BoxAt.alloc hq (.cells #[.int .i64 0, .slice none 0 0] 26)) (by omega); obtain ⟨g5, g6, g7, g8⟩ := far_twoL (BoxAt.alloc hq (.cells #[.int .i64 0, .slice none 0 0] 26)) (BoxAt.new v3 26 #[.int .i64 0, .slice none 0 0]) (by omega)) | (with_reducible have hq := BoxAt.below (hk2 _ _ _ (BoxAt.new v1 _ _)) hbb3; (try simp only [size_al] at hq); obtain ⟨q1, q2, q3, q4⟩ := BoxAt.two hq; obtain ⟨q5, q6, q7, q8⟩ := BoxAt.two (BoxAt.alloc hq (.cells #[.int .i64 0, .slice none 0 0] 26)); have hqv := BoxAt.lt hq; obtain ⟨g1, g2, g3, g4⟩ := far_twoL (BoxAt.new v3 26 #[.int .i64 0, .slice none 0 0]) (BoxAt.alloc hq (.cells #[.int .i64 0, .slice none 0 0] 26)) (by omega); obtain ⟨g5, g6, g7, g8⟩ := far_twoL (BoxAt.alloc hq (.cells #[.int .i64 0, .slice none 0 0] 26)) (BoxAt.new v3 26 #[.int .i64 0, .slice none 0 0]) (by omega)) | (with_reducible have hq := BoxAt.below (BoxAt.new v2 _ _) hbb3; (try simp only [size_al] at hq); obtain ⟨q1, q2, q3, q4⟩ := BoxAt.two hq; obtain ⟨q5, q6, q7, q8⟩ := BoxAt.two (BoxAt.alloc hq (.cells #[.int .i64 0, .slice none 0 0] 26)); have hqv := BoxAt.lt hq; obtain ⟨g1, g2, g3, g4⟩ := far_twoL (BoxAt.new v3 26 #[.int .i64 0, .slice none 0 0]) (BoxAt.alloc hq (.cells #[.int .i64 0, .slice none 0 0] 26)) (by omega); obtain ⟨g5, g6, g7, g8⟩ := far_twoL (BoxAt.alloc hq (.cells #[.int .i64 0, .slice none 0 0] 26)) (BoxAt.new v3 26 #[.int .i64 0, .slice none 0 0]) (by omega)) | skip)))
        all_goals
          go_wp2_with fail
          go_meet
          with_reducible first
          | exact ⟨rfl, _, ResD.mk0 (r := (⟨r1, r2, r4, r5, r3⟩ : DivRes)) hbz3 (by first | omega | (simp; omega) | simp) ho3 hc3 ho4 hc4⟩
          | exact ⟨rfl, _, ResD.mk0' (r := (⟨r1, r2, r4, r5, r3⟩ : DivRes)) hbz3 (by first | omega | (simp; omega) | simp) ho3 hc3 ho4 hc4⟩
          | exact ⟨rfl, _, ResD.mk1 (r := (⟨r1, r2, r4, r5, r3⟩ : DivRes)) hq (by first | omega | (simp; omega) | simp) hbz3 (by first | omega | (simp; omega) | simp) ho3 hc3 ho4 hc4⟩
          | exact ⟨rfl, _, ResD.mk1' (r := (⟨r1, r2, r4, r5, r3⟩ : DivRes)) hq (by first | omega | (simp; omega) | simp) hbz3 (by first | omega | (simp; omega) | simp) ho3 hc3 ho4 hc4⟩
          | exact ⟨rfl, _, ResD.mk2 (r := (⟨r1, r2, r4, r5, r3⟩ : DivRes)) hq hr (by first | omega | (simp; omega) | simp) (by first | omega | (simp; omega) | simp) (by first | omega | (simp; omega) | simp) hbz3 (by first | omega | (simp; omega) | simp) ho3 hc3 ho4 hc4⟩
          | exact ⟨rfl, _, ResD.mk2 (r := (⟨r1, r2, r4, r5, r3⟩ : DivRes)) hr hq (by first | omega | (simp; omega) | simp) (by first | omega | (simp; omega) | simp) (by first | omega | (simp; omega) | simp) hbz3 (by first | omega | (simp; omega) | simp) ho3 hc3 ho4 hc4⟩
      case rest => as_aux_lemma =>
        obtain ⟨rfl, hi7, hres⟩ := hcut
        obtain ⟨g7, a7, c7, g9, a9, c9, rfl, rfl, hg7, hh7, hg9, hh9, ⟨hx7, hc7, ho7⟩, hx9, hc9, ho9⟩ := hres.ex
        have hs7 := hres.size
        have hb7 := hres.bel
        have hsz7 := hb7.size
        have B7 := Lib.hid (show BoxAt _ g7 26 #[.int .i64 r1, .slice a7 r2.length c7] from hx7)
        have B9 := Lib.hid (show BoxAt _ g9 26 #[.int .i64 r4, .slice a9 r5.length c9] from hx9)
        have O7 := Lib.hid (Own2.own (show Own2 _ _ hi7 a7 r2 from ho7))
        have O9 := Lib.hid (Own2.own (show Own2 _ _ hi7 a9 r5 from ho9))
        have OMn := Lib.hid (OM.out.below hb7)
        clear OM
        have OM := OMn
        clear OMn
        have ONn := Lib.hid (ON.out.below hb7)
        clear ON
        have ON := ONn
        clear ONn
        have hU_210 := Lib.hid (hU_200.out.trans (hb7.mono hU_200.out.size))
        clear hU_200
        have B6_211 := Lib.hid (B6_201.out.below hb7)
        have B8_212 := Lib.hid (B8_202.out.below hb7)
        have BX0_213 := Lib.hid (BX0_203.out.below hb7)
        have BX1_214 := Lib.hid (BX1_204.out.below hb7)
        have BG_215 := Lib.hid (BG_205.out.below hb7)
        have BH_216 := Lib.hid (BH_206.out.below hb7)
        have O6_217 := Lib.hid (O6_207.out.below hb7 (by first | omega | (simp; done) | (simp; omega)))
        have O8_218 := Lib.hid (O8_208.out.below hb7 (by first | omega | (simp; done) | (simp; omega)))
        clear B6_201 B8_202 BX0_203 BX1_204 BG_205 BH_206 O6_207 O8_208
        clear hres hx7 ho7 hc7 hx9 ho9 hc9 hb7 SV TV0 TV1 IV
        obtain ⟨m0, m1, m2, m3⟩ := B7.out.two
        obtain ⟨m4, m5, m6, m7⟩ := B6_211.out.two
        go_wp2_with fail
        refine (eqWhole_yes r1 _ _ r2 _ _ _ rfl _ _ _ (Nat.le_refl _) (Nat.le_refl _) O7.out.ints (Own2.own O6_217.out).ints (by have := HR2.out.1; omega)).mono ?_
        rintro e wy ⟨rfl, hb⟩
        have hsz_wy := hb.size
        clear m0 m1 m2 m3 m4 m5 m6 m7
        have B9n := Lib.hid (B9.out.below hb)
        have O9n := Lib.hid (O9.out.below hb)
        have OMn := Lib.hid (OM.out.below hb)
        clear OM
        have OM := OMn
        clear OMn
        have ONn := Lib.hid (ON.out.below hb)
        clear ON
        have ON := ONn
        clear ONn
        have hU_219 := Lib.hid (hU_210.out.trans (hb.mono hU_210.out.size))
        clear hU_210
        have B6_220 := Lib.hid (B6_211.out.below hb)
        have B8_221 := Lib.hid (B8_212.out.below hb)
        have BX0_222 := Lib.hid (BX0_213.out.below hb)
        have BX1_223 := Lib.hid (BX1_214.out.below hb)
        have BG_224 := Lib.hid (BG_215.out.below hb)
        have BH_225 := Lib.hid (BH_216.out.below hb)
        have O6_226 := Lib.hid (O6_217.out.below hb (by first | omega | (simp; done) | (simp; omega)))
        have O8_227 := Lib.hid (O8_218.out.below hb (by first | omega | (simp; done) | (simp; omega)))
        clear B6_211 B8_212 BX0_213 BX1_214 BG_215 BH_216 O6_217 O8_218
        clear hb B9 O9
        obtain ⟨m0, m1, m2, m3⟩ := B9n.out.two
        obtain ⟨m4, m5, m6, m7⟩ := B8_221.out.two
        go_wp2_with fail
        refine (eqWhole_yes r4 _ _ r5 _ _ _ rfl _ _ _ (Nat.le_refl _) (Nat.le_refl _) O9n.out.ints (Own2.own O8_227.out).ints (by have := HR2.out.2; omega)).mono ?_
        rintro e wy2 ⟨rfl, hb⟩
        have hsz_wy2 := hb.size
        clear m0 m1 m2 m3 m4 m5 m6 m7 B9n O9n
        have OMn := Lib.hid (OM.out.below hb)
        clear OM
        have OM := OMn
        clear OMn
        have ONn := Lib.hid (ON.out.below hb)
        clear ON
        have ON := ONn
        clear ONn
        have hU_228 := Lib.hid (hU_219.out.trans (hb.mono hU_219.out.size))
        clear hU_219
        have BG_229 := Lib.hid (BG_224.out.below hb)
        have BH_230 := Lib.hid (BH_225.out.below hb)
        clear BG_224 BH_225
        clear hb
        obtain ⟨y231_0, y231_1, y231_2, y231_3⟩ := BG_229.out.two
        go_wp2_with fail
        refine (heldWhole r1 _ r2.length _ 1 _ _ (Nat.le_refl _) (by have := HR2.out.1; omega) OM.out.ints (by omega) (by omega)).mono ?_
        rintro e wz ⟨rfl, hb⟩
        have hsz_wz := hb.size
        clear y231_0 y231_1 y231_2 y231_3
        have OMn := Lib.hid (OM.out.below hb)
        clear OM
        have OM := OMn
        clear OMn
        have ONn := Lib.hid (ON.out.below hb)
        clear ON
        have ON := ONn
        clear ONn
        have hU_232 := Lib.hid (hU_228.out.trans (hb.mono hU_228.out.size))
        clear hU_228
        have BG_233 := Lib.hid (BG_229.out.below hb)
        have BH_234 := Lib.hid (BH_230.out.below hb)
        clear BG_229 BH_230
        clear hb
        obtain ⟨y235_0, y235_1, y235_2, y235_3⟩ := BH_234.out.two
        go_wp2_with fail
        refine (heldWhole r4 _ r5.length _ (1 + (r2.length : Int)) _ _ (Nat.le_refl _) (by have := HR2.out.2; omega) ON.out.ints (by omega) (by have := HR2.out.1; omega)).mono ?_
        rintro e wzh ⟨rfl, hb⟩
        have hsz_wzh := hb.size
        clear y235_0 y235_1 y235_2 y235_3
        have OMn := Lib.hid (OM.out.below hb)
        clear OM
        have OM := OMn
        clear OMn
        have ONn := Lib.hid (ON.out.below hb)
        clear ON
        have ON := ONn
        clear ONn
        have hU_236 := Lib.hid (hU_232.out.trans (hb.mono hU_232.out.size))
        clear hU_232
        have BG_237 := Lib.hid (BG_233.out.below hb)
        have BH_238 := Lib.hid (BH_234.out.below hb)
        clear BG_233 BH_234
        clear hb
        go_wp2_with fail
        go_ret
        exact ⟨rfl, P3.out.trans (hU_236.out.mono (by have := P4.out; omega))⟩
  · have hT : Below w.heap.size w w := Below.refl _ _
    obtain ⟨W0, hW0⟩ : ∃ W0 : World, ((w.alloc (.cells #[.int .i64 s0, .slice a0 xs0.length c0] 41)).alloc (.cells #[.int .i64 s1, .slice a1 xs1.length c1] 41)) = W0 := ⟨_, rfl⟩
    obtain ⟨p0, p1, p8, p9⟩ := two_box w 41 #[.int .i64 s0, .slice a0 xs0.length c0] #[.int .i64 s1, .slice a1 xs1.length c1]
    rw [hW0] at p0 p1 p8 p9
    have HW0 := Lib.hid hW0
    have P3 := Lib.hid p8
    have P4 := Lib.hid p9
    have SS := Lib.hid (show ∀ W, Below W0.heap.size W0 W → (W.cell? ⟨w.heap.size, 0, none⟩ = some (.int .i64 s0) ∧ W.cell? ⟨w.heap.size, 1, none⟩ = some (.slice a0 xs0.length c0) ∧ W.cell? ⟨w.heap.size + 1, 0, none⟩ = some (.int .i64 s1) ∧ W.cell? ⟨w.heap.size + 1, 1, none⟩ = some (.slice a1 xs1.length c1)) from fun W hW => ⟨(p0.below hW).cell 0, (p0.below hW).cell 1, (p1.below hW).cell 0, (p1.below hW).cell 1⟩)
    clear hT hW0 p8 p9 p0 p1 hx0 hx1
    by_cases hf : (xs0.length : Int) ≤ 1048576
    · have hn : decide (1048576 - (xs0.length : Int) < 0) = false := decide_eq_false (by omega)
      go_enter Try.func4, Try.ntmps4
      go_wp2_with fail
      rw [HW0.out]
      refine (szWhole_ok s0 a0 xs0.length c0 (1048576) _ (by omega) (by omega)).mono ?_
      rintro e w1 ⟨rfl, hb⟩
      have hU1 : Below W0.heap.size W0 w1 := Below.trans (Below.refl W0.heap.size W0) (hb.mono (Below.size (Below.refl W0.heap.size W0)))
      clear hb
      obtain ⟨k0, k1, k2, k3⟩ := SS.out _ hU1
      go_wp2_with fail
      refine (szWhole_no s1 a1 xs1.length c1 (1048576 - (xs0.length : Int)) _ (by omega) hl1 (by omega) (by omega)).mono ?_
      rintro e wq ⟨rfl, hb⟩
      have hB := Lib.hid (P3.out.trans ((Below.trans hU1 (hb.mono (Below.size hU1))).mono (by have := P4.out; omega)))
      clear hb
      go_wp2_with fail
      go_ret
      exact ⟨rfl, hB.out⟩
    · have hn : True := trivial
      go_enter Try.func4, Try.ntmps4
      go_wp2_with fail
      rw [HW0.out]
      refine (szWhole_no s0 a0 xs0.length c0 (1048576) _ (by omega) hl0 (by omega) (by omega)).mono ?_
      rintro e wq ⟨rfl, hb⟩
      have hB := Lib.hid (P3.out.trans ((Below.trans (Below.refl W0.heap.size W0) (hb.mono (Below.size (Below.refl W0.heap.size W0)))).mono (by have := P4.out; omega)))
      clear hb
      go_wp2_with fail
      go_ret
      exact ⟨rfl, hB.out⟩
end Go.Proofs.Ytebkpaonmeokgaa
