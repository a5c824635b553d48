/-
  Contracts: reduced of the program, l03Make of the model. Conditions: the limbs can be read; the library's table is as its initialiser lays it.
-/
import Derived.Test.YtofjpalehcdmfaaDoorQb
namespace Go.Proofs.YtofjpalehcdmfaaDoor
set_option linter.unusedVariables false
open Go Go.RowKit

set_option maxRecDepth 100000 in
set_option maxHeartbeats 4000000 in
theorem iReduced (s : Int) (a : Option Addr) (m c1 : Nat) (x : Int) (w : World) (B : Nat) (hB : B ≤ w.heap.size) (hx : Ints w B a (lim m)) (hs : Sg s m) (hl : (lim m).length ≤ 1048000) (h1 : -1000000000 ≤ x) (h2 : x ≤ 1000000000) (hTab : Tab w) :
    Calls Tryd.prog 117 #[.agg #[.int .i64 s, .slice a (lim m).length c1], .int .i64 x] w (RetYR (redS s m x) w) := by
  obtain ⟨W0, hW0⟩ : ∃ W0 : World, (w.alloc (.cells #[.int .i64 s, .slice a (lim m).length c1] 26)).alloc (.cells #[.int .i64 0, .slice none 0 0, .int .i64 0] 50) = W0 := ⟨_, rfl⟩
  obtain ⟨p1, p2, p3, p4⟩ := two_boxT w 26 50 #[.int .i64 s, .slice a (lim m).length c1] #[.int .i64 0, .slice none 0 0, .int .i64 0]
  rw [hW0] at p1 p2 p3 p4
  have HW0 := Lib.hid hW0
  have P3 := Lib.hid p3
  have P4 := Lib.hid p4
  have HTB := Lib.hid (show ∀ W, Below W0.heap.size W0 W → Tab W from fun W hW => (hTab.below p3).below hW)
  clear hTab
  have SS := Lib.hid (show ∀ W, Below W0.heap.size W0 W → (W.cell? ⟨w.heap.size, 0, none⟩ = some (.int .i64 s) ∧ W.cell? ⟨w.heap.size, 1, none⟩ = some (.slice a (lim m).length c1)) from
    fun W hW => ⟨(p1.below hW).cell 0, (p1.below hW).cell 1⟩)
  have SR := Lib.hid (show ∀ W, Below W0.heap.size W0 W → _ from fun W hW => (p2.below hW).tri6)
  have hT : Below W0.heap.size W0 W0 := Below.refl _ _
  have HS := Lib.hid (show ∀ W, Below W0.heap.size W0 W → Calls Tryd.prog 79 #[.agg #[.int .i64 s, .slice a (lim m).length c1]] W fun e w' => e = .returned (.slice a (lim m).length c1) ∧ Below W0.heap.size W0 w' from
    fun W hW => (iSize s a _ c1 W).mono fun e w' ⟨he, hb⟩ => ⟨he, hW.trans (hb.mono hW.size)⟩)
  have HTW := Lib.hid (show ∀ W, Below W0.heap.size W0 W → Calls Tryd.prog 100 #[.slice a (lim m).length c1] W fun e w' => e = .returned (.int .i64 (tw m : Int)) ∧ W = w' from
    fun W hW => iTwos a m c1 W B (hx.below ((p3.mono hB).trans (hW.mono (by omega)))) (by omega) (HTB.out W hW))
  have HTL := Lib.hid (show tw m ≤ 25165824 from by
    by_cases h0 : m = 0
    · subst h0; rw [tw_zero]; omega
    · have := tw_len h0; rw [← lim_length] at this; omega)
  have htl := HTL.out
  obtain ⟨k1, k2⟩ := SS.out _ hT
  by_cases h0 : m = 0
  · obtain ⟨q1, q2, q3, q4, q5, q6⟩ := SR.out _ hT
    subst h0
    have hs0 : s = 0 := by unfold Sg at hs; omega
    subst hs0
    rw [redS_zero]
    clear p1 p2 p3 p4 hx hW0 hB hl htl hs HTW
    go_enter Tryd.func117, Tryd.ntmps117
    go_wp2_with fail
    rw [HW0.out]
    go_wp2_with fail
    refine bodyPost_ret (v := .agg #[.int .i64 0, .slice none 0 0, .int .i64 0]) (by simp [results, Tryd.results117, go_sem, *]) rfl ?_
    first
    | exact ⟨none, 0, rfl, Nat.le_refl _, Own.nil, P3.out⟩
    | exact retYR_zero (g := w.heap.size + 1) P3.out P4.out hT (by omega) _ _ _
  · have hs0 : (s == 0) = false := by
      have : s ≠ 0 := by unfold Sg at hs; omega
      simpa using this
    rw [redS_pos h0]
    have HSH := Lib.hid (show ∀ W, Below W0.heap.size W0 W → Calls Tryd.prog 94 #[.agg #[.int .i64 s, .slice a (lim m).length c1], .int .i64 (-(tw m : Int))] W fun e w' => ∃ a c, e = .returned (.agg #[.int .i64 s, .slice a (lim (od m)).length c]) ∧ (lim (od m)).length ≤ c ∧ Own w' W0.heap.size a (lim (od m)) ∧ Below W0.heap.size W0 w' from
      fun W hW => by
        have h := iShZ s a m c1 (-(tw m : Int)) W B (by have := hW.size; omega) (hx.below ((p3.mono hB).trans (hW.mono (by omega)))) hs hl (by omega) (by omega) (HTB.out W hW)
        rw [shZ_tw h0] at h
        obtain ⟨e1, e2⟩ := (hs.od h0).eq rfl
        unfold RetZ at h
        rw [← e1, ← e2] at h
        exact h.mono fun e w' ⟨a, c, he, hc, ho, hb⟩ => ⟨a, c, he, hc, ho.mono hW.size, hW.trans (hb.mono hW.size)⟩)
    obtain ⟨t, ht⟩ : ∃ t : Nat, t = tw m := ⟨_, rfl⟩
    rw [← ht] at HTW HSH htl ⊢
    have htI : (t : Int) ≤ 25165824 := by omega
    obtain ⟨y, hy⟩ : ∃ y : Int, y = x + (t : Int) := ⟨_, rfl⟩
    have hwr : IntKind.i64.wrap (x + (t : Int)) = y := by rw [hy, IntKind.wrap_i64]; omega
    have hwr2 : wrap64 (x + (t : Int)) = y := by rw [hy]; unfold wrap64; omega
    rw [← hy]
    clear p1 p2 p3 p4 hx hW0 hB hl htl hs h0 ht HTL hy
    go_enter Tryd.func117, Tryd.ntmps117
    go_wp2_with fail
    rw [HW0.out]
    refine (HS.out _ hT).mono ?_
    rintro e w1 ⟨rfl, hb1⟩
    clear k1 k2
    go_wp2_with fail
    refine (HTW.out _ hb1).mono ?_
    rintro e w2 ⟨rfl, rfl⟩
    obtain ⟨k1, k2⟩ := SS.out _ hb1
    go_wp2_with fail
    refine (HSH.out _ hb1).mono ?_
    rintro e w3 ⟨a3, c3, rfl, hc3, ho3, hb3⟩
    obtain ⟨q1, q2, q3, q4, q5, q6⟩ := SR.out _ hb3
    have HC3 := Lib.hid hc3
    have HO3 := Lib.hid ho3
    clear hc3 ho3 k1 k2
    go_wp2_with fail
    refine bodyPost_ret (v := .agg #[.int .i64 s, .slice a3 (lim (od m)).length c3, .int .i64 y]) (by simp [results, Tryd.results117, go_sem, *]) rfl ?_
    exact retYR_end (g := w.heap.size + 1) (r := (s, lim (od m), y)) P3.out P4.out hb3 (by omega) (by omega) _ _ _ HO3.out HC3.out

set_option maxRecDepth 100000 in
set_option maxHeartbeats 4000000 in
theorem sMake3 (s : Int) (a : Option Addr) (m c1 : Nat) (x : Int) (w : World) (B : Nat) (hB : B ≤ w.heap.size) (hx : Ints w B a (lim m)) (hs : Sg s m) (hl : (lim m).length ≤ 1048000) (h1 : -1000000000 ≤ x) (h2 : x ≤ 1000000000) :
    Calls Tryd.prog 114 #[.agg #[.int .i64 s, .slice a (lim m).length c1], .int .i64 x] w (RetYR (redS s m x) w) := by
  obtain ⟨W0, hW0⟩ : ∃ W0 : World, (w.alloc (.cells #[.int .i64 s, .slice a (lim m).length c1] 26)).alloc (.cells #[.int .i64 0, .slice none 0 0, .int .i64 0] 50) = W0 := ⟨_, rfl⟩
  obtain ⟨p1, p2, p3, p4⟩ := two_boxT w 26 50 #[.int .i64 s, .slice a (lim m).length c1] #[.int .i64 0, .slice none 0 0, .int .i64 0]
  rw [hW0] at p1 p2 p3 p4
  have HW0 := Lib.hid hW0
  have P3 := Lib.hid p3
  have P4 := Lib.hid p4
  have SS := Lib.hid (show ∀ W, Below W0.heap.size W0 W → (W.cell? ⟨w.heap.size, 0, none⟩ = some (.int .i64 s) ∧ W.cell? ⟨w.heap.size, 1, none⟩ = some (.slice a (lim m).length c1)) from
    fun W hW => ⟨(p1.below hW).cell 0, (p1.below hW).cell 1⟩)
  have SR := Lib.hid (show ∀ W, Below W0.heap.size W0 W → _ from fun W hW => (p2.below hW).tri6)
  have hT : Below W0.heap.size W0 W0 := Below.refl _ _
  have HTW := Lib.hid (show m ≠ 0 → ∀ W, Below W0.heap.size W0 W → Calls Tryd.prog 101 #[.agg #[.int .i64 s, .slice a (lim m).length c1]] W fun e w' => e = .returned (.int .i64 (tw m : Int)) ∧ Below W0.heap.size W0 w' from
    fun h0 W hW => (sTwos s a m c1 W B (by have := hW.size; omega) (hx.below ((p3.mono hB).trans (hW.mono (by omega)))) (by omega) h0).mono fun e w' ⟨he, hb⟩ => ⟨he, hW.trans (hb.mono hW.size)⟩)
  have HTL := Lib.hid (show tw m ≤ 25165824 from by
    by_cases h0 : m = 0
    · subst h0; rw [tw_zero]; omega
    · have := tw_len h0; rw [← lim_length] at this; omega)
  have htl := HTL.out
  obtain ⟨k1, k2⟩ := SS.out _ hT
  by_cases h0 : m = 0
  · obtain ⟨q1, q2, q3, q4, q5, q6⟩ := SR.out _ hT
    subst h0
    have hs0 : s = 0 := by unfold Sg at hs; omega
    subst hs0
    rw [redS_zero]
    clear p1 p2 p3 p4 hx hW0 hB hl htl hs HTW
    go_enter Tryd.func114, Tryd.ntmps114
    go_wp2_with fail
    rw [HW0.out]
    go_wp2_with fail
    refine bodyPost_ret (v := .agg #[.int .i64 0, .slice none 0 0, .int .i64 0]) (by simp [results, Tryd.results114, go_sem, *]) rfl ?_
    first
    | exact ⟨none, 0, rfl, Nat.le_refl _, Own.nil, P3.out⟩
    | exact retYR_zero (g := w.heap.size + 1) P3.out P4.out hT (by omega) _ _ _
  · have hs0 : (s == 0) = false := by
      have : s ≠ 0 := by unfold Sg at hs; omega
      simpa using this
    rw [redS_pos h0]
    have HTW := Lib.hid (HTW.out h0)
    have HSH := Lib.hid (show ∀ W, Below W0.heap.size W0 W → Calls Tryd.prog 153 #[.agg #[.int .i64 s, .slice a (lim m).length c1], .int .i64 (tw m : Int)] W fun e w' => ∃ a c, e = .returned (.agg #[.int .i64 s, .slice a (lim (od m)).length c]) ∧ (lim (od m)).length ≤ c ∧ Own w' W0.heap.size a (lim (od m)) ∧ Below W0.heap.size W0 w' from
      fun W hW => by
        have h := sCut s a m c1 (tw m) W B (by have := hW.size; omega) (hx.below ((p3.mono hB).trans (hW.mono (by omega)))) (by omega) (by omega)
        change Calls _ _ _ _ (RetN (sgnOf s (od m)) (od m) W) at h
        rw [sgnOf_pos (show od m ≠ 0 by have := od_pos h0; omega)] at h
        exact h.mono fun e w' ⟨a, c, he, hc, ho, hb⟩ => ⟨a, c, he, hc, ho.mono hW.size, hW.trans (hb.mono hW.size)⟩)
    obtain ⟨t, ht⟩ : ∃ t : Nat, t = tw m := ⟨_, rfl⟩
    rw [← ht] at HTW HSH htl ⊢
    have htI : (t : Int) ≤ 25165824 := by omega
    obtain ⟨y, hy⟩ : ∃ y : Int, y = x + (t : Int) := ⟨_, rfl⟩
    have hwr : IntKind.i64.wrap (x + (t : Int)) = y := by rw [hy, IntKind.wrap_i64]; omega
    have hwr2 : wrap64 (x + (t : Int)) = y := by rw [hy]; unfold wrap64; omega
    rw [← hy]
    clear p1 p2 p3 p4 hx hW0 hB hl htl hs h0 ht HTL hy
    go_enter Tryd.func114, Tryd.ntmps114
    go_wp2_with fail
    rw [HW0.out]
    refine (HTW.out _ hT).mono ?_
    rintro e w1 ⟨rfl, hb1⟩
    clear k1 k2
    obtain ⟨k1, k2⟩ := SS.out _ hb1
    go_wp2_with fail
    refine (HSH.out _ hb1).mono ?_
    rintro e w3 ⟨a3, c3, rfl, hc3, ho3, hb3⟩
    obtain ⟨q1, q2, q3, q4, q5, q6⟩ := SR.out _ hb3
    have HC3 := Lib.hid hc3
    have HO3 := Lib.hid ho3
    clear hc3 ho3 k1 k2
    go_wp2_with fail
    refine bodyPost_ret (v := .agg #[.int .i64 s, .slice a3 (lim (od m)).length c3, .int .i64 y]) (by simp [results, Tryd.results114, go_sem, *]) rfl ?_
    exact retYR_end (g := w.heap.size + 1) (r := (s, lim (od m), y)) P3.out P4.out hb3 (by omega) (by omega) _ _ _ HO3.out HC3.out
end Go.Proofs.YtofjpalehcdmfaaDoor
