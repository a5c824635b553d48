/-
  Contracts: MakeDyadic of the program and of the model. Conditions: the limbs can be read; the library's table is as its initialiser lays it.
-/
import Derived.Test.YtofjpalehcdmfaaDoorQc
namespace Go.Proofs.YtofjpalehcdmfaaDoor
set_option linter.unusedVariables false
open Go Go.RowKit

noncomputable def mkY (s : Int) (xs : List Int) (k : Int) : Int × List Int × Int × Int := @ite _ (IsWh s xs) (Classical.propDecidable _) (if -10000 ≤ k ∧ k ≤ 10000 then fitY (redS s (val (xs.map Int.toNat)) k) else (0, [], 0, 2)) (0, [], 0, 1)
theorem mkY_yes {s k : Int} {m : Nat} (h : IsWh s (lim m)) (h1 : -10000 ≤ k ∧ k ≤ 10000) : mkY s (lim m) k = fitY (redS s m k) := by unfold mkY; rw [if_pos h, if_pos h1, val_lim]
theorem mkY_rng {s : Int} {xs : List Int} {k : Int} (h : IsWh s xs) (h1 : ¬ (-10000 ≤ k ∧ k ≤ 10000)) : mkY s xs k = (0, [], 0, 2) := by unfold mkY; rw [if_pos h, if_neg h1]
theorem mkY_no {s : Int} {xs : List Int} {k : Int} (h : ¬ IsWh s xs) : mkY s xs k = (0, [], 0, 1) := by unfold mkY; rw [if_neg h]
theorem mkY_len (s : Int) (xs : List Int) (k : Int) : (mkY s xs k).2.1.length ≤ 200 := by
  unfold mkY
  split
  · split
    · exact fitY_len _
    · simp
  · simp
theorem redS_len (s : Int) (m : Nat) (k : Int) : (redS s m k).2.1.length ≤ (lim m).length := by
  unfold redS
  split
  · simp
  · exact lim_le_of_le (od_le m)

set_option maxRecDepth 100000 in
set_option maxHeartbeats 4000000 in
theorem iMakeDyadic (s : Int) (a : Option Addr) (xs : List Int) (c1 : Nat) (k : Int) (w : World) (B : Nat) (hB : B ≤ w.heap.size) (hx : Ints w B a xs) (hl : xs.length ≤ 9223372036854775807) (hTab : Tab w) :
    Calls Tryd.prog 47 #[.agg #[.int .i64 s, .slice a xs.length c1], .int .i64 k] w (RetYC (mkY s xs k) w.heap.size w) := by
  obtain ⟨W0, hW0⟩ : ∃ W0 : World, (w.alloc (.cells #[.int .i64 s, .slice a xs.length c1] 26)).alloc (.cells #[.int .i64 0, .slice none 0 0, .int .i64 0] 50) = W0 := ⟨_, rfl⟩
  obtain ⟨p1, p2, p3, p4⟩ := two_boxT w 26 50 #[.int .i64 s, .slice a xs.length c1] #[.int .i64 0, .slice none 0 0, .int .i64 0]
  rw [hW0] at p1 p2 p3 p4
  have HW0 := Lib.hid hW0
  have P3 := Lib.hid p3
  have P4 := Lib.hid p4
  have HTB := Lib.hid (show ∀ W, Below W0.heap.size W0 W → Tab W from fun W hW => (hTab.below p3).below hW)
  clear hTab
  have SS := Lib.hid (show ∀ W, Below W0.heap.size W0 W → (W.cell? ⟨w.heap.size, 0, none⟩ = some (.int .i64 s) ∧ W.cell? ⟨w.heap.size, 1, none⟩ = some (.slice a xs.length c1)) from
    fun W hW => ⟨(p1.below hW).cell 0, (p1.below hW).cell 1⟩)
  have SR := Lib.hid (show ∀ W, Below W0.heap.size W0 W → _ from fun W hW => (p2.below hW).tri6)
  have hT : Below W0.heap.size W0 W0 := Below.refl _ _
  have IX := Lib.hid (show ∀ W, Below W0.heap.size W0 W → Ints W B a xs ∧ B ≤ W.heap.size from fun W hW => ⟨hx.below ((p3.mono hB).trans (hW.mono (by omega))), by have := hW.size; omega⟩)
  have HI := Lib.hid (show ∀ W, Below W0.heap.size W0 W → Calls Tryd.prog 77 #[.agg #[.int .i64 s, .slice a xs.length c1]] W fun e w' => e = .returned (.bool (whB s xs)) ∧ Below W0.heap.size W0 w' from
    fun W hW => (iIsWhole s a xs c1 W B (IX.out W hW).2 hl (IX.out W hW).1).mono fun e w' ⟨he, hb⟩ => ⟨he, hW.trans (hb.mono hW.size)⟩)
  cases h1 : whB s xs
  · rw [mkY_no (fun h => by rw [whB_iff.2 h] at h1; cases h1)]
    rw [h1] at HI
    clear p1 p2 p3 p4 hx hW0 hB h1 hl IX
    go_enter Tryd.func47, Tryd.ntmps47
    go_wp2_with fail
    rw [HW0.out]
    refine (HI.out _ hT).mono ?_
    rintro e w1 ⟨rfl, hb⟩
    obtain ⟨k1, k2⟩ := SS.out _ hb
    obtain ⟨q1, q2, q3, q4, q5, q6⟩ := SR.out _ hb
    go_wp2_with fail
    refine bodyPost_ret (v := .tuple #[.agg #[.int .i64 0, .slice none 0 0, .int .i64 0], .int .i64 1]) (by simp [results, Tryd.results47, go_sem, *]) rfl ?_
    exact retYC_zero (g := w.heap.size + 1) 1 P3.out P4.out hb (by omega) _ _ _
  · have e1 := Lib.hid (whB_iff.1 h1)
    rw [h1] at HI
    clear h1
    by_cases hk : -10000 ≤ k ∧ k ≤ 10000
    · obtain ⟨m, rfl, hm, sm⟩ := isWh_of e1.out
      rw [mkY_yes e1.out hk]
      have HRG := Lib.hid (fun W => iBeyond k 10000 W (by omega) (by omega))
      rw [decide_eq_false (show ¬ (k < -10000 ∨ 10000 < k) by omega)] at HRG
      obtain ⟨⟨u1, u2, u3⟩, hu⟩ : ∃ r, r = redS s m k := ⟨_, rfl⟩
      have HU := Lib.hid (show u2.length ≤ 9223372036854775807 from by
        have h2 : u2 = (redS s m k).2.1 := by rw [← hu]
        rw [h2]
        exact Nat.le_trans (redS_len s m k) (by omega))
      have HP := Lib.hid (show ∀ W, Below W0.heap.size W0 W → Calls Tryd.prog 117 #[.agg #[.int .i64 s, .slice a (lim m).length c1], .int .i64 k] W fun e w' => ∃ a c, e = .returned (.agg #[.int .i64 u1, .slice a u2.length c, .int .i64 u3]) ∧ u2.length ≤ c ∧ Own w' W0.heap.size a u2 ∧ Below W0.heap.size W0 w' from
        fun W hW => by
          have := iReduced s a m c1 k W B (IX.out W hW).2 (IX.out W hW).1 sm (by omega) (by omega) (by omega) (HTB.out W hW)
          rw [← hu] at this
          exact this.mono fun e w' ⟨a, c, he, hc, ho, hb⟩ => ⟨a, c, he, hc, ho.mono hW.size, hW.trans (hb.mono hW.size)⟩)
      rw [← hu]
      obtain ⟨⟨r1, r2, r4, r3⟩, hr⟩ : ∃ r, r = fitY (u1, u2, u3) := ⟨_, rfl⟩
      have HLM := Lib.hid (show ∀ (a : Option Addr) (c : Nat) W, u2.length ≤ c → Own W W0.heap.size a u2 → Below W0.heap.size W0 W → Calls Tryd.prog 116 #[.agg #[.int .i64 u1, .slice a u2.length c, .int .i64 u3]] W fun e w' => ∃ a c, e = .returned (.tuple #[.agg #[.int .i64 r1, .slice a r2.length c, .int .i64 r4], .int .i64 r3]) ∧ r2.length ≤ c ∧ Own w' W0.heap.size a r2 ∧ Below W0.heap.size W0 w' from
        fun a c W hc ho hW => by
          have := iLimitY u1 u2 u3 a c W W0.heap.size HU.out hc ho
          rw [← hr] at this
          exact this.mono fun e w' ⟨a, c, he, hc, ho, hb⟩ => ⟨a, c, he, hc, ho, hW.trans (hb.mono hW.size)⟩)
      rw [← hr]
      clear p1 p2 p3 p4 hx hW0 hB hl IX hu hr sm hm e1 hk
      go_enter Tryd.func47, Tryd.ntmps47
      go_wp2_with fail
      rw [HW0.out]
      refine (HI.out _ hT).mono ?_
      rintro e w1 ⟨rfl, hb⟩
      obtain ⟨k1, k2⟩ := SS.out _ hb
      go_wp2_with fail
      refine (HRG.out _).mono ?_
      rintro e w2 ⟨rfl, rfl⟩
      go_wp2_with fail
      refine (HP.out _ hb).mono ?_
      rintro e w3 ⟨a3, c3, rfl, hc3, ho3, hb3⟩
      go_wp2_with fail
      refine (HLM.out _ _ _ hc3 ho3 hb3).mono ?_
      rintro e w4 ⟨a4, c4, rfl, hc4, ho4, hb4⟩
      have HC4 := Lib.hid hc4
      have HO4 := Lib.hid ho4
      clear hc3 ho3 hc4 ho4
      obtain ⟨q1, q2, q3, q4, q5, q6⟩ := SR.out _ hb4
      go_wp2_with fail
      refine bodyPost_ret (v := .tuple #[.agg #[.int .i64 r1, .slice a4 r2.length c4, .int .i64 r4], .int .i64 r3]) (by simp [results, Tryd.results47, go_sem, *]) rfl ?_
      exact retYC_end (g := w.heap.size + 1) (r := (r1, r2, r4, r3)) P3.out P4.out hb4 (by omega) (by omega) _ _ _ HO4.out HC4.out
    · rw [mkY_rng e1.out hk]
      have HRG := Lib.hid (fun W => iBeyond k 10000 W (by omega) (by omega))
      rw [decide_eq_true (show k < -10000 ∨ 10000 < k by omega)] at HRG
      clear p1 p2 p3 p4 hx hW0 hB hl IX e1 hk
      go_enter Tryd.func47, Tryd.ntmps47
      go_wp2_with fail
      rw [HW0.out]
      refine (HI.out _ hT).mono ?_
      rintro e w1 ⟨rfl, hb⟩
      obtain ⟨k1, k2⟩ := SS.out _ hb
      obtain ⟨q1, q2, q3, q4, q5, q6⟩ := SR.out _ hb
      go_wp2_with fail
      refine (HRG.out _).mono ?_
      rintro e w2 ⟨rfl, rfl⟩
      go_wp2_with fail
      refine bodyPost_ret (v := .tuple #[.agg #[.int .i64 0, .slice none 0 0, .int .i64 0], .int .i64 2]) (by simp [results, Tryd.results47, go_sem, *]) rfl ?_
      exact retYC_zero (g := w.heap.size + 1) 2 P3.out P4.out hb (by omega) _ _ _

set_option maxRecDepth 100000 in
set_option maxHeartbeats 4000000 in
theorem sMakeDyadic (s : Int) (a : Option Addr) (xs : List Int) (c1 : Nat) (k : Int) (w : World) (B : Nat) (hB : B ≤ w.heap.size) (hx : Ints w B a xs) (hl : xs.length ≤ 9223372036854775807) :
    Calls Tryd.prog 46 #[.agg #[.int .i64 s, .slice a xs.length c1], .int .i64 k] w (RetYC (mkY s xs k) w.heap.size w) := by
  obtain ⟨W0, hW0⟩ : ∃ W0 : World, (w.alloc (.cells #[.int .i64 s, .slice a xs.length c1] 26)).alloc (.cells #[.int .i64 0, .slice none 0 0, .int .i64 0] 50) = W0 := ⟨_, rfl⟩
  obtain ⟨p1, p2, p3, p4⟩ := two_boxT w 26 50 #[.int .i64 s, .slice a xs.length c1] #[.int .i64 0, .slice none 0 0, .int .i64 0]
  rw [hW0] at p1 p2 p3 p4
  have HW0 := Lib.hid hW0
  have P3 := Lib.hid p3
  have P4 := Lib.hid p4
  have SS := Lib.hid (show ∀ W, Below W0.heap.size W0 W → (W.cell? ⟨w.heap.size, 0, none⟩ = some (.int .i64 s) ∧ W.cell? ⟨w.heap.size, 1, none⟩ = some (.slice a xs.length c1)) from
    fun W hW => ⟨(p1.below hW).cell 0, (p1.below hW).cell 1⟩)
  have SR := Lib.hid (show ∀ W, Below W0.heap.size W0 W → _ from fun W hW => (p2.below hW).tri6)
  have hT : Below W0.heap.size W0 W0 := Below.refl _ _
  have IX := Lib.hid (show ∀ W, Below W0.heap.size W0 W → Ints W B a xs ∧ B ≤ W.heap.size from fun W hW => ⟨hx.below ((p3.mono hB).trans (hW.mono (by omega))), by have := hW.size; omega⟩)
  have HI := Lib.hid (show ∀ W, Below W0.heap.size W0 W → Calls Tryd.prog 72 #[.agg #[.int .i64 s, .slice a xs.length c1]] W fun e w' => e = .returned (.bool (whB s xs)) ∧ Below W0.heap.size W0 w' from
    fun W hW => (sIs s a xs c1 W B (IX.out W hW).2 hl (IX.out W hW).1).mono fun e w' ⟨he, hb⟩ => ⟨he, hW.trans (hb.mono hW.size)⟩)
  cases h1 : whB s xs
  · rw [mkY_no (fun h => by rw [whB_iff.2 h] at h1; cases h1)]
    rw [h1] at HI
    clear p1 p2 p3 p4 hx hW0 hB h1 hl IX
    go_enter Tryd.func46, Tryd.ntmps46
    go_wp2_with fail
    rw [HW0.out]
    refine (HI.out _ hT).mono ?_
    rintro e w1 ⟨rfl, hb⟩
    obtain ⟨k1, k2⟩ := SS.out _ hb
    obtain ⟨q1, q2, q3, q4, q5, q6⟩ := SR.out _ hb
    go_wp2_with fail
    refine bodyPost_ret (v := .tuple #[.agg #[.int .i64 0, .slice none 0 0, .int .i64 0], .int .i64 1]) (by simp [results, Tryd.results46, go_sem, *]) rfl ?_
    exact retYC_zero (g := w.heap.size + 1) 1 P3.out P4.out hb (by omega) _ _ _
  · have e1 := Lib.hid (whB_iff.1 h1)
    rw [h1] at HI
    clear h1
    by_cases hk : -10000 ≤ k ∧ k ≤ 10000
    · obtain ⟨m, rfl, hm, sm⟩ := isWh_of e1.out
      rw [mkY_yes e1.out hk]
      have HRG := Lib.hid (fun W => in_yes k (-10000) 10000 W hk.1 hk.2)
      obtain ⟨⟨u1, u2, u3⟩, hu⟩ : ∃ r, r = redS s m k := ⟨_, rfl⟩
      have HU := Lib.hid (show u2.length ≤ 9223372036854775807 from by
        have h2 : u2 = (redS s m k).2.1 := by rw [← hu]
        rw [h2]
        exact Nat.le_trans (redS_len s m k) (by omega))
      have HP := Lib.hid (show ∀ W, Below W0.heap.size W0 W → Calls Tryd.prog 114 #[.agg #[.int .i64 s, .slice a (lim m).length c1], .int .i64 k] W fun e w' => ∃ a c, e = .returned (.agg #[.int .i64 u1, .slice a u2.length c, .int .i64 u3]) ∧ u2.length ≤ c ∧ Own w' W0.heap.size a u2 ∧ Below W0.heap.size W0 w' from
        fun W hW => by
          have := sMake3 s a m c1 k W B (IX.out W hW).2 (IX.out W hW).1 sm (by omega) (by omega) (by omega)
          rw [← hu] at this
          exact this.mono fun e w' ⟨a, c, he, hc, ho, hb⟩ => ⟨a, c, he, hc, ho.mono hW.size, hW.trans (hb.mono hW.size)⟩)
      rw [← hu]
      obtain ⟨⟨r1, r2, r4, r3⟩, hr⟩ : ∃ r, r = fitY (u1, u2, u3) := ⟨_, rfl⟩
      have HLM := Lib.hid (show ∀ (a : Option Addr) (c : Nat) W, u2.length ≤ c → Own W W0.heap.size a u2 → Below W0.heap.size W0 W → Calls Tryd.prog 113 #[.agg #[.int .i64 u1, .slice a u2.length c, .int .i64 u3]] W fun e w' => ∃ a c, e = .returned (.tuple #[.agg #[.int .i64 r1, .slice a r2.length c, .int .i64 r4], .int .i64 r3]) ∧ r2.length ≤ c ∧ Own w' W0.heap.size a r2 ∧ Below W0.heap.size W0 w' from
        fun a c W hc ho hW => by
          have := sFitY u1 u2 u3 a c W W0.heap.size HU.out hc ho
          rw [← hr] at this
          exact this.mono fun e w' ⟨a, c, he, hc, ho, hb⟩ => ⟨a, c, he, hc, ho, hW.trans (hb.mono hW.size)⟩)
      rw [← hr]
      clear p1 p2 p3 p4 hx hW0 hB hl IX hu hr sm hm e1 hk
      go_enter Tryd.func46, Tryd.ntmps46
      go_wp2_with fail
      rw [HW0.out]
      refine (HI.out _ hT).mono ?_
      rintro e w1 ⟨rfl, hb⟩
      obtain ⟨k1, k2⟩ := SS.out _ hb
      go_wp2_with fail
      refine (HRG.out _).mono ?_
      rintro e w2 ⟨rfl, rfl⟩
      go_wp2_with fail
      refine (HP.out _ hb).mono ?_
      rintro e w3 ⟨a3, c3, rfl, hc3, ho3, hb3⟩
      go_wp2_with fail
      refine (HLM.out _ _ _ hc3 ho3 hb3).mono ?_
      rintro e w4 ⟨a4, c4, rfl, hc4, ho4, hb4⟩
      have HC4 := Lib.hid hc4
      have HO4 := Lib.hid ho4
      clear hc3 ho3 hc4 ho4
      obtain ⟨q1, q2, q3, q4, q5, q6⟩ := SR.out _ hb4
      have hsz : w.heap.size + 1 < w4.heap.size := by have := hb4.size; have := P4.out; omega
      go_wp2_with fail
      refine bodyPost_ret (v := .tuple #[.agg #[.int .i64 r1, .slice a4 r2.length c4, .int .i64 r4], .int .i64 r3]) (by simp [results, Tryd.results46, go_sem, *]) rfl ?_
      exact (retYC_end (g := w.heap.size + 1) (r := (r1, r2, r4, r3)) P3.out P4.out hb4 (by omega) (by omega) _ _ _ HO4.out HC4.out).alloc _
    · rw [mkY_rng e1.out hk]
      have HRG := Lib.hid (fun W => in_no k (-10000) 10000 W (by omega))
      clear p1 p2 p3 p4 hx hW0 hB hl IX e1 hk
      go_enter Tryd.func46, Tryd.ntmps46
      go_wp2_with fail
      rw [HW0.out]
      refine (HI.out _ hT).mono ?_
      rintro e w1 ⟨rfl, hb⟩
      obtain ⟨k1, k2⟩ := SS.out _ hb
      obtain ⟨q1, q2, q3, q4, q5, q6⟩ := SR.out _ hb
      go_wp2_with fail
      refine (HRG.out _).mono ?_
      rintro e w2 ⟨rfl, rfl⟩
      go_wp2_with fail
      refine bodyPost_ret (v := .tuple #[.agg #[.int .i64 0, .slice none 0 0, .int .i64 0], .int .i64 2]) (by simp [results, Tryd.results46, go_sem, *]) rfl ?_
      exact retYC_zero (g := w.heap.size + 1) 2 P3.out P4.out hb (by omega) _ _ _
end Go.Proofs.YtofjpalehcdmfaaDoor
