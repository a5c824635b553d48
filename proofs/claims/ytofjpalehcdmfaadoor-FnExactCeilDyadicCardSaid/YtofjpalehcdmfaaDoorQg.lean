/-
  Contracts: ScaleDyadic, FloorDyadic and CeilDyadic of the program and of the model. Conditions: the limbs can be read; the library's table is as its initialiser lays it.
-/
import Derived.Test.YtofjpalehcdmfaaDoorQf
namespace Go.Proofs.YtofjpalehcdmfaaDoor
set_option linter.unusedVariables false
open Go Go.RowKit

theorem redZ_len (z e : Int) : (redZ z e).2.1.length ≤ (lim z.natAbs).length := redS_len _ _ _
theorem flF_lim {s x k : Int} {m : Nat} (hm : (lim m).length ≤ 200) (hs : Sg s m) (h1 : -20000 ≤ x + k) (h2 : x + k ≤ 20000) : (lim (shZ (s * (m : Int)) (x + k)).natAbs).length ≤ 1100 := shZ_lim hm hs.three h1 h2
theorem ceF_lim {s x k : Int} {m : Nat} (hm : (lim m).length ≤ 200) (hs : Sg s m) (h1 : -20000 ≤ x + k) (h2 : x + k ≤ 20000) : (lim (-(shZ (-(s * (m : Int))) (x + k))).natAbs).length ≤ 1100 := by
  have h := shZ_lim (s := -s) (m := m) (k := x + k) hm (by have := hs.three; omega) h1 h2
  rw [Int.neg_mul] at h
  rw [Int.natAbs_neg]
  exact h
theorem scF_len {s x k : Int} {m : Nat} (hm : (lim m).length ≤ 200) (hs : Sg s m) (h1 : -20000 ≤ x + k) (h2 : x + k ≤ 20000) : (scF s m x k).2.1.length ≤ 1100 := Nat.le_trans (redS_len _ _ _) (by omega)
theorem flF_len {s x k : Int} {m : Nat} (hm : (lim m).length ≤ 200) (hs : Sg s m) (h1 : -20000 ≤ x + k) (h2 : x + k ≤ 20000) : (flF s m x k).2.1.length ≤ 1100 := Nat.le_trans (redZ_len _ _) (flF_lim hm hs h1 h2)
theorem ceF_len {s x k : Int} {m : Nat} (hm : (lim m).length ≤ 200) (hs : Sg s m) (h1 : -20000 ≤ x + k) (h2 : x + k ≤ 20000) : (ceF s m x k).2.1.length ≤ 1100 := Nat.le_trans (redZ_len _ _) (ceF_lim hm hs h1 h2)

set_option maxRecDepth 100000 in
set_option maxHeartbeats 4000000 in
theorem iScaleDyadic (s : Int) (a : Option Addr) (xs : List Int) (c1 : Nat) (x k : Int) (w : World) (B : Nat) (hB : B ≤ w.heap.size) (hx : Ints w B a xs) (hl : xs.length ≤ 9223372036854775807) (hTab : Tab w) :
    Calls Tryd.prog 63 #[.agg #[.int .i64 s, .slice a xs.length c1, .int .i64 x], .int .i64 k] w (RetYC (rngY 10000 scF s xs x k) w.heap.size w) := by
  obtain ⟨W0, hW0⟩ : ∃ W0 : World, (w.alloc (.cells #[.int .i64 s, .slice a xs.length c1, .int .i64 x] 50)).alloc (.cells #[.int .i64 0, .slice none 0 0, .int .i64 0] 50) = W0 := ⟨_, rfl⟩
  obtain ⟨p1, p2, p3, p4⟩ := two_boxT w 50 50 #[.int .i64 s, .slice a xs.length c1, .int .i64 x] #[.int .i64 0, .slice none 0 0, .int .i64 0]
  rw [hW0] at p1 p2 p3 p4
  have HW0 := Lib.hid hW0
  have P3 := Lib.hid p3
  have P4 := Lib.hid p4
  have HTB := Lib.hid (show ∀ W, Below W0.heap.size W0 W → Tab W from fun W hW => (hTab.below p3).below hW)
  clear hTab
  have SS := Lib.hid (show ∀ W, Below W0.heap.size W0 W → (W.cell? ⟨w.heap.size, 0, none⟩ = some (.int .i64 s) ∧ W.cell? ⟨w.heap.size, 1, none⟩ = some (.slice a xs.length c1) ∧ W.cell? ⟨w.heap.size, 2, none⟩ = some (.int .i64 x)) from
    fun W hW => (p1.below hW).tri)
  have SR := Lib.hid (show ∀ W, Below W0.heap.size W0 W → _ from fun W hW => (p2.below hW).tri6)
  have hT : Below W0.heap.size W0 W0 := Below.refl _ _
  have IX := Lib.hid (show ∀ W, Below W0.heap.size W0 W → Ints W B a xs ∧ B ≤ W.heap.size from fun W hW => ⟨hx.below ((p3.mono hB).trans (hW.mono (by omega))), by have := hW.size; omega⟩)
  have HI := Lib.hid (show ∀ W, Below W0.heap.size W0 W → Calls Tryd.prog 122 #[.agg #[.int .i64 s, .slice a xs.length c1, .int .i64 x]] W fun e w' => e = .returned (.bool (dyB s xs x)) ∧ Below W0.heap.size W0 w' from
    fun W hW => (iIsDyadic s a xs c1 x W B (IX.out W hW).2 hl (IX.out W hW).1).mono fun e w' ⟨he, hb⟩ => ⟨he, hW.trans (hb.mono hW.size)⟩)
  have HBY := Lib.hid (fun W => iBeyond k 10000 W (by omega) (by omega))
  obtain ⟨k1, k2, k3⟩ := SS.out _ hT
  cases h1 : dyB s xs x
  · rw [rngY_no (fun h => by rw [dyB_iff.2 h] at h1; cases h1)]
    rw [h1] at HI
    clear p1 p2 p3 p4 hx hW0 hB h1 hl IX
    go_enter Tryd.func63, Tryd.ntmps63
    go_wp2_with fail
    rw [HW0.out]
    refine (HI.out _ hT).mono ?_
    rintro e w1 ⟨rfl, hb⟩
    obtain ⟨q1, q2, q3, q4, q5, q6⟩ := SR.out _ hb
    go_wp2_with fail
    refine bodyPost_ret (v := .tuple #[.agg #[.int .i64 0, .slice none 0 0, .int .i64 0], .int .i64 1]) (by simp [results, Tryd.results63, go_sem, *]) rfl ?_
    exact retYC_zero (g := w.heap.size + 1) 1 P3.out P4.out hb (by omega) _ _ _
  · have e1 := Lib.hid (dyB_iff.1 h1)
    rw [h1] at HI
    by_cases hk : -10000 ≤ k ∧ k ≤ 10000
    · obtain ⟨m, rfl, hm, sm, hx1, hx2⟩ := isDy_of e1.out
      rw [rngY_yes e1.out hk]
      rw [decide_eq_false (show ¬ (k < -10000 ∨ 10000 < k) by omega)] at HBY
      obtain ⟨⟨u1, u2, u3⟩, hu⟩ : ∃ r, r = scF s m x k := ⟨_, rfl⟩
      have HU := Lib.hid (show u2.length ≤ 9223372036854775807 from by
        have h2 : u2 = (scF s m x k).2.1 := by rw [← hu]
        rw [h2]
        exact Nat.le_trans (scF_len hm sm (by omega) (by omega)) (by omega))
      obtain ⟨y, hy⟩ : ∃ y : Int, y = x + k := ⟨_, rfl⟩
      have hwr : IntKind.i64.wrap (x + k) = y := by rw [hy, IntKind.wrap_i64]; omega
      have hwr2 : wrap64 (x + k) = y := by rw [hy]; unfold wrap64; omega
      have HP := Lib.hid (show ∀ W, Below W0.heap.size W0 W → Calls Tryd.prog 117 #[.agg #[.int .i64 s, .slice a (lim m).length c1], .int .i64 y] W fun e w' => ∃ a c, e = .returned (.agg #[.int .i64 u1, .slice a u2.length c, .int .i64 u3]) ∧ u2.length ≤ c ∧ Own w' W0.heap.size a u2 ∧ Below W0.heap.size W0 w' from
        fun W hW => by
          have := iReduced s a m c1 y W B (IX.out W hW).2 (IX.out W hW).1 sm (by omega) (by omega) (by omega) (HTB.out W hW)
          rw [show redS s m y = scF s m x k by rw [hy]; rfl, ← hu] at this
          exact this.mono fun e w' ⟨a, c, he, hc, ho, hb⟩ => ⟨a, c, he, hc, ho.mono hW.size, hW.trans (hb.mono hW.size)⟩)
      rw [← hu]
      obtain ⟨⟨r1, r2, r4, r3⟩, hr⟩ : ∃ r, r = fitY (u1, u2, u3) := ⟨_, rfl⟩
      have HLM := Lib.hid (show ∀ (a : Option Addr) (c : Nat) W, u2.length ≤ c → Own W W0.heap.size a u2 → Below W0.heap.size W0 W → Calls Tryd.prog 116 #[.agg #[.int .i64 u1, .slice a u2.length c, .int .i64 u3]] W fun e w' => ∃ a c, e = .returned (.tuple #[.agg #[.int .i64 r1, .slice a r2.length c, .int .i64 r4], .int .i64 r3]) ∧ r2.length ≤ c ∧ Own w' W0.heap.size a r2 ∧ Below W0.heap.size W0 w' from
        fun a c W hc ho hW => by
          have := iLimitY u1 u2 u3 a c W W0.heap.size HU.out hc ho
          rw [← hr] at this
          exact this.mono fun e w' ⟨a, c, he, hc, ho, hb⟩ => ⟨a, c, he, hc, ho, hW.trans (hb.mono hW.size)⟩)
      rw [← hr]
      clear p1 p2 p3 p4 hx hW0 hB hl IX hu hr sm hm e1 hk h1 hx1 hx2 hy
      go_enter Tryd.func63, Tryd.ntmps63
      go_wp2_with fail
      rw [HW0.out]
      clear k1 k2 k3
      refine (HI.out _ hT).mono ?_
      rintro e w1 ⟨rfl, hb⟩
      obtain ⟨k1, k2, k3⟩ := SS.out _ hb
      go_wp2_with fail
      refine (HBY.out _).mono ?_
      rintro e w2 ⟨rfl, rfl⟩
      go_wp2_with fail
      refine (HP.out _ hb).mono ?_
      rintro e w3 ⟨a3, c3, rfl, hc3, ho3, hb3⟩
      go_wp2_with fail
      refine (HLM.out _ _ _ hc3 ho3 hb3).mono ?_
      rintro e w4 ⟨a4, c4, rfl, hc4, ho4, hb4⟩
      have HC4 := Lib.hid hc4
      have HO4 := Lib.hid ho4
      clear hc3 ho3 hc4 ho4
      obtain ⟨q1, q2, q3, q4, q5, q6⟩ := SR.out _ hb4
      go_wp2_with fail
      refine bodyPost_ret (v := .tuple #[.agg #[.int .i64 r1, .slice a4 r2.length c4, .int .i64 r4], .int .i64 r3]) (by simp [results, Tryd.results63, go_sem, *]) rfl ?_
      exact retYC_end (g := w.heap.size + 1) (r := (r1, r2, r4, r3)) P3.out P4.out hb4 (by omega) (by omega) _ _ _ HO4.out HC4.out
    · rw [rngY_rng e1.out hk]
      rw [decide_eq_true (show k < -10000 ∨ 10000 < k by omega)] at HBY
      clear p1 p2 p3 p4 hx hW0 hB hl IX e1 hk h1
      go_enter Tryd.func63, Tryd.ntmps63
      go_wp2_with fail
      rw [HW0.out]
      clear k1 k2 k3
      refine (HI.out _ hT).mono ?_
      rintro e w1 ⟨rfl, hb⟩
      obtain ⟨k1, k2, k3⟩ := SS.out _ hb
      go_wp2_with fail
      refine (HBY.out _).mono ?_
      rintro e w2 ⟨rfl, rfl⟩
      obtain ⟨q1, q2, q3, q4, q5, q6⟩ := SR.out _ hb
      go_wp2_with fail
      refine bodyPost_ret (v := .tuple #[.agg #[.int .i64 0, .slice none 0 0, .int .i64 0], .int .i64 2]) (by simp [results, Tryd.results63, go_sem, *]) rfl ?_
      exact retYC_zero (g := w.heap.size + 1) 2 P3.out P4.out hb (by omega) _ _ _

set_option maxRecDepth 100000 in
set_option maxHeartbeats 4000000 in
theorem sScaleDyadic (s : Int) (a : Option Addr) (xs : List Int) (c1 : Nat) (x k : Int) (w : World) (B : Nat) (hB : B ≤ w.heap.size) (hx : Ints w B a xs) (hl : xs.length ≤ 9223372036854775807) (hc1 : xs.length ≤ c1) :
    Calls Tryd.prog 62 #[.agg #[.int .i64 s, .slice a xs.length c1, .int .i64 x], .int .i64 k] w (RetYC (rngY 10000 scF s xs x k) w.heap.size w) := by
  obtain ⟨W0, hW0⟩ : ∃ W0 : World, (w.alloc (.cells #[.int .i64 s, .slice a xs.length c1, .int .i64 x] 50)).alloc (.cells #[.int .i64 0, .slice none 0 0, .int .i64 0] 50) = W0 := ⟨_, rfl⟩
  obtain ⟨p1, p2, p3, p4⟩ := two_boxT w 50 50 #[.int .i64 s, .slice a xs.length c1, .int .i64 x] #[.int .i64 0, .slice none 0 0, .int .i64 0]
  rw [hW0] at p1 p2 p3 p4
  have HW0 := Lib.hid hW0
  have P3 := Lib.hid p3
  have P4 := Lib.hid p4
  have SS := Lib.hid (show ∀ W, Below W0.heap.size W0 W → (W.cell? ⟨w.heap.size, 0, none⟩ = some (.int .i64 s) ∧ W.cell? ⟨w.heap.size, 1, none⟩ = some (.slice a xs.length c1) ∧ W.cell? ⟨w.heap.size, 2, none⟩ = some (.int .i64 x)) from
    fun W hW => (p1.below hW).tri)
  have SR := Lib.hid (show ∀ W, Below W0.heap.size W0 W → _ from fun W hW => (p2.below hW).tri6)
  have hT : Below W0.heap.size W0 W0 := Below.refl _ _
  have IX := Lib.hid (show ∀ W, Below W0.heap.size W0 W → Ints W B a xs ∧ B ≤ W.heap.size from fun W hW => ⟨hx.below ((p3.mono hB).trans (hW.mono (by omega))), by have := hW.size; omega⟩)
  have HI := Lib.hid (show ∀ W, Below W0.heap.size W0 W → Calls Tryd.prog 129 #[.agg #[.int .i64 s, .slice a xs.length c1, .int .i64 x], .int .i64 k, .int .i64 (-10000), .int .i64 10000] W fun e w' => e = .returned (.int .i64 (rangeC s xs x k (-10000) 10000)) ∧ Below W0.heap.size W0 w' from
    fun W hW => (sRange s a xs c1 x k (-10000) 10000 W B (IX.out W hW).2 hl (IX.out W hW).1).mono fun e w' ⟨he, hb⟩ => ⟨he, hW.trans (hb.mono hW.size)⟩)
  obtain ⟨k1, k2, k3⟩ := SS.out _ hT
  cases h1 : dyB s xs x
  · rw [rngY_no (fun h => by rw [dyB_iff.2 h] at h1; cases h1)]
    rw [show rangeC s xs x k (-10000) 10000 = 1 by unfold rangeC; rw [h1]; simp] at HI
    clear p1 p2 p3 p4 hx hW0 hB h1 hl IX hc1
    go_enter Tryd.func62, Tryd.ntmps62
    go_wp2_with fail
    rw [HW0.out]
    refine (HI.out _ hT).mono ?_
    rintro e w1 ⟨rfl, hb⟩
    obtain ⟨q1, q2, q3, q4, q5, q6⟩ := SR.out _ hb
    go_wp2_with fail
    refine bodyPost_ret (v := .tuple #[.agg #[.int .i64 0, .slice none 0 0, .int .i64 0], .int .i64 1]) (by simp [results, Tryd.results62, go_sem, *]) rfl ?_
    exact retYC_zero (g := w.heap.size + 1) 1 P3.out P4.out hb (by omega) _ _ _
  · have e1 := Lib.hid (dyB_iff.1 h1)
    by_cases hk : -10000 ≤ k ∧ k ≤ 10000
    · obtain ⟨m, rfl, hm, sm, hx1, hx2⟩ := isDy_of e1.out
      rw [rngY_yes e1.out hk]
      rw [show rangeC s (lim m) x k (-10000) 10000 = 0 by unfold rangeC; rw [h1, if_pos rfl, if_pos hk]] at HI
      obtain ⟨⟨u1, u2, u3⟩, hu⟩ : ∃ r, r = scF s m x k := ⟨_, rfl⟩
      have HU := Lib.hid (show u2.length ≤ 9223372036854775807 from by
        have h2 : u2 = (scF s m x k).2.1 := by rw [← hu]
        rw [h2]
        exact Nat.le_trans (scF_len hm sm (by omega) (by omega)) (by omega))
      obtain ⟨y, hy⟩ : ∃ y : Int, y = x + k := ⟨_, rfl⟩
      have hwr : IntKind.i64.wrap (x + k) = y := by rw [hy, IntKind.wrap_i64]; omega
      have hwr2 : wrap64 (x + k) = y := by rw [hy]; unfold wrap64; omega
      have HP := Lib.hid (show ∀ W, Below W0.heap.size W0 W → Calls Tryd.prog 114 #[.agg #[.int .i64 s, .slice a (lim m).length c1], .int .i64 y] W fun e w' => ∃ a c, e = .returned (.agg #[.int .i64 u1, .slice a u2.length c, .int .i64 u3]) ∧ u2.length ≤ c ∧ Own w' W0.heap.size a u2 ∧ Below W0.heap.size W0 w' from
        fun W hW => by
          have := sMake3 s a m c1 y W B (IX.out W hW).2 (IX.out W hW).1 sm (by omega) (by omega) (by omega)
          rw [show redS s m y = scF s m x k by rw [hy]; rfl, ← hu] at this
          exact this.mono fun e w' ⟨a, c, he, hc, ho, hb⟩ => ⟨a, c, he, hc, ho.mono hW.size, hW.trans (hb.mono hW.size)⟩)
      rw [← hu]
      obtain ⟨⟨r1, r2, r4, r3⟩, hr⟩ : ∃ r, r = fitY (u1, u2, u3) := ⟨_, rfl⟩
      have HLM := Lib.hid (show ∀ (a : Option Addr) (c : Nat) W, u2.length ≤ c → Own W W0.heap.size a u2 → Below W0.heap.size W0 W → Calls Tryd.prog 113 #[.agg #[.int .i64 u1, .slice a u2.length c, .int .i64 u3]] W fun e w' => ∃ a c, e = .returned (.tuple #[.agg #[.int .i64 r1, .slice a r2.length c, .int .i64 r4], .int .i64 r3]) ∧ r2.length ≤ c ∧ Own w' W0.heap.size a r2 ∧ Below W0.heap.size W0 w' from
        fun a c W hc ho hW => by
          have := sFitY u1 u2 u3 a c W W0.heap.size HU.out hc ho
          rw [← hr] at this
          exact this.mono fun e w' ⟨a, c, he, hc, ho, hb⟩ => ⟨a, c, he, hc, ho, hW.trans (hb.mono hW.size)⟩)
      rw [← hr]
      clear p1 p2 p3 p4 hx hW0 hB hl IX hu hr sm hm e1 hk h1 hx1 hx2 hy hc1
      go_enter Tryd.func62, Tryd.ntmps62
      go_wp2_with fail
      rw [HW0.out]
      clear k1 k2 k3
      refine (HI.out _ hT).mono ?_
      rintro e w1 ⟨rfl, hb⟩
      obtain ⟨k1, k2, k3⟩ := SS.out _ hb
      go_wp2_with fail
      refine (HP.out _ hb).mono ?_
      rintro e w3 ⟨a3, c3, rfl, hc3, ho3, hb3⟩
      go_wp2_with fail
      refine (HLM.out _ _ _ hc3 ho3 hb3).mono ?_
      rintro e w4 ⟨a4, c4, rfl, hc4, ho4, hb4⟩
      have HC4 := Lib.hid hc4
      have HO4 := Lib.hid ho4
      clear hc3 ho3 hc4 ho4
      obtain ⟨q1, q2, q3, q4, q5, q6⟩ := SR.out _ hb4
      have hsz : w.heap.size + 1 < w4.heap.size := by have := hb4.size; have := P4.out; omega
      go_wp2_with fail
      refine bodyPost_ret (v := .tuple #[.agg #[.int .i64 r1, .slice a4 r2.length c4, .int .i64 r4], .int .i64 r3]) (by simp [results, Tryd.results62, go_sem, *]) rfl ?_
      exact (retYC_end (g := w.heap.size + 1) (r := (r1, r2, r4, r3)) P3.out P4.out hb4 (by omega) (by omega) _ _ _ HO4.out HC4.out).alloc _
    · rw [rngY_rng e1.out hk]
      rw [show rangeC s xs x k (-10000) 10000 = 2 by unfold rangeC; rw [h1, if_pos rfl, if_neg hk]] at HI
      clear p1 p2 p3 p4 hx hW0 hB hl IX e1 hk h1 hc1
      go_enter Tryd.func62, Tryd.ntmps62
      go_wp2_with fail
      rw [HW0.out]
      clear k1 k2 k3
      refine (HI.out _ hT).mono ?_
      rintro e w1 ⟨rfl, hb⟩
      obtain ⟨k1, k2, k3⟩ := SS.out _ hb
      obtain ⟨q1, q2, q3, q4, q5, q6⟩ := SR.out _ hb
      go_wp2_with fail
      refine bodyPost_ret (v := .tuple #[.agg #[.int .i64 0, .slice none 0 0, .int .i64 0], .int .i64 2]) (by simp [results, Tryd.results62, go_sem, *]) rfl ?_
      exact retYC_zero (g := w.heap.size + 1) 2 P3.out P4.out hb (by omega) _ _ _

set_option maxRecDepth 100000 in
set_option maxHeartbeats 4000000 in
theorem iFloorDyadic (s : Int) (a : Option Addr) (xs : List Int) (c1 : Nat) (x k : Int) (w : World) (B : Nat) (hB : B ≤ w.heap.size) (hx : Ints w B a xs) (hl : xs.length ≤ 9223372036854775807) (hTab : Tab w) :
    Calls Tryd.prog 65 #[.agg #[.int .i64 s, .slice a xs.length c1, .int .i64 x], .int .i64 k] w (RetYC (rngY 1000 flF s xs x k) w.heap.size w) := by
  obtain ⟨W0, hW0⟩ : ∃ W0 : World, (w.alloc (.cells #[.int .i64 s, .slice a xs.length c1, .int .i64 x] 50)).alloc (.cells #[.int .i64 0, .slice none 0 0, .int .i64 0] 50) = W0 := ⟨_, rfl⟩
  obtain ⟨p1, p2, p3, p4⟩ := two_boxT w 50 50 #[.int .i64 s, .slice a xs.length c1, .int .i64 x] #[.int .i64 0, .slice none 0 0, .int .i64 0]
  rw [hW0] at p1 p2 p3 p4
  have HW0 := Lib.hid hW0
  have P3 := Lib.hid p3
  have P4 := Lib.hid p4
  have HTB := Lib.hid (show ∀ W, Below W0.heap.size W0 W → Tab W from fun W hW => (hTab.below p3).below hW)
  clear hTab
  have SS := Lib.hid (show ∀ W, Below W0.heap.size W0 W → (W.cell? ⟨w.heap.size, 0, none⟩ = some (.int .i64 s) ∧ W.cell? ⟨w.heap.size, 1, none⟩ = some (.slice a xs.length c1) ∧ W.cell? ⟨w.heap.size, 2, none⟩ = some (.int .i64 x)) from
    fun W hW => (p1.below hW).tri)
  have SR := Lib.hid (show ∀ W, Below W0.heap.size W0 W → _ from fun W hW => (p2.below hW).tri6)
  have hT : Below W0.heap.size W0 W0 := Below.refl _ _
  have IX := Lib.hid (show ∀ W, Below W0.heap.size W0 W → Ints W B a xs ∧ B ≤ W.heap.size from fun W hW => ⟨hx.below ((p3.mono hB).trans (hW.mono (by omega))), by have := hW.size; omega⟩)
  have HI := Lib.hid (show ∀ W, Below W0.heap.size W0 W → Calls Tryd.prog 122 #[.agg #[.int .i64 s, .slice a xs.length c1, .int .i64 x]] W fun e w' => e = .returned (.bool (dyB s xs x)) ∧ Below W0.heap.size W0 w' from
    fun W hW => (iIsDyadic s a xs c1 x W B (IX.out W hW).2 hl (IX.out W hW).1).mono fun e w' ⟨he, hb⟩ => ⟨he, hW.trans (hb.mono hW.size)⟩)
  have HBY := Lib.hid (fun W => iBeyond k 1000 W (by omega) (by omega))
  obtain ⟨k1, k2, k3⟩ := SS.out _ hT
  cases h1 : dyB s xs x
  · rw [rngY_no (fun h => by rw [dyB_iff.2 h] at h1; cases h1)]
    rw [h1] at HI
    clear p1 p2 p3 p4 hx hW0 hB h1 hl IX
    go_enter Tryd.func65, Tryd.ntmps65
    go_wp2_with fail
    rw [HW0.out]
    refine (HI.out _ hT).mono ?_
    rintro e w1 ⟨rfl, hb⟩
    obtain ⟨q1, q2, q3, q4, q5, q6⟩ := SR.out _ hb
    go_wp2_with fail
    refine bodyPost_ret (v := .tuple #[.agg #[.int .i64 0, .slice none 0 0, .int .i64 0], .int .i64 1]) (by simp [results, Tryd.results65, go_sem, *]) rfl ?_
    exact retYC_zero (g := w.heap.size + 1) 1 P3.out P4.out hb (by omega) _ _ _
  · have e1 := Lib.hid (dyB_iff.1 h1)
    rw [h1] at HI
    by_cases hk : -1000 ≤ k ∧ k ≤ 1000
    · obtain ⟨m, rfl, hm, sm, hx1, hx2⟩ := isDy_of e1.out
      rw [rngY_yes e1.out hk]
      rw [decide_eq_false (show ¬ (k < -1000 ∨ 1000 < k) by omega)] at HBY
      obtain ⟨⟨u1, u2, u3⟩, hu⟩ : ∃ r, r = flF s m x k := ⟨_, rfl⟩
      have HU := Lib.hid (show u2.length ≤ 9223372036854775807 from by
        have h2 : u2 = (flF s m x k).2.1 := by rw [← hu]
        rw [h2]
        exact Nat.le_trans (flF_len hm sm (by omega) (by omega)) (by omega))
      obtain ⟨j, hj⟩ : ∃ j : Int, j = -k := ⟨_, rfl⟩
      have hnk : IntKind.i64.wrap (-k) = j := by rw [hj, IntKind.wrap_i64]; omega
      have hnk2 : wrap64 (-k) = j := by rw [hj]; unfold wrap64; omega
      obtain ⟨z, hz⟩ : ∃ z : Int, z = shZ (s * (m : Int)) (x + k) := ⟨_, rfl⟩
      have hzl : (lim z.natAbs).length ≤ 1100 := by rw [hz]; exact flF_lim hm sm (by omega) (by omega)
      have HFL := Lib.hid (show ∀ W, Below W0.heap.size W0 W → Calls Tryd.prog 131 #[.agg #[.int .i64 s, .slice a (lim m).length c1, .int .i64 x], .int .i64 k] W fun e w' => ∃ a c, e = .returned (.agg #[.int .i64 z.sign, .slice a (lim z.natAbs).length c]) ∧ Own w' W0.heap.size a (lim z.natAbs) ∧ Below W0.heap.size W0 w' from
        fun W hW => by
          have := iFloorW s a m c1 x k W B (IX.out W hW).2 (IX.out W hW).1 sm hm (by omega) (by omega) (by omega) (by omega) (HTB.out W hW)
          rw [← hz] at this
          exact this.mono fun e w' ⟨a, c, he, hc, ho, hb⟩ => ⟨a, c, he, ho.mono hW.size, hW.trans (hb.mono hW.size)⟩)
      have HP := Lib.hid (show ∀ (a : Option Addr) (c : Nat) W, Below W0.heap.size W0 W → Own W W0.heap.size a (lim z.natAbs) → Calls Tryd.prog 117 #[.agg #[.int .i64 z.sign, .slice a (lim z.natAbs).length c], .int .i64 j] W fun e w' => ∃ a c, e = .returned (.agg #[.int .i64 u1, .slice a u2.length c, .int .i64 u3]) ∧ u2.length ≤ c ∧ Own w' W0.heap.size a u2 ∧ Below W0.heap.size W0 w' from
        fun a c W hW ho => by
          have := iReduced z.sign a z.natAbs c j W W.heap.size (Nat.le_refl _) ho.ints (Sg.of z) (by omega) (by omega) (by omega) (HTB.out W hW)
          rw [show redS z.sign z.natAbs j = flF s m x k by rw [hz, hj]; rfl, ← hu] at this
          exact this.mono fun e w' ⟨a, c, he, hc, ho, hb⟩ => ⟨a, c, he, hc, ho.mono hW.size, hW.trans (hb.mono hW.size)⟩)
      obtain ⟨zs, hzs⟩ : ∃ r, r = z.sign := ⟨_, rfl⟩
      obtain ⟨zn, hzn⟩ : ∃ r, r = z.natAbs := ⟨_, rfl⟩
      rw [← hzs, ← hzn] at HFL HP
      rw [← hu]
      obtain ⟨⟨r1, r2, r4, r3⟩, hr⟩ : ∃ r, r = fitY (u1, u2, u3) := ⟨_, rfl⟩
      have HLM := Lib.hid (show ∀ (a : Option Addr) (c : Nat) W, u2.length ≤ c → Own W W0.heap.size a u2 → Below W0.heap.size W0 W → Calls Tryd.prog 116 #[.agg #[.int .i64 u1, .slice a u2.length c, .int .i64 u3]] W fun e w' => ∃ a c, e = .returned (.tuple #[.agg #[.int .i64 r1, .slice a r2.length c, .int .i64 r4], .int .i64 r3]) ∧ r2.length ≤ c ∧ Own w' W0.heap.size a r2 ∧ Below W0.heap.size W0 w' from
        fun a c W hc ho hW => by
          have := iLimitY u1 u2 u3 a c W W0.heap.size HU.out hc ho
          rw [← hr] at this
          exact this.mono fun e w' ⟨a, c, he, hc, ho, hb⟩ => ⟨a, c, he, hc, ho, hW.trans (hb.mono hW.size)⟩)
      rw [← hr]
      clear p1 p2 p3 p4 hx hW0 hB hl IX hu hr sm hm e1 hk h1 hx1 hx2 hj hz hzl hzs hzn
      go_enter Tryd.func65, Tryd.ntmps65
      go_wp2_with fail
      rw [HW0.out]
      clear k1 k2 k3
      refine (HI.out _ hT).mono ?_
      rintro e w1 ⟨rfl, hb⟩
      obtain ⟨k1, k2, k3⟩ := SS.out _ hb
      go_wp2_with fail
      refine (HBY.out _).mono ?_
      rintro e w2 ⟨rfl, rfl⟩
      go_wp2_with fail
      refine (HFL.out _ hb).mono ?_
      rintro e w5 ⟨a5, c5, rfl, ho5, hb5⟩
      have HO5 := Lib.hid ho5
      clear ho5
      go_wp2_with fail
      refine (HP.out _ _ _ hb5 HO5.out).mono ?_
      rintro e w3 ⟨a3, c3, rfl, hc3, ho3, hb3⟩
      go_wp2_with fail
      refine (HLM.out _ _ _ hc3 ho3 hb3).mono ?_
      rintro e w4 ⟨a4, c4, rfl, hc4, ho4, hb4⟩
      have HC4 := Lib.hid hc4
      have HO4 := Lib.hid ho4
      clear hc3 ho3 hc4 ho4
      obtain ⟨q1, q2, q3, q4, q5, q6⟩ := SR.out _ hb4
      go_wp2_with fail
      refine bodyPost_ret (v := .tuple #[.agg #[.int .i64 r1, .slice a4 r2.length c4, .int .i64 r4], .int .i64 r3]) (by simp [results, Tryd.results65, go_sem, *]) rfl ?_
      exact retYC_end (g := w.heap.size + 1) (r := (r1, r2, r4, r3)) P3.out P4.out hb4 (by omega) (by omega) _ _ _ HO4.out HC4.out
    · rw [rngY_rng e1.out hk]
      rw [decide_eq_true (show k < -1000 ∨ 1000 < k by omega)] at HBY
      clear p1 p2 p3 p4 hx hW0 hB hl IX e1 hk h1
      go_enter Tryd.func65, Tryd.ntmps65
      go_wp2_with fail
      rw [HW0.out]
      clear k1 k2 k3
      refine (HI.out _ hT).mono ?_
      rintro e w1 ⟨rfl, hb⟩
      obtain ⟨k1, k2, k3⟩ := SS.out _ hb
      go_wp2_with fail
      refine (HBY.out _).mono ?_
      rintro e w2 ⟨rfl, rfl⟩
      obtain ⟨q1, q2, q3, q4, q5, q6⟩ := SR.out _ hb
      go_wp2_with fail
      refine bodyPost_ret (v := .tuple #[.agg #[.int .i64 0, .slice none 0 0, .int .i64 0], .int .i64 2]) (by simp [results, Tryd.results65, go_sem, *]) rfl ?_
      exact retYC_zero (g := w.heap.size + 1) 2 P3.out P4.out hb (by omega) _ _ _

set_option maxRecDepth 100000 in
set_option maxHeartbeats 4000000 in
theorem sFloorDyadic (s : Int) (a : Option Addr) (xs : List Int) (c1 : Nat) (x k : Int) (w : World) (B : Nat) (hB : B ≤ w.heap.size) (hx : Ints w B a xs) (hl : xs.length ≤ 9223372036854775807) (hc1 : xs.length ≤ c1) :
    Calls Tryd.prog 64 #[.agg #[.int .i64 s, .slice a xs.length c1, .int .i64 x], .int .i64 k] w (RetYC (rngY 1000 flF s xs x k) w.heap.size w) := by
  obtain ⟨W0, hW0⟩ : ∃ W0 : World, (w.alloc (.cells #[.int .i64 s, .slice a xs.length c1, .int .i64 x] 50)).alloc (.cells #[.int .i64 0, .slice none 0 0, .int .i64 0] 50) = W0 := ⟨_, rfl⟩
  obtain ⟨p1, p2, p3, p4⟩ := two_boxT w 50 50 #[.int .i64 s, .slice a xs.length c1, .int .i64 x] #[.int .i64 0, .slice none 0 0, .int .i64 0]
  rw [hW0] at p1 p2 p3 p4
  have HW0 := Lib.hid hW0
  have P3 := Lib.hid p3
  have P4 := Lib.hid p4
  have SS := Lib.hid (show ∀ W, Below W0.heap.size W0 W → (W.cell? ⟨w.heap.size, 0, none⟩ = some (.int .i64 s) ∧ W.cell? ⟨w.heap.size, 1, none⟩ = some (.slice a xs.length c1) ∧ W.cell? ⟨w.heap.size, 2, none⟩ = some (.int .i64 x)) from
    fun W hW => (p1.below hW).tri)
  have SR := Lib.hid (show ∀ W, Below W0.heap.size W0 W → _ from fun W hW => (p2.below hW).tri6)
  have hT : Below W0.heap.size W0 W0 := Below.refl _ _
  have IX := Lib.hid (show ∀ W, Below W0.heap.size W0 W → Ints W B a xs ∧ B ≤ W.heap.size from fun W hW => ⟨hx.below ((p3.mono hB).trans (hW.mono (by omega))), by have := hW.size; omega⟩)
  have HI := Lib.hid (show ∀ W, Below W0.heap.size W0 W → Calls Tryd.prog 129 #[.agg #[.int .i64 s, .slice a xs.length c1, .int .i64 x], .int .i64 k, .int .i64 (-1000), .int .i64 1000] W fun e w' => e = .returned (.int .i64 (rangeC s xs x k (-1000) 1000)) ∧ Below W0.heap.size W0 w' from
    fun W hW => (sRange s a xs c1 x k (-1000) 1000 W B (IX.out W hW).2 hl (IX.out W hW).1).mono fun e w' ⟨he, hb⟩ => ⟨he, hW.trans (hb.mono hW.size)⟩)
  obtain ⟨k1, k2, k3⟩ := SS.out _ hT
  cases h1 : dyB s xs x
  · rw [rngY_no (fun h => by rw [dyB_iff.2 h] at h1; cases h1)]
    rw [show rangeC s xs x k (-1000) 1000 = 1 by unfold rangeC; rw [h1]; simp] at HI
    clear p1 p2 p3 p4 hx hW0 hB h1 hl IX hc1
    go_enter Tryd.func64, Tryd.ntmps64
    go_wp2_with fail
    rw [HW0.out]
    refine (HI.out _ hT).mono ?_
    rintro e w1 ⟨rfl, hb⟩
    obtain ⟨q1, q2, q3, q4, q5, q6⟩ := SR.out _ hb
    go_wp2_with fail
    refine bodyPost_ret (v := .tuple #[.agg #[.int .i64 0, .slice none 0 0, .int .i64 0], .int .i64 1]) (by simp [results, Tryd.results64, go_sem, *]) rfl ?_
    exact retYC_zero (g := w.heap.size + 1) 1 P3.out P4.out hb (by omega) _ _ _
  · have e1 := Lib.hid (dyB_iff.1 h1)
    by_cases hk : -1000 ≤ k ∧ k ≤ 1000
    · obtain ⟨m, rfl, hm, sm, hx1, hx2⟩ := isDy_of e1.out
      rw [rngY_yes e1.out hk]
      rw [show rangeC s (lim m) x k (-1000) 1000 = 0 by unfold rangeC; rw [h1, if_pos rfl, if_pos hk]] at HI
      obtain ⟨⟨u1, u2, u3⟩, hu⟩ : ∃ r, r = flF s m x k := ⟨_, rfl⟩
      have HU := Lib.hid (show u2.length ≤ 9223372036854775807 from by
        have h2 : u2 = (flF s m x k).2.1 := by rw [← hu]
        rw [h2]
        exact Nat.le_trans (flF_len hm sm (by omega) (by omega)) (by omega))
      have HP := Lib.hid (show ∀ W, Below W0.heap.size W0 W → Calls Tryd.prog 130 #[.agg #[.int .i64 s, .slice a (lim m).length c1, .int .i64 x], .int .i64 k] W fun e w' => ∃ a c, e = .returned (.agg #[.int .i64 u1, .slice a u2.length c, .int .i64 u3]) ∧ u2.length ≤ c ∧ Own w' W0.heap.size a u2 ∧ Below W0.heap.size W0 w' from
        fun W hW => by
          have := sFloor3 s a m c1 x k W B (IX.out W hW).2 (IX.out W hW).1 sm hm (by omega) (by omega) (by omega) (by omega)
          rw [← hu] at this
          exact this.mono fun e w' ⟨a, c, he, hc, ho, hb⟩ => ⟨a, c, he, hc, ho.mono hW.size, hW.trans (hb.mono hW.size)⟩)
      rw [← hu]
      obtain ⟨⟨r1, r2, r4, r3⟩, hr⟩ : ∃ r, r = fitY (u1, u2, u3) := ⟨_, rfl⟩
      have HLM := Lib.hid (show ∀ (a : Option Addr) (c : Nat) W, u2.length ≤ c → Own W W0.heap.size a u2 → Below W0.heap.size W0 W → Calls Tryd.prog 113 #[.agg #[.int .i64 u1, .slice a u2.length c, .int .i64 u3]] W fun e w' => ∃ a c, e = .returned (.tuple #[.agg #[.int .i64 r1, .slice a r2.length c, .int .i64 r4], .int .i64 r3]) ∧ r2.length ≤ c ∧ Own w' W0.heap.size a r2 ∧ Below W0.heap.size W0 w' from
        fun a c W hc ho hW => by
          have := sFitY u1 u2 u3 a c W W0.heap.size HU.out hc ho
          rw [← hr] at this
          exact this.mono fun e w' ⟨a, c, he, hc, ho, hb⟩ => ⟨a, c, he, hc, ho, hW.trans (hb.mono hW.size)⟩)
      rw [← hr]
      clear p1 p2 p3 p4 hx hW0 hB hl IX hu hr sm hm e1 hk h1 hx1 hx2  hc1
      go_enter Tryd.func64, Tryd.ntmps64
      go_wp2_with fail
      rw [HW0.out]
      clear k1 k2 k3
      refine (HI.out _ hT).mono ?_
      rintro e w1 ⟨rfl, hb⟩
      obtain ⟨k1, k2, k3⟩ := SS.out _ hb
      go_wp2_with fail
      refine (HP.out _ hb).mono ?_
      rintro e w3 ⟨a3, c3, rfl, hc3, ho3, hb3⟩
      go_wp2_with fail
      refine (HLM.out _ _ _ hc3 ho3 hb3).mono ?_
      rintro e w4 ⟨a4, c4, rfl, hc4, ho4, hb4⟩
      have HC4 := Lib.hid hc4
      have HO4 := Lib.hid ho4
      clear hc3 ho3 hc4 ho4
      obtain ⟨q1, q2, q3, q4, q5, q6⟩ := SR.out _ hb4
      have hsz : w.heap.size + 1 < w4.heap.size := by have := hb4.size; have := P4.out; omega
      go_wp2_with fail
      refine bodyPost_ret (v := .tuple #[.agg #[.int .i64 r1, .slice a4 r2.length c4, .int .i64 r4], .int .i64 r3]) (by simp [results, Tryd.results64, go_sem, *]) rfl ?_
      exact (retYC_end (g := w.heap.size + 1) (r := (r1, r2, r4, r3)) P3.out P4.out hb4 (by omega) (by omega) _ _ _ HO4.out HC4.out).alloc _
    · rw [rngY_rng e1.out hk]
      rw [show rangeC s xs x k (-1000) 1000 = 2 by unfold rangeC; rw [h1, if_pos rfl, if_neg hk]] at HI
      clear p1 p2 p3 p4 hx hW0 hB hl IX e1 hk h1 hc1
      go_enter Tryd.func64, Tryd.ntmps64
      go_wp2_with fail
      rw [HW0.out]
      clear k1 k2 k3
      refine (HI.out _ hT).mono ?_
      rintro e w1 ⟨rfl, hb⟩
      obtain ⟨k1, k2, k3⟩ := SS.out _ hb
      obtain ⟨q1, q2, q3, q4, q5, q6⟩ := SR.out _ hb
      go_wp2_with fail
      refine bodyPost_ret (v := .tuple #[.agg #[.int .i64 0, .slice none 0 0, .int .i64 0], .int .i64 2]) (by simp [results, Tryd.results64, go_sem, *]) rfl ?_
      exact retYC_zero (g := w.heap.size + 1) 2 P3.out P4.out hb (by omega) _ _ _

set_option maxRecDepth 100000 in
set_option maxHeartbeats 4000000 in
theorem iCeilDyadic (s : Int) (a : Option Addr) (xs : List Int) (c1 : Nat) (x k : Int) (w : World) (B : Nat) (hB : B ≤ w.heap.size) (hx : Ints w B a xs) (hl : xs.length ≤ 9223372036854775807) (hTab : Tab w) :
    Calls Tryd.prog 67 #[.agg #[.int .i64 s, .slice a xs.length c1, .int .i64 x], .int .i64 k] w (RetYC (rngY 1000 ceF s xs x k) w.heap.size w) := by
  obtain ⟨W0, hW0⟩ : ∃ W0 : World, (w.alloc (.cells #[.int .i64 s, .slice a xs.length c1, .int .i64 x] 50)).alloc (.cells #[.int .i64 0, .slice none 0 0, .int .i64 0] 50) = W0 := ⟨_, rfl⟩
  obtain ⟨p1, p2, p3, p4⟩ := two_boxT w 50 50 #[.int .i64 s, .slice a xs.length c1, .int .i64 x] #[.int .i64 0, .slice none 0 0, .int .i64 0]
  rw [hW0] at p1 p2 p3 p4
  have HW0 := Lib.hid hW0
  have P3 := Lib.hid p3
  have P4 := Lib.hid p4
  have HTB := Lib.hid (show ∀ W, Below W0.heap.size W0 W → Tab W from fun W hW => (hTab.below p3).below hW)
  clear hTab
  have SS := Lib.hid (show ∀ W, Below W0.heap.size W0 W → (W.cell? ⟨w.heap.size, 0, none⟩ = some (.int .i64 s) ∧ W.cell? ⟨w.heap.size, 1, none⟩ = some (.slice a xs.length c1) ∧ W.cell? ⟨w.heap.size, 2, none⟩ = some (.int .i64 x)) from
    fun W hW => (p1.below hW).tri)
  have SR := Lib.hid (show ∀ W, Below W0.heap.size W0 W → _ from fun W hW => (p2.below hW).tri6)
  have hT : Below W0.heap.size W0 W0 := Below.refl _ _
  have IX := Lib.hid (show ∀ W, Below W0.heap.size W0 W → Ints W B a xs ∧ B ≤ W.heap.size from fun W hW => ⟨hx.below ((p3.mono hB).trans (hW.mono (by omega))), by have := hW.size; omega⟩)
  have HI := Lib.hid (show ∀ W, Below W0.heap.size W0 W → Calls Tryd.prog 122 #[.agg #[.int .i64 s, .slice a xs.length c1, .int .i64 x]] W fun e w' => e = .returned (.bool (dyB s xs x)) ∧ Below W0.heap.size W0 w' from
    fun W hW => (iIsDyadic s a xs c1 x W B (IX.out W hW).2 hl (IX.out W hW).1).mono fun e w' ⟨he, hb⟩ => ⟨he, hW.trans (hb.mono hW.size)⟩)
  have HBY := Lib.hid (fun W => iBeyond k 1000 W (by omega) (by omega))
  obtain ⟨k1, k2, k3⟩ := SS.out _ hT
  cases h1 : dyB s xs x
  · rw [rngY_no (fun h => by rw [dyB_iff.2 h] at h1; cases h1)]
    rw [h1] at HI
    clear p1 p2 p3 p4 hx hW0 hB h1 hl IX
    go_enter Tryd.func67, Tryd.ntmps67
    go_wp2_with fail
    rw [HW0.out]
    refine (HI.out _ hT).mono ?_
    rintro e w1 ⟨rfl, hb⟩
    obtain ⟨q1, q2, q3, q4, q5, q6⟩ := SR.out _ hb
    go_wp2_with fail
    refine bodyPost_ret (v := .tuple #[.agg #[.int .i64 0, .slice none 0 0, .int .i64 0], .int .i64 1]) (by simp [results, Tryd.results67, go_sem, *]) rfl ?_
    exact retYC_zero (g := w.heap.size + 1) 1 P3.out P4.out hb (by omega) _ _ _
  · have e1 := Lib.hid (dyB_iff.1 h1)
    rw [h1] at HI
    by_cases hk : -1000 ≤ k ∧ k ≤ 1000
    · obtain ⟨m, rfl, hm, sm, hx1, hx2⟩ := isDy_of e1.out
      rw [rngY_yes e1.out hk]
      rw [decide_eq_false (show ¬ (k < -1000 ∨ 1000 < k) by omega)] at HBY
      obtain ⟨⟨u1, u2, u3⟩, hu⟩ : ∃ r, r = ceF s m x k := ⟨_, rfl⟩
      have HU := Lib.hid (show u2.length ≤ 9223372036854775807 from by
        have h2 : u2 = (ceF s m x k).2.1 := by rw [← hu]
        rw [h2]
        exact Nat.le_trans (ceF_len hm sm (by omega) (by omega)) (by omega))
      obtain ⟨j, hj⟩ : ∃ j : Int, j = -k := ⟨_, rfl⟩
      have hnk : IntKind.i64.wrap (-k) = j := by rw [hj, IntKind.wrap_i64]; omega
      have hnk2 : wrap64 (-k) = j := by rw [hj]; unfold wrap64; omega
      obtain ⟨z, hz⟩ : ∃ z : Int, z = -(shZ (-(s * (m : Int))) (x + k)) := ⟨_, rfl⟩
      have hzl : (lim z.natAbs).length ≤ 1100 := by rw [hz]; exact ceF_lim hm sm (by omega) (by omega)
      have HFL := Lib.hid (show ∀ W, Below W0.heap.size W0 W → Calls Tryd.prog 133 #[.agg #[.int .i64 s, .slice a (lim m).length c1, .int .i64 x], .int .i64 k] W fun e w' => ∃ a c, e = .returned (.agg #[.int .i64 z.sign, .slice a (lim z.natAbs).length c]) ∧ Own w' W0.heap.size a (lim z.natAbs) ∧ Below W0.heap.size W0 w' from
        fun W hW => by
          have := iCeilW s a m c1 x k W B (IX.out W hW).2 (IX.out W hW).1 sm hm (by omega) (by omega) (by omega) (by omega) (HTB.out W hW)
          rw [← hz] at this
          exact this.mono fun e w' ⟨a, c, he, hc, ho, hb⟩ => ⟨a, c, he, ho.mono hW.size, hW.trans (hb.mono hW.size)⟩)
      have HP := Lib.hid (show ∀ (a : Option Addr) (c : Nat) W, Below W0.heap.size W0 W → Own W W0.heap.size a (lim z.natAbs) → Calls Tryd.prog 117 #[.agg #[.int .i64 z.sign, .slice a (lim z.natAbs).length c], .int .i64 j] W fun e w' => ∃ a c, e = .returned (.agg #[.int .i64 u1, .slice a u2.length c, .int .i64 u3]) ∧ u2.length ≤ c ∧ Own w' W0.heap.size a u2 ∧ Below W0.heap.size W0 w' from
        fun a c W hW ho => by
          have := iReduced z.sign a z.natAbs c j W W.heap.size (Nat.le_refl _) ho.ints (Sg.of z) (by omega) (by omega) (by omega) (HTB.out W hW)
          rw [show redS z.sign z.natAbs j = ceF s m x k by rw [hz, hj]; rfl, ← hu] at this
          exact this.mono fun e w' ⟨a, c, he, hc, ho, hb⟩ => ⟨a, c, he, hc, ho.mono hW.size, hW.trans (hb.mono hW.size)⟩)
      obtain ⟨zs, hzs⟩ : ∃ r, r = z.sign := ⟨_, rfl⟩
      obtain ⟨zn, hzn⟩ : ∃ r, r = z.natAbs := ⟨_, rfl⟩
      rw [← hzs, ← hzn] at HFL HP
      rw [← hu]
      obtain ⟨⟨r1, r2, r4, r3⟩, hr⟩ : ∃ r, r = fitY (u1, u2, u3) := ⟨_, rfl⟩
      have HLM := Lib.hid (show ∀ (a : Option Addr) (c : Nat) W, u2.length ≤ c → Own W W0.heap.size a u2 → Below W0.heap.size W0 W → Calls Tryd.prog 116 #[.agg #[.int .i64 u1, .slice a u2.length c, .int .i64 u3]] W fun e w' => ∃ a c, e = .returned (.tuple #[.agg #[.int .i64 r1, .slice a r2.length c, .int .i64 r4], .int .i64 r3]) ∧ r2.length ≤ c ∧ Own w' W0.heap.size a r2 ∧ Below W0.heap.size W0 w' from
        fun a c W hc ho hW => by
          have := iLimitY u1 u2 u3 a c W W0.heap.size HU.out hc ho
          rw [← hr] at this
          exact this.mono fun e w' ⟨a, c, he, hc, ho, hb⟩ => ⟨a, c, he, hc, ho, hW.trans (hb.mono hW.size)⟩)
      rw [← hr]
      clear p1 p2 p3 p4 hx hW0 hB hl IX hu hr sm hm e1 hk h1 hx1 hx2 hj hz hzl hzs hzn
      go_enter Tryd.func67, Tryd.ntmps67
      go_wp2_with fail
      rw [HW0.out]
      clear k1 k2 k3
      refine (HI.out _ hT).mono ?_
      rintro e w1 ⟨rfl, hb⟩
      obtain ⟨k1, k2, k3⟩ := SS.out _ hb
      go_wp2_with fail
      refine (HBY.out _).mono ?_
      rintro e w2 ⟨rfl, rfl⟩
      go_wp2_with fail
      refine (HFL.out _ hb).mono ?_
      rintro e w5 ⟨a5, c5, rfl, ho5, hb5⟩
      have HO5 := Lib.hid ho5
      clear ho5
      go_wp2_with fail
      refine (HP.out _ _ _ hb5 HO5.out).mono ?_
      rintro e w3 ⟨a3, c3, rfl, hc3, ho3, hb3⟩
      go_wp2_with fail
      refine (HLM.out _ _ _ hc3 ho3 hb3).mono ?_
      rintro e w4 ⟨a4, c4, rfl, hc4, ho4, hb4⟩
      have HC4 := Lib.hid hc4
      have HO4 := Lib.hid ho4
      clear hc3 ho3 hc4 ho4
      obtain ⟨q1, q2, q3, q4, q5, q6⟩ := SR.out _ hb4
      go_wp2_with fail
      refine bodyPost_ret (v := .tuple #[.agg #[.int .i64 r1, .slice a4 r2.length c4, .int .i64 r4], .int .i64 r3]) (by simp [results, Tryd.results67, go_sem, *]) rfl ?_
      exact retYC_end (g := w.heap.size + 1) (r := (r1, r2, r4, r3)) P3.out P4.out hb4 (by omega) (by omega) _ _ _ HO4.out HC4.out
    · rw [rngY_rng e1.out hk]
      rw [decide_eq_true (show k < -1000 ∨ 1000 < k by omega)] at HBY
      clear p1 p2 p3 p4 hx hW0 hB hl IX e1 hk h1
      go_enter Tryd.func67, Tryd.ntmps67
      go_wp2_with fail
      rw [HW0.out]
      clear k1 k2 k3
      refine (HI.out _ hT).mono ?_
      rintro e w1 ⟨rfl, hb⟩
      obtain ⟨k1, k2, k3⟩ := SS.out _ hb
      go_wp2_with fail
      refine (HBY.out _).mono ?_
      rintro e w2 ⟨rfl, rfl⟩
      obtain ⟨q1, q2, q3, q4, q5, q6⟩ := SR.out _ hb
      go_wp2_with fail
      refine bodyPost_ret (v := .tuple #[.agg #[.int .i64 0, .slice none 0 0, .int .i64 0], .int .i64 2]) (by simp [results, Tryd.results67, go_sem, *]) rfl ?_
      exact retYC_zero (g := w.heap.size + 1) 2 P3.out P4.out hb (by omega) _ _ _

set_option maxRecDepth 100000 in
set_option maxHeartbeats 4000000 in
theorem sCeilDyadic (s : Int) (a : Option Addr) (xs : List Int) (c1 : Nat) (x k : Int) (w : World) (B : Nat) (hB : B ≤ w.heap.size) (hx : Ints w B a xs) (hl : xs.length ≤ 9223372036854775807) (hc1 : xs.length ≤ c1) :
    Calls Tryd.prog 66 #[.agg #[.int .i64 s, .slice a xs.length c1, .int .i64 x], .int .i64 k] w (RetYC (rngY 1000 ceF s xs x k) w.heap.size w) := by
  obtain ⟨W0, hW0⟩ : ∃ W0 : World, (w.alloc (.cells #[.int .i64 s, .slice a xs.length c1, .int .i64 x] 50)).alloc (.cells #[.int .i64 0, .slice none 0 0, .int .i64 0] 50) = W0 := ⟨_, rfl⟩
  obtain ⟨p1, p2, p3, p4⟩ := two_boxT w 50 50 #[.int .i64 s, .slice a xs.length c1, .int .i64 x] #[.int .i64 0, .slice none 0 0, .int .i64 0]
  rw [hW0] at p1 p2 p3 p4
  have HW0 := Lib.hid hW0
  have P3 := Lib.hid p3
  have P4 := Lib.hid p4
  have SS := Lib.hid (show ∀ W, Below W0.heap.size W0 W → (W.cell? ⟨w.heap.size, 0, none⟩ = some (.int .i64 s) ∧ W.cell? ⟨w.heap.size, 1, none⟩ = some (.slice a xs.length c1) ∧ W.cell? ⟨w.heap.size, 2, none⟩ = some (.int .i64 x)) from
    fun W hW => (p1.below hW).tri)
  have SR := Lib.hid (show ∀ W, Below W0.heap.size W0 W → _ from fun W hW => (p2.below hW).tri6)
  have hT : Below W0.heap.size W0 W0 := Below.refl _ _
  have IX := Lib.hid (show ∀ W, Below W0.heap.size W0 W → Ints W B a xs ∧ B ≤ W.heap.size from fun W hW => ⟨hx.below ((p3.mono hB).trans (hW.mono (by omega))), by have := hW.size; omega⟩)
  have HI := Lib.hid (show ∀ W, Below W0.heap.size W0 W → Calls Tryd.prog 129 #[.agg #[.int .i64 s, .slice a xs.length c1, .int .i64 x], .int .i64 k, .int .i64 (-1000), .int .i64 1000] W fun e w' => e = .returned (.int .i64 (rangeC s xs x k (-1000) 1000)) ∧ Below W0.heap.size W0 w' from
    fun W hW => (sRange s a xs c1 x k (-1000) 1000 W B (IX.out W hW).2 hl (IX.out W hW).1).mono fun e w' ⟨he, hb⟩ => ⟨he, hW.trans (hb.mono hW.size)⟩)
  obtain ⟨k1, k2, k3⟩ := SS.out _ hT
  cases h1 : dyB s xs x
  · rw [rngY_no (fun h => by rw [dyB_iff.2 h] at h1; cases h1)]
    rw [show rangeC s xs x k (-1000) 1000 = 1 by unfold rangeC; rw [h1]; simp] at HI
    clear p1 p2 p3 p4 hx hW0 hB h1 hl IX hc1
    go_enter Tryd.func66, Tryd.ntmps66
    go_wp2_with fail
    rw [HW0.out]
    refine (HI.out _ hT).mono ?_
    rintro e w1 ⟨rfl, hb⟩
    obtain ⟨q1, q2, q3, q4, q5, q6⟩ := SR.out _ hb
    go_wp2_with fail
    refine bodyPost_ret (v := .tuple #[.agg #[.int .i64 0, .slice none 0 0, .int .i64 0], .int .i64 1]) (by simp [results, Tryd.results66, go_sem, *]) rfl ?_
    exact retYC_zero (g := w.heap.size + 1) 1 P3.out P4.out hb (by omega) _ _ _
  · have e1 := Lib.hid (dyB_iff.1 h1)
    by_cases hk : -1000 ≤ k ∧ k ≤ 1000
    · obtain ⟨m, rfl, hm, sm, hx1, hx2⟩ := isDy_of e1.out
      rw [rngY_yes e1.out hk]
      rw [show rangeC s (lim m) x k (-1000) 1000 = 0 by unfold rangeC; rw [h1, if_pos rfl, if_pos hk]] at HI
      obtain ⟨⟨u1, u2, u3⟩, hu⟩ : ∃ r, r = ceF s m x k := ⟨_, rfl⟩
      have HU := Lib.hid (show u2.length ≤ 9223372036854775807 from by
        have h2 : u2 = (ceF s m x k).2.1 := by rw [← hu]
        rw [h2]
        exact Nat.le_trans (ceF_len hm sm (by omega) (by omega)) (by omega))
      have HP := Lib.hid (show ∀ W, Below W0.heap.size W0 W → Calls Tryd.prog 132 #[.agg #[.int .i64 s, .slice a (lim m).length c1, .int .i64 x], .int .i64 k] W fun e w' => ∃ a c, e = .returned (.agg #[.int .i64 u1, .slice a u2.length c, .int .i64 u3]) ∧ u2.length ≤ c ∧ Own w' W0.heap.size a u2 ∧ Below W0.heap.size W0 w' from
        fun W hW => by
          have := sCeil3 s a m c1 x k W B (IX.out W hW).2 (IX.out W hW).1 sm hm hc1 (by omega) (by omega) (by omega) (by omega)
          rw [← hu] at this
          exact this.mono fun e w' ⟨a, c, he, hc, ho, hb⟩ => ⟨a, c, he, hc, ho.mono hW.size, hW.trans (hb.mono hW.size)⟩)
      rw [← hu]
      obtain ⟨⟨r1, r2, r4, r3⟩, hr⟩ : ∃ r, r = fitY (u1, u2, u3) := ⟨_, rfl⟩
      have HLM := Lib.hid (show ∀ (a : Option Addr) (c : Nat) W, u2.length ≤ c → Own W W0.heap.size a u2 → Below W0.heap.size W0 W → Calls Tryd.prog 113 #[.agg #[.int .i64 u1, .slice a u2.length c, .int .i64 u3]] W fun e w' => ∃ a c, e = .returned (.tuple #[.agg #[.int .i64 r1, .slice a r2.length c, .int .i64 r4], .int .i64 r3]) ∧ r2.length ≤ c ∧ Own w' W0.heap.size a r2 ∧ Below W0.heap.size W0 w' from
        fun a c W hc ho hW => by
          have := sFitY u1 u2 u3 a c W W0.heap.size HU.out hc ho
          rw [← hr] at this
          exact this.mono fun e w' ⟨a, c, he, hc, ho, hb⟩ => ⟨a, c, he, hc, ho, hW.trans (hb.mono hW.size)⟩)
      rw [← hr]
      clear p1 p2 p3 p4 hx hW0 hB hl IX hu hr sm hm e1 hk h1 hx1 hx2  hc1
      go_enter Tryd.func66, Tryd.ntmps66
      go_wp2_with fail
      rw [HW0.out]
      clear k1 k2 k3
      refine (HI.out _ hT).mono ?_
      rintro e w1 ⟨rfl, hb⟩
      obtain ⟨k1, k2, k3⟩ := SS.out _ hb
      go_wp2_with fail
      refine (HP.out _ hb).mono ?_
      rintro e w3 ⟨a3, c3, rfl, hc3, ho3, hb3⟩
      go_wp2_with fail
      refine (HLM.out _ _ _ hc3 ho3 hb3).mono ?_
      rintro e w4 ⟨a4, c4, rfl, hc4, ho4, hb4⟩
      have HC4 := Lib.hid hc4
      have HO4 := Lib.hid ho4
      clear hc3 ho3 hc4 ho4
      obtain ⟨q1, q2, q3, q4, q5, q6⟩ := SR.out _ hb4
      have hsz : w.heap.size + 1 < w4.heap.size := by have := hb4.size; have := P4.out; omega
      go_wp2_with fail
      refine bodyPost_ret (v := .tuple #[.agg #[.int .i64 r1, .slice a4 r2.length c4, .int .i64 r4], .int .i64 r3]) (by simp [results, Tryd.results66, go_sem, *]) rfl ?_
      exact (retYC_end (g := w.heap.size + 1) (r := (r1, r2, r4, r3)) P3.out P4.out hb4 (by omega) (by omega) _ _ _ HO4.out HC4.out).alloc _
    · rw [rngY_rng e1.out hk]
      rw [show rangeC s xs x k (-1000) 1000 = 2 by unfold rangeC; rw [h1, if_pos rfl, if_neg hk]] at HI
      clear p1 p2 p3 p4 hx hW0 hB hl IX e1 hk h1 hc1
      go_enter Tryd.func66, Tryd.ntmps66
      go_wp2_with fail
      rw [HW0.out]
      clear k1 k2 k3
      refine (HI.out _ hT).mono ?_
      rintro e w1 ⟨rfl, hb⟩
      obtain ⟨k1, k2, k3⟩ := SS.out _ hb
      obtain ⟨q1, q2, q3, q4, q5, q6⟩ := SR.out _ hb
      go_wp2_with fail
      refine bodyPost_ret (v := .tuple #[.agg #[.int .i64 0, .slice none 0 0, .int .i64 0], .int .i64 2]) (by simp [results, Tryd.results66, go_sem, *]) rfl ?_
      exact retYC_zero (g := w.heap.size + 1) 2 P3.out P4.out hb (by omega) _ _ _
end Go.Proofs.YtofjpalehcdmfaaDoor
