/-
  Contracts: AddDyadics, SubtractDyadics, MultiplyDyadics and CompareDyadics of the program and of the model. Conditions: the limbs can be read; the library's table is as its initialiser lays it.
-/
import Derived.Test.YtnnbfoemmgddeaaDoorQh
import Derived.Test.YtnnbfoemmgddeaaDoorTg
namespace Go.Proofs.YtnnbfoemmgddeaaDoor
set_option linter.unusedVariables false
open Go Go.RowKit

theorem fieldW (s x : Int) (a : Option Addr) (n c : Nat) (w : World) : (Instr.field 30 (.agg #[.int .i64 s, .slice a n c, .int .i64 x]) 0).run Tryd.prog w = .ok (.agg #[.int .i64 s, .slice a n c]) w := by kernel_rfl
theorem fieldS (s : Int) (a : Option Addr) (n c : Nat) (w : World) : (Instr.field 28 (.agg #[.int .i64 s, .slice a n c]) 0).run Tryd.prog w = .ok (.int .i64 s) w := by kernel_rfl
def subW (z1 x z2 y : Int) : Int × List Int × Int := addW z1 x (-z2) y
noncomputable def bothY (s : Int) (xs : List Int) (x t : Int) (ys : List Int) (y : Int) : Int := @ite _ (IsDy s xs x ∧ IsDy t ys y) (Classical.propDecidable _) 0 1
theorem bothY_yes {s x t y : Int} {xs ys : List Int} (h : IsDy s xs x) (k : IsDy t ys y) : bothY s xs x t ys y = 0 := by unfold bothY; rw [if_pos ⟨h, k⟩]
theorem bothY_no {s x t y : Int} {xs ys : List Int} (h : ¬ (IsDy s xs x ∧ IsDy t ys y)) : bothY s xs x t ys y = 1 := by unfold bothY; rw [if_neg h]
noncomputable def binY (f : Int → Int → Int → Int → Int × List Int × Int) (s : Int) (xs : List Int) (x t : Int) (ys : List Int) (y : Int) : Int × List Int × Int × Int := @ite _ (IsDy s xs x ∧ IsDy t ys y) (Classical.propDecidable _) (fitY (f (wv s xs) x (wv t ys) y)) (0, [], 0, 1)
theorem binY_yes {f : Int → Int → Int → Int → Int × List Int × Int} {s x t y : Int} {m n : Nat} (h : IsDy s (lim m) x) (k : IsDy t (lim n) y) : binY f s (lim m) x t (lim n) y = fitY (f (s * (m : Int)) x (t * (n : Int)) y) := by unfold binY; rw [if_pos ⟨h, k⟩, wv_lim, wv_lim]
theorem binY_no {f : Int → Int → Int → Int → Int × List Int × Int} {s x t y : Int} {xs ys : List Int} (h : ¬ (IsDy s xs x ∧ IsDy t ys y)) : binY f s xs x t ys y = (0, [], 0, 1) := by unfold binY; rw [if_neg h]
theorem binY_len (f : Int → Int → Int → Int → Int × List Int × Int) (s : Int) (xs : List Int) (x t : Int) (ys : List Int) (y : Int) : (binY f s xs x t ys y).2.1.length ≤ 200 := by
  unfold binY
  split
  · exact fitY_len _
  · simp
noncomputable def cmpY (f : Int → Int → Int → Int → Int × List Int × Int) (s : Int) (xs : List Int) (x t : Int) (ys : List Int) (y : Int) : Int × Int := @ite _ (IsDy s xs x ∧ IsDy t ys y) (Classical.propDecidable _) ((f (wv s xs) x (wv t ys) y).1, 0) (0, 1)
theorem cmpY_yes {f : Int → Int → Int → Int → Int × List Int × Int} {s x t y : Int} {m n : Nat} (h : IsDy s (lim m) x) (k : IsDy t (lim n) y) : cmpY f s (lim m) x t (lim n) y = ((f (s * (m : Int)) x (t * (n : Int)) y).1, 0) := by unfold cmpY; rw [if_pos ⟨h, k⟩, wv_lim, wv_lim]
theorem cmpY_no {f : Int → Int → Int → Int → Int × List Int × Int} {s x t y : Int} {xs ys : List Int} (h : ¬ (IsDy s xs x ∧ IsDy t ys y)) : cmpY f s xs x t ys y = (0, 1) := by unfold cmpY; rw [if_neg h]
theorem addZ_len {z1 z2 x y : Int} (h1 : (lim z1.natAbs).length ≤ 200) (h2 : (lim z2.natAbs).length ≤ 200) (hx1 : -5000 ≤ x) (hx2 : x ≤ 5000) (hy1 : -5000 ≤ y) (hy2 : y ≤ 5000) : (addW z1 x z2 y).2.1.length ≤ 3000 := by
  unfold addW
  refine Nat.le_trans (redS_len _ _ _) ?_
  have e1 := shZ_up_len (z := z1) (k := x - min x y) (by omega)
  have e2 := shZ_up_len (z := z2) (k := y - min x y) (by omega)
  have e3 := lim_le_of_le (Int.natAbs_add_le (shZ z1 (x - min x y)) (shZ z2 (y - min x y)))
  have e4 := lim_add_len (shZ z1 (x - min x y)).natAbs (shZ z2 (y - min x y)).natAbs
  omega
theorem addW_len {s t x y : Int} {m n : Nat} (hm : (lim m).length ≤ 200) (hn : (lim n).length ≤ 200) (hs : Sg s m) (ht : Sg t n) (hx1 : -5000 ≤ x) (hx2 : x ≤ 5000) (hy1 : -5000 ≤ y) (hy2 : y ≤ 5000) : (addW (s * (m : Int)) x (t * (n : Int)) y).2.1.length ≤ 3000 := addZ_len (by rw [hs.abs]; exact hm) (by rw [ht.abs]; exact hn) hx1 hx2 hy1 hy2
theorem subW_len {s t x y : Int} {m n : Nat} (hm : (lim m).length ≤ 200) (hn : (lim n).length ≤ 200) (hs : Sg s m) (ht : Sg t n) (hx1 : -5000 ≤ x) (hx2 : x ≤ 5000) (hy1 : -5000 ≤ y) (hy2 : y ≤ 5000) : (subW (s * (m : Int)) x (t * (n : Int)) y).2.1.length ≤ 3000 := addZ_len (by rw [hs.abs]; exact hm) (by rw [Int.natAbs_neg, ht.abs]; exact hn) hx1 hx2 hy1 hy2
theorem mulW_len {s t x y : Int} {m n : Nat} (hm : (lim m).length ≤ 200) (hn : (lim n).length ≤ 200) (hs : Sg s m) (ht : Sg t n) (hx1 : -5000 ≤ x) (hx2 : x ≤ 5000) (hy1 : -5000 ≤ y) (hy2 : y ≤ 5000) : (mulW (s * (m : Int)) x (t * (n : Int)) y).2.1.length ≤ 3000 := by
  unfold mulW
  refine Nat.le_trans (redS_len _ _ _) ?_
  rw [Int.natAbs_mul, hs.abs, ht.abs]
  have := lim_mul_len m n
  omega

set_option maxRecDepth 100000 in
set_option maxHeartbeats 4000000 in
theorem iAddDyadics (s : Int) (a : Option Addr) (xs : List Int) (c1 : Nat) (x : Int) (t : Int) (b : Option Addr) (ys : List Int) (c2 : Nat) (y : Int) (w : World) (B C : Nat) (hB : B ≤ w.heap.size) (hC : C ≤ w.heap.size) (hx : Ints w B a xs) (hy : Ints w C b ys) (hl : xs.length ≤ 9223372036854775807) (hl' : ys.length ≤ 9223372036854775807) (hTab : Tab w) :
    Calls Tryd.prog 15 #[.agg #[.int .i64 s, .slice a xs.length c1, .int .i64 x], .agg #[.int .i64 t, .slice b ys.length c2, .int .i64 y]] w (RetYC (binY addW s xs x t ys y) w.heap.size w) := by
  obtain ⟨W0, hW0⟩ : ∃ W0 : World, ((w.alloc (.cells #[.int .i64 s, .slice a xs.length c1, .int .i64 x] 30)).alloc (.cells #[.int .i64 t, .slice b ys.length c2, .int .i64 y] 30)).alloc (.cells #[.int .i64 0, .slice none 0 0, .int .i64 0] 30) = W0 := ⟨_, rfl⟩
  obtain ⟨p1, p2, p5, p3, p4⟩ := three_boxT w 30 30 30 #[.int .i64 s, .slice a xs.length c1, .int .i64 x] #[.int .i64 t, .slice b ys.length c2, .int .i64 y] #[.int .i64 0, .slice none 0 0, .int .i64 0]
  rw [hW0] at p1 p2 p3 p4 p5
  have HW0 := Lib.hid hW0
  have P3 := Lib.hid p3
  have P4 := Lib.hid p4
  have HTB := Lib.hid (show ∀ W, Below W0.heap.size W0 W → Tab W from fun W hW => (hTab.below p3).below hW)
  clear hTab
  have SS := Lib.hid (show ∀ W, Below W0.heap.size W0 W → (W.cell? ⟨w.heap.size, 0, none⟩ = some (.int .i64 s) ∧ W.cell? ⟨w.heap.size, 1, none⟩ = some (.slice a xs.length c1) ∧ W.cell? ⟨w.heap.size, 2, none⟩ = some (.int .i64 x) ∧ W.cell? ⟨w.heap.size + 1, 0, none⟩ = some (.int .i64 t) ∧ W.cell? ⟨w.heap.size + 1, 1, none⟩ = some (.slice b ys.length c2) ∧ W.cell? ⟨w.heap.size + 1, 2, none⟩ = some (.int .i64 y)) from
    fun W hW => ⟨(p1.below hW).cell 0, (p1.below hW).cell 1, (p1.below hW).cell 2, (p2.below hW).cell 0, (p2.below hW).cell 1, (p2.below hW).cell 2⟩)
  have SR := Lib.hid (show ∀ W, Below W0.heap.size W0 W → _ from fun W hW => (p5.below hW).tri6)
  have hT : Below W0.heap.size W0 W0 := Below.refl _ _
  have IX := Lib.hid (show ∀ W, Below W0.heap.size W0 W → Ints W B a xs ∧ Ints W C b ys ∧ B ≤ W.heap.size ∧ C ≤ W.heap.size from fun W hW => ⟨hx.below ((p3.mono hB).trans (hW.mono (by omega))), hy.below ((p3.mono hC).trans (hW.mono (by omega))), by have := hW.size; omega, by have := hW.size; omega⟩)
  have HI1 := Lib.hid (show ∀ W, Below W0.heap.size W0 W → Calls Tryd.prog 28 #[.agg #[.int .i64 s, .slice a xs.length c1, .int .i64 x]] W fun e w' => e = .returned (.bool (dyB s xs x)) ∧ Below W0.heap.size W0 w' from
    fun W hW => (iIsDyadic s a xs c1 x W B (IX.out W hW).2.2.1 hl (IX.out W hW).1).mono fun e w' ⟨he, hb⟩ => ⟨he, hW.trans (hb.mono hW.size)⟩)
  have HI2 := Lib.hid (show ∀ W, Below W0.heap.size W0 W → Calls Tryd.prog 28 #[.agg #[.int .i64 t, .slice b ys.length c2, .int .i64 y]] W fun e w' => e = .returned (.bool (dyB t ys y)) ∧ Below W0.heap.size W0 w' from
    fun W hW => (iIsDyadic t b ys c2 y W C (IX.out W hW).2.2.2 hl' (IX.out W hW).2.1).mono fun e w' ⟨he, hb⟩ => ⟨he, hW.trans (hb.mono hW.size)⟩)
  obtain ⟨k1, k2, k3, k4, k5, k6⟩ := SS.out _ hT
  cases h1 : dyB s xs x
  · rw [binY_no (fun h => by rw [dyB_iff.2 h.1] at h1; cases h1)]
    rw [h1] at HI1
    clear p1 p2 p3 p4 p5 hx hy hW0 hB hC hl hl' h1 IX
    go_enter Tryd.func15, Tryd.ntmps15
    go_wp2_with fail
    rw [HW0.out]
    refine (HI1.out _ hT).mono ?_
    rintro e w1 ⟨rfl, hb⟩
    clear k1 k2 k3 k4 k5 k6
    obtain ⟨k1, k2, k3, k4, k5, k6⟩ := SS.out _ hb
    obtain ⟨q1, q2, q3, q4, q5, q6⟩ := SR.out _ hb
    go_wp2_with fail
    refine bodyPost_ret (v := .tuple #[.agg #[.int .i64 0, .slice none 0 0, .int .i64 0], .int .i64 1]) (by simp [results, Tryd.results15, go_sem, *]) rfl ?_
    exact retYC_zero (g := w.heap.size + 1 + 1) 1 P3.out P4.out hb (by omega) _ _ _
  · have e1 := Lib.hid (dyB_iff.1 h1)
    rw [h1] at HI1
    cases h2 : dyB t ys y
    · rw [binY_no (fun h => by rw [dyB_iff.2 h.2] at h2; cases h2)]
      rw [h2] at HI2
      clear p1 p2 p3 p4 p5 hx hy hW0 hB hC hl hl' h1 h2 IX e1
      go_enter Tryd.func15, Tryd.ntmps15
      go_wp2_with fail
      rw [HW0.out]
      refine (HI1.out _ hT).mono ?_
      rintro e w1 ⟨rfl, hb⟩
      clear k1 k2 k3 k4 k5 k6
      obtain ⟨k1, k2, k3, k4, k5, k6⟩ := SS.out _ hb
      go_wp2_with fail
      refine (HI2.out _ hb).mono ?_
      rintro e w2 ⟨rfl, hb2⟩
      obtain ⟨q1, q2, q3, q4, q5, q6⟩ := SR.out _ hb2
      go_wp2_with fail
      refine bodyPost_ret (v := .tuple #[.agg #[.int .i64 0, .slice none 0 0, .int .i64 0], .int .i64 1]) (by simp [results, Tryd.results15, go_sem, *]) rfl ?_
      exact retYC_zero (g := w.heap.size + 1 + 1) 1 P3.out P4.out hb2 (by omega) _ _ _
    · have e2 := Lib.hid (dyB_iff.1 h2)
      rw [h2] at HI2
      clear h1 h2
      obtain ⟨m, rfl, hm, sm, hx1, hx2⟩ := isDy_of e1.out
      obtain ⟨n, rfl, hn, sn, hy1, hy2⟩ := isDy_of e2.out
      rw [binY_yes e1.out e2.out]
      obtain ⟨⟨u1, u2, u3⟩, hu⟩ : ∃ r, r = addW (s * (m : Int)) x (t * (n : Int)) y := ⟨_, rfl⟩
      have HP := Lib.hid (show ∀ W, Below W0.heap.size W0 W → Calls Tryd.prog 30 #[.agg #[.int .i64 s, .slice a (lim m).length c1, .int .i64 x], .agg #[.int .i64 t, .slice b (lim n).length c2, .int .i64 y]] W fun e w' => ∃ a c, e = .returned (.agg #[.int .i64 u1, .slice a u2.length c, .int .i64 u3]) ∧ u2.length ≤ c ∧ Own w' W0.heap.size a u2 ∧ Below W0.heap.size W0 w' from
        fun W hW => by
          have := iPlusD s a m c1 x t b n c2 y W B C (IX.out W hW).2.2.1 (IX.out W hW).2.2.2 (IX.out W hW).1 (IX.out W hW).2.1 sm sn (by omega) (by omega) (by omega) (by omega) (by omega) (by omega) (HTB.out W hW)
          change Calls _ _ _ _ (RetYR (addW (s * (m : Int)) x (t * (n : Int)) y) W) at this
          rw [← hu] at this
          exact this.mono fun e w' ⟨a, c, he, hc, ho, hb⟩ => ⟨a, c, he, hc, ho.mono hW.size, hW.trans (hb.mono hW.size)⟩)
      have HU := Lib.hid (show u2.length ≤ 9223372036854775807 from by
        have h2 : u2 = (addW (s * (m : Int)) x (t * (n : Int)) y).2.1 := by rw [← hu]
        rw [h2]
        exact Nat.le_trans (addW_len hm hn sm sn (by omega) (by omega) (by omega) (by omega)) (by omega))
      rw [← hu]
      obtain ⟨⟨r1, r2, r4, r3⟩, hr⟩ : ∃ r, r = fitY (u1, u2, u3) := ⟨_, rfl⟩
      have HLM := Lib.hid (show ∀ (a : Option Addr) (c : Nat) W, u2.length ≤ c → Own W W0.heap.size a u2 → Below W0.heap.size W0 W → Calls Tryd.prog 29 #[.agg #[.int .i64 u1, .slice a u2.length c, .int .i64 u3]] W fun e w' => ∃ a c, e = .returned (.tuple #[.agg #[.int .i64 r1, .slice a r2.length c, .int .i64 r4], .int .i64 r3]) ∧ r2.length ≤ c ∧ Own w' W0.heap.size a r2 ∧ Below W0.heap.size W0 w' from
        fun a c W hc ho hW => by
          have := iLimitY u1 u2 u3 a c W W0.heap.size HU.out hc ho
          rw [← hr] at this
          exact this.mono fun e w' ⟨a, c, he, hc, ho, hb⟩ => ⟨a, c, he, hc, ho, hW.trans (hb.mono hW.size)⟩)
      rw [← hr]
      clear p1 p2 p3 p4 p5 hx hy hW0 hB hC hl hl' IX hu hr sm sn hm hn e1 e2 hx1 hx2 hy1 hy2
      go_enter Tryd.func15, Tryd.ntmps15
      go_wp2_with fail
      rw [HW0.out]
      refine (HI1.out _ hT).mono ?_
      rintro e w1 ⟨rfl, hb⟩
      clear k1 k2 k3 k4 k5 k6
      obtain ⟨k1, k2, k3, k4, k5, k6⟩ := SS.out _ hb
      go_wp2_with fail
      refine (HI2.out _ hb).mono ?_
      rintro e w2 ⟨rfl, hb2⟩
      clear k1 k2 k3 k4 k5 k6
      obtain ⟨k1, k2, k3, k4, k5, k6⟩ := SS.out _ hb2
      go_wp2_with fail
      refine (HP.out _ hb2).mono ?_
      rintro e w3 ⟨a3, c3, rfl, hc3, ho3, hb3⟩
      go_wp2_with fail
      refine (HLM.out _ _ _ hc3 ho3 hb3).mono ?_
      rintro e w4 ⟨a4, c4, rfl, hc4, ho4, hb4⟩
      have HC4 := Lib.hid hc4
      have HO4 := Lib.hid ho4
      clear hc3 ho3 hc4 ho4
      obtain ⟨q1, q2, q3, q4, q5, q6⟩ := SR.out _ hb4
      go_wp2_with fail
      refine bodyPost_ret (v := .tuple #[.agg #[.int .i64 r1, .slice a4 r2.length c4, .int .i64 r4], .int .i64 r3]) (by simp [results, Tryd.results15, go_sem, *]) rfl ?_
      exact retYC_end (g := w.heap.size + 1 + 1) (r := (r1, r2, r4, r3)) P3.out P4.out hb4 (by omega) (by omega) _ _ _ HO4.out HC4.out

set_option maxRecDepth 100000 in
set_option maxHeartbeats 4000000 in
theorem iSubtractDyadics (s : Int) (a : Option Addr) (xs : List Int) (c1 : Nat) (x : Int) (t : Int) (b : Option Addr) (ys : List Int) (c2 : Nat) (y : Int) (w : World) (B C : Nat) (hB : B ≤ w.heap.size) (hC : C ≤ w.heap.size) (hx : Ints w B a xs) (hy : Ints w C b ys) (hl : xs.length ≤ 9223372036854775807) (hl' : ys.length ≤ 9223372036854775807) (hTab : Tab w) :
    Calls Tryd.prog 17 #[.agg #[.int .i64 s, .slice a xs.length c1, .int .i64 x], .agg #[.int .i64 t, .slice b ys.length c2, .int .i64 y]] w (RetYC (binY subW s xs x t ys y) w.heap.size w) := by
  obtain ⟨W0, hW0⟩ : ∃ W0 : World, ((w.alloc (.cells #[.int .i64 s, .slice a xs.length c1, .int .i64 x] 30)).alloc (.cells #[.int .i64 t, .slice b ys.length c2, .int .i64 y] 30)).alloc (.cells #[.int .i64 0, .slice none 0 0, .int .i64 0] 30) = W0 := ⟨_, rfl⟩
  obtain ⟨p1, p2, p5, p3, p4⟩ := three_boxT w 30 30 30 #[.int .i64 s, .slice a xs.length c1, .int .i64 x] #[.int .i64 t, .slice b ys.length c2, .int .i64 y] #[.int .i64 0, .slice none 0 0, .int .i64 0]
  rw [hW0] at p1 p2 p3 p4 p5
  have HW0 := Lib.hid hW0
  have P3 := Lib.hid p3
  have P4 := Lib.hid p4
  have HTB := Lib.hid (show ∀ W, Below W0.heap.size W0 W → Tab W from fun W hW => (hTab.below p3).below hW)
  clear hTab
  have SS := Lib.hid (show ∀ W, Below W0.heap.size W0 W → (W.cell? ⟨w.heap.size, 0, none⟩ = some (.int .i64 s) ∧ W.cell? ⟨w.heap.size, 1, none⟩ = some (.slice a xs.length c1) ∧ W.cell? ⟨w.heap.size, 2, none⟩ = some (.int .i64 x) ∧ W.cell? ⟨w.heap.size + 1, 0, none⟩ = some (.int .i64 t) ∧ W.cell? ⟨w.heap.size + 1, 1, none⟩ = some (.slice b ys.length c2) ∧ W.cell? ⟨w.heap.size + 1, 2, none⟩ = some (.int .i64 y)) from
    fun W hW => ⟨(p1.below hW).cell 0, (p1.below hW).cell 1, (p1.below hW).cell 2, (p2.below hW).cell 0, (p2.below hW).cell 1, (p2.below hW).cell 2⟩)
  have SR := Lib.hid (show ∀ W, Below W0.heap.size W0 W → _ from fun W hW => (p5.below hW).tri6)
  have hT : Below W0.heap.size W0 W0 := Below.refl _ _
  have IX := Lib.hid (show ∀ W, Below W0.heap.size W0 W → Ints W B a xs ∧ Ints W C b ys ∧ B ≤ W.heap.size ∧ C ≤ W.heap.size from fun W hW => ⟨hx.below ((p3.mono hB).trans (hW.mono (by omega))), hy.below ((p3.mono hC).trans (hW.mono (by omega))), by have := hW.size; omega, by have := hW.size; omega⟩)
  have HI1 := Lib.hid (show ∀ W, Below W0.heap.size W0 W → Calls Tryd.prog 28 #[.agg #[.int .i64 s, .slice a xs.length c1, .int .i64 x]] W fun e w' => e = .returned (.bool (dyB s xs x)) ∧ Below W0.heap.size W0 w' from
    fun W hW => (iIsDyadic s a xs c1 x W B (IX.out W hW).2.2.1 hl (IX.out W hW).1).mono fun e w' ⟨he, hb⟩ => ⟨he, hW.trans (hb.mono hW.size)⟩)
  have HI2 := Lib.hid (show ∀ W, Below W0.heap.size W0 W → Calls Tryd.prog 28 #[.agg #[.int .i64 t, .slice b ys.length c2, .int .i64 y]] W fun e w' => e = .returned (.bool (dyB t ys y)) ∧ Below W0.heap.size W0 w' from
    fun W hW => (iIsDyadic t b ys c2 y W C (IX.out W hW).2.2.2 hl' (IX.out W hW).2.1).mono fun e w' ⟨he, hb⟩ => ⟨he, hW.trans (hb.mono hW.size)⟩)
  obtain ⟨k1, k2, k3, k4, k5, k6⟩ := SS.out _ hT
  cases h1 : dyB s xs x
  · rw [binY_no (fun h => by rw [dyB_iff.2 h.1] at h1; cases h1)]
    rw [h1] at HI1
    clear p1 p2 p3 p4 p5 hx hy hW0 hB hC hl hl' h1 IX
    go_enter Tryd.func17, Tryd.ntmps17
    go_wp2_with fail
    rw [HW0.out]
    refine (HI1.out _ hT).mono ?_
    rintro e w1 ⟨rfl, hb⟩
    clear k1 k2 k3 k4 k5 k6
    obtain ⟨k1, k2, k3, k4, k5, k6⟩ := SS.out _ hb
    obtain ⟨q1, q2, q3, q4, q5, q6⟩ := SR.out _ hb
    go_wp2_with fail
    refine bodyPost_ret (v := .tuple #[.agg #[.int .i64 0, .slice none 0 0, .int .i64 0], .int .i64 1]) (by simp [results, Tryd.results17, go_sem, *]) rfl ?_
    exact retYC_zero (g := w.heap.size + 1 + 1) 1 P3.out P4.out hb (by omega) _ _ _
  · have e1 := Lib.hid (dyB_iff.1 h1)
    rw [h1] at HI1
    cases h2 : dyB t ys y
    · rw [binY_no (fun h => by rw [dyB_iff.2 h.2] at h2; cases h2)]
      rw [h2] at HI2
      clear p1 p2 p3 p4 p5 hx hy hW0 hB hC hl hl' h1 h2 IX e1
      go_enter Tryd.func17, Tryd.ntmps17
      go_wp2_with fail
      rw [HW0.out]
      refine (HI1.out _ hT).mono ?_
      rintro e w1 ⟨rfl, hb⟩
      clear k1 k2 k3 k4 k5 k6
      obtain ⟨k1, k2, k3, k4, k5, k6⟩ := SS.out _ hb
      go_wp2_with fail
      refine (HI2.out _ hb).mono ?_
      rintro e w2 ⟨rfl, hb2⟩
      obtain ⟨q1, q2, q3, q4, q5, q6⟩ := SR.out _ hb2
      go_wp2_with fail
      refine bodyPost_ret (v := .tuple #[.agg #[.int .i64 0, .slice none 0 0, .int .i64 0], .int .i64 1]) (by simp [results, Tryd.results17, go_sem, *]) rfl ?_
      exact retYC_zero (g := w.heap.size + 1 + 1) 1 P3.out P4.out hb2 (by omega) _ _ _
    · have e2 := Lib.hid (dyB_iff.1 h2)
      rw [h2] at HI2
      clear h1 h2
      obtain ⟨m, rfl, hm, sm, hx1, hx2⟩ := isDy_of e1.out
      obtain ⟨n, rfl, hn, sn, hy1, hy2⟩ := isDy_of e2.out
      rw [binY_yes e1.out e2.out]
      obtain ⟨⟨u1, u2, u3⟩, hu⟩ : ∃ r, r = subW (s * (m : Int)) x (t * (n : Int)) y := ⟨_, rfl⟩
      have HP := Lib.hid (show ∀ W, Below W0.heap.size W0 W → Calls Tryd.prog 32 #[.agg #[.int .i64 s, .slice a (lim m).length c1, .int .i64 x], .agg #[.int .i64 t, .slice b (lim n).length c2, .int .i64 y]] W fun e w' => ∃ a c, e = .returned (.agg #[.int .i64 u1, .slice a u2.length c, .int .i64 u3]) ∧ u2.length ≤ c ∧ Own w' W0.heap.size a u2 ∧ Below W0.heap.size W0 w' from
        fun W hW => by
          have := iMinusD s a m c1 x t b n c2 y W B C (IX.out W hW).2.2.1 (IX.out W hW).2.2.2 (IX.out W hW).1 (IX.out W hW).2.1 sm sn (by omega) (by omega) (by omega) (by omega) (by omega) (by omega) (HTB.out W hW)
          change Calls _ _ _ _ (RetYR (subW (s * (m : Int)) x (t * (n : Int)) y) W) at this
          rw [← hu] at this
          exact this.mono fun e w' ⟨a, c, he, hc, ho, hb⟩ => ⟨a, c, he, hc, ho.mono hW.size, hW.trans (hb.mono hW.size)⟩)
      have HU := Lib.hid (show u2.length ≤ 9223372036854775807 from by
        have h2 : u2 = (subW (s * (m : Int)) x (t * (n : Int)) y).2.1 := by rw [← hu]
        rw [h2]
        exact Nat.le_trans (subW_len hm hn sm sn (by omega) (by omega) (by omega) (by omega)) (by omega))
      rw [← hu]
      obtain ⟨⟨r1, r2, r4, r3⟩, hr⟩ : ∃ r, r = fitY (u1, u2, u3) := ⟨_, rfl⟩
      have HLM := Lib.hid (show ∀ (a : Option Addr) (c : Nat) W, u2.length ≤ c → Own W W0.heap.size a u2 → Below W0.heap.size W0 W → Calls Tryd.prog 29 #[.agg #[.int .i64 u1, .slice a u2.length c, .int .i64 u3]] W fun e w' => ∃ a c, e = .returned (.tuple #[.agg #[.int .i64 r1, .slice a r2.length c, .int .i64 r4], .int .i64 r3]) ∧ r2.length ≤ c ∧ Own w' W0.heap.size a r2 ∧ Below W0.heap.size W0 w' from
        fun a c W hc ho hW => by
          have := iLimitY u1 u2 u3 a c W W0.heap.size HU.out hc ho
          rw [← hr] at this
          exact this.mono fun e w' ⟨a, c, he, hc, ho, hb⟩ => ⟨a, c, he, hc, ho, hW.trans (hb.mono hW.size)⟩)
      rw [← hr]
      clear p1 p2 p3 p4 p5 hx hy hW0 hB hC hl hl' IX hu hr sm sn hm hn e1 e2 hx1 hx2 hy1 hy2
      go_enter Tryd.func17, Tryd.ntmps17
      go_wp2_with fail
      rw [HW0.out]
      refine (HI1.out _ hT).mono ?_
      rintro e w1 ⟨rfl, hb⟩
      clear k1 k2 k3 k4 k5 k6
      obtain ⟨k1, k2, k3, k4, k5, k6⟩ := SS.out _ hb
      go_wp2_with fail
      refine (HI2.out _ hb).mono ?_
      rintro e w2 ⟨rfl, hb2⟩
      clear k1 k2 k3 k4 k5 k6
      obtain ⟨k1, k2, k3, k4, k5, k6⟩ := SS.out _ hb2
      go_wp2_with fail
      refine (HP.out _ hb2).mono ?_
      rintro e w3 ⟨a3, c3, rfl, hc3, ho3, hb3⟩
      go_wp2_with fail
      refine (HLM.out _ _ _ hc3 ho3 hb3).mono ?_
      rintro e w4 ⟨a4, c4, rfl, hc4, ho4, hb4⟩
      have HC4 := Lib.hid hc4
      have HO4 := Lib.hid ho4
      clear hc3 ho3 hc4 ho4
      obtain ⟨q1, q2, q3, q4, q5, q6⟩ := SR.out _ hb4
      go_wp2_with fail
      refine bodyPost_ret (v := .tuple #[.agg #[.int .i64 r1, .slice a4 r2.length c4, .int .i64 r4], .int .i64 r3]) (by simp [results, Tryd.results17, go_sem, *]) rfl ?_
      exact retYC_end (g := w.heap.size + 1 + 1) (r := (r1, r2, r4, r3)) P3.out P4.out hb4 (by omega) (by omega) _ _ _ HO4.out HC4.out

set_option maxRecDepth 100000 in
set_option maxHeartbeats 4000000 in
theorem iMultiplyDyadics (s : Int) (a : Option Addr) (xs : List Int) (c1 : Nat) (x : Int) (t : Int) (b : Option Addr) (ys : List Int) (c2 : Nat) (y : Int) (w : World) (B C : Nat) (hB : B ≤ w.heap.size) (hC : C ≤ w.heap.size) (hx : Ints w B a xs) (hy : Ints w C b ys) (hl : xs.length ≤ 9223372036854775807) (hl' : ys.length ≤ 9223372036854775807) (hTab : Tab w) :
    Calls Tryd.prog 16 #[.agg #[.int .i64 s, .slice a xs.length c1, .int .i64 x], .agg #[.int .i64 t, .slice b ys.length c2, .int .i64 y]] w (RetYC (binY mulW s xs x t ys y) w.heap.size w) := by
  obtain ⟨W0, hW0⟩ : ∃ W0 : World, ((w.alloc (.cells #[.int .i64 s, .slice a xs.length c1, .int .i64 x] 30)).alloc (.cells #[.int .i64 t, .slice b ys.length c2, .int .i64 y] 30)).alloc (.cells #[.int .i64 0, .slice none 0 0, .int .i64 0] 30) = W0 := ⟨_, rfl⟩
  obtain ⟨p1, p2, p5, p3, p4⟩ := three_boxT w 30 30 30 #[.int .i64 s, .slice a xs.length c1, .int .i64 x] #[.int .i64 t, .slice b ys.length c2, .int .i64 y] #[.int .i64 0, .slice none 0 0, .int .i64 0]
  rw [hW0] at p1 p2 p3 p4 p5
  have HW0 := Lib.hid hW0
  have P3 := Lib.hid p3
  have P4 := Lib.hid p4
  have HTB := Lib.hid (show ∀ W, Below W0.heap.size W0 W → Tab W from fun W hW => (hTab.below p3).below hW)
  clear hTab
  have SS := Lib.hid (show ∀ W, Below W0.heap.size W0 W → (W.cell? ⟨w.heap.size, 0, none⟩ = some (.int .i64 s) ∧ W.cell? ⟨w.heap.size, 1, none⟩ = some (.slice a xs.length c1) ∧ W.cell? ⟨w.heap.size, 2, none⟩ = some (.int .i64 x) ∧ W.cell? ⟨w.heap.size + 1, 0, none⟩ = some (.int .i64 t) ∧ W.cell? ⟨w.heap.size + 1, 1, none⟩ = some (.slice b ys.length c2) ∧ W.cell? ⟨w.heap.size + 1, 2, none⟩ = some (.int .i64 y)) from
    fun W hW => ⟨(p1.below hW).cell 0, (p1.below hW).cell 1, (p1.below hW).cell 2, (p2.below hW).cell 0, (p2.below hW).cell 1, (p2.below hW).cell 2⟩)
  have SR := Lib.hid (show ∀ W, Below W0.heap.size W0 W → _ from fun W hW => (p5.below hW).tri6)
  have hT : Below W0.heap.size W0 W0 := Below.refl _ _
  have IX := Lib.hid (show ∀ W, Below W0.heap.size W0 W → Ints W B a xs ∧ Ints W C b ys ∧ B ≤ W.heap.size ∧ C ≤ W.heap.size from fun W hW => ⟨hx.below ((p3.mono hB).trans (hW.mono (by omega))), hy.below ((p3.mono hC).trans (hW.mono (by omega))), by have := hW.size; omega, by have := hW.size; omega⟩)
  have HI1 := Lib.hid (show ∀ W, Below W0.heap.size W0 W → Calls Tryd.prog 28 #[.agg #[.int .i64 s, .slice a xs.length c1, .int .i64 x]] W fun e w' => e = .returned (.bool (dyB s xs x)) ∧ Below W0.heap.size W0 w' from
    fun W hW => (iIsDyadic s a xs c1 x W B (IX.out W hW).2.2.1 hl (IX.out W hW).1).mono fun e w' ⟨he, hb⟩ => ⟨he, hW.trans (hb.mono hW.size)⟩)
  have HI2 := Lib.hid (show ∀ W, Below W0.heap.size W0 W → Calls Tryd.prog 28 #[.agg #[.int .i64 t, .slice b ys.length c2, .int .i64 y]] W fun e w' => e = .returned (.bool (dyB t ys y)) ∧ Below W0.heap.size W0 w' from
    fun W hW => (iIsDyadic t b ys c2 y W C (IX.out W hW).2.2.2 hl' (IX.out W hW).2.1).mono fun e w' ⟨he, hb⟩ => ⟨he, hW.trans (hb.mono hW.size)⟩)
  obtain ⟨k1, k2, k3, k4, k5, k6⟩ := SS.out _ hT
  cases h1 : dyB s xs x
  · rw [binY_no (fun h => by rw [dyB_iff.2 h.1] at h1; cases h1)]
    rw [h1] at HI1
    clear p1 p2 p3 p4 p5 hx hy hW0 hB hC hl hl' h1 IX
    go_enter Tryd.func16, Tryd.ntmps16
    go_wp2_with fail
    rw [HW0.out]
    refine (HI1.out _ hT).mono ?_
    rintro e w1 ⟨rfl, hb⟩
    clear k1 k2 k3 k4 k5 k6
    obtain ⟨k1, k2, k3, k4, k5, k6⟩ := SS.out _ hb
    obtain ⟨q1, q2, q3, q4, q5, q6⟩ := SR.out _ hb
    go_wp2_with fail
    refine bodyPost_ret (v := .tuple #[.agg #[.int .i64 0, .slice none 0 0, .int .i64 0], .int .i64 1]) (by simp [results, Tryd.results16, go_sem, *]) rfl ?_
    exact retYC_zero (g := w.heap.size + 1 + 1) 1 P3.out P4.out hb (by omega) _ _ _
  · have e1 := Lib.hid (dyB_iff.1 h1)
    rw [h1] at HI1
    cases h2 : dyB t ys y
    · rw [binY_no (fun h => by rw [dyB_iff.2 h.2] at h2; cases h2)]
      rw [h2] at HI2
      clear p1 p2 p3 p4 p5 hx hy hW0 hB hC hl hl' h1 h2 IX e1
      go_enter Tryd.func16, Tryd.ntmps16
      go_wp2_with fail
      rw [HW0.out]
      refine (HI1.out _ hT).mono ?_
      rintro e w1 ⟨rfl, hb⟩
      clear k1 k2 k3 k4 k5 k6
      obtain ⟨k1, k2, k3, k4, k5, k6⟩ := SS.out _ hb
      go_wp2_with fail
      refine (HI2.out _ hb).mono ?_
      rintro e w2 ⟨rfl, hb2⟩
      obtain ⟨q1, q2, q3, q4, q5, q6⟩ := SR.out _ hb2
      go_wp2_with fail
      refine bodyPost_ret (v := .tuple #[.agg #[.int .i64 0, .slice none 0 0, .int .i64 0], .int .i64 1]) (by simp [results, Tryd.results16, go_sem, *]) rfl ?_
      exact retYC_zero (g := w.heap.size + 1 + 1) 1 P3.out P4.out hb2 (by omega) _ _ _
    · have e2 := Lib.hid (dyB_iff.1 h2)
      rw [h2] at HI2
      clear h1 h2
      obtain ⟨m, rfl, hm, sm, hx1, hx2⟩ := isDy_of e1.out
      obtain ⟨n, rfl, hn, sn, hy1, hy2⟩ := isDy_of e2.out
      rw [binY_yes e1.out e2.out]
      obtain ⟨⟨u1, u2, u3⟩, hu⟩ : ∃ r, r = mulW (s * (m : Int)) x (t * (n : Int)) y := ⟨_, rfl⟩
      have HP := Lib.hid (show ∀ W, Below W0.heap.size W0 W → Calls Tryd.prog 31 #[.agg #[.int .i64 s, .slice a (lim m).length c1, .int .i64 x], .agg #[.int .i64 t, .slice b (lim n).length c2, .int .i64 y]] W fun e w' => ∃ a c, e = .returned (.agg #[.int .i64 u1, .slice a u2.length c, .int .i64 u3]) ∧ u2.length ≤ c ∧ Own w' W0.heap.size a u2 ∧ Below W0.heap.size W0 w' from
        fun W hW => by
          have := iTimesD s a m c1 x t b n c2 y W B C (IX.out W hW).2.2.1 (IX.out W hW).2.2.2 (IX.out W hW).1 (IX.out W hW).2.1 sm sn (by omega) (by omega) (by omega) (by omega) (by omega) (by omega) (HTB.out W hW)
          change Calls _ _ _ _ (RetYR (mulW (s * (m : Int)) x (t * (n : Int)) y) W) at this
          rw [← hu] at this
          exact this.mono fun e w' ⟨a, c, he, hc, ho, hb⟩ => ⟨a, c, he, hc, ho.mono hW.size, hW.trans (hb.mono hW.size)⟩)
      have HU := Lib.hid (show u2.length ≤ 9223372036854775807 from by
        have h2 : u2 = (mulW (s * (m : Int)) x (t * (n : Int)) y).2.1 := by rw [← hu]
        rw [h2]
        exact Nat.le_trans (mulW_len hm hn sm sn (by omega) (by omega) (by omega) (by omega)) (by omega))
      rw [← hu]
      obtain ⟨⟨r1, r2, r4, r3⟩, hr⟩ : ∃ r, r = fitY (u1, u2, u3) := ⟨_, rfl⟩
      have HLM := Lib.hid (show ∀ (a : Option Addr) (c : Nat) W, u2.length ≤ c → Own W W0.heap.size a u2 → Below W0.heap.size W0 W → Calls Tryd.prog 29 #[.agg #[.int .i64 u1, .slice a u2.length c, .int .i64 u3]] W fun e w' => ∃ a c, e = .returned (.tuple #[.agg #[.int .i64 r1, .slice a r2.length c, .int .i64 r4], .int .i64 r3]) ∧ r2.length ≤ c ∧ Own w' W0.heap.size a r2 ∧ Below W0.heap.size W0 w' from
        fun a c W hc ho hW => by
          have := iLimitY u1 u2 u3 a c W W0.heap.size HU.out hc ho
          rw [← hr] at this
          exact this.mono fun e w' ⟨a, c, he, hc, ho, hb⟩ => ⟨a, c, he, hc, ho, hW.trans (hb.mono hW.size)⟩)
      rw [← hr]
      clear p1 p2 p3 p4 p5 hx hy hW0 hB hC hl hl' IX hu hr sm sn hm hn e1 e2 hx1 hx2 hy1 hy2
      go_enter Tryd.func16, Tryd.ntmps16
      go_wp2_with fail
      rw [HW0.out]
      refine (HI1.out _ hT).mono ?_
      rintro e w1 ⟨rfl, hb⟩
      clear k1 k2 k3 k4 k5 k6
      obtain ⟨k1, k2, k3, k4, k5, k6⟩ := SS.out _ hb
      go_wp2_with fail
      refine (HI2.out _ hb).mono ?_
      rintro e w2 ⟨rfl, hb2⟩
      clear k1 k2 k3 k4 k5 k6
      obtain ⟨k1, k2, k3, k4, k5, k6⟩ := SS.out _ hb2
      go_wp2_with fail
      refine (HP.out _ hb2).mono ?_
      rintro e w3 ⟨a3, c3, rfl, hc3, ho3, hb3⟩
      go_wp2_with fail
      refine (HLM.out _ _ _ hc3 ho3 hb3).mono ?_
      rintro e w4 ⟨a4, c4, rfl, hc4, ho4, hb4⟩
      have HC4 := Lib.hid hc4
      have HO4 := Lib.hid ho4
      clear hc3 ho3 hc4 ho4
      obtain ⟨q1, q2, q3, q4, q5, q6⟩ := SR.out _ hb4
      go_wp2_with fail
      refine bodyPost_ret (v := .tuple #[.agg #[.int .i64 r1, .slice a4 r2.length c4, .int .i64 r4], .int .i64 r3]) (by simp [results, Tryd.results16, go_sem, *]) rfl ?_
      exact retYC_end (g := w.heap.size + 1 + 1) (r := (r1, r2, r4, r3)) P3.out P4.out hb4 (by omega) (by omega) _ _ _ HO4.out HC4.out

end Go.Proofs.YtnnbfoemmgddeaaDoor
