/-
  Contracts: AddDyadics, SubtractDyadics, MultiplyDyadics and CompareDyadics of the program and of the model. Conditions: the limbs can be read; the library's table is as its initialiser lays it.
-/
import Derived.Test.YtiohacnkiikmcaaDoorQh
import Derived.Test.YtiohacnkiikmcaaDoorTg
namespace Go.Proofs.YtiohacnkiikmcaaDoor
set_option linter.unusedVariables false
open Go Go.RowKit

theorem fieldW (s x : Int) (a : Option Addr) (n c : Nat) (w : World) : (Instr.field 32 (.agg #[.int .i64 s, .slice a n c, .int .i64 x]) 0).run Tryd.prog w = .ok (.agg #[.int .i64 s, .slice a n c]) w := by kernel_rfl
theorem fieldS (s : Int) (a : Option Addr) (n c : Nat) (w : World) : (Instr.field 30 (.agg #[.int .i64 s, .slice a n c]) 0).run Tryd.prog w = .ok (.int .i64 s) w := by kernel_rfl
def subW (z1 x z2 y : Int) : Int × List Int × Int := addW z1 x (-z2) y
noncomputable def bothY (s : Int) (xs : List Int) (x t : Int) (ys : List Int) (y : Int) : Int := @ite _ (IsDy s xs x ∧ IsDy t ys y) (Classical.propDecidable _) 0 1
theorem bothY_yes {s x t y : Int} {xs ys : List Int} (h : IsDy s xs x) (k : IsDy t ys y) : bothY s xs x t ys y = 0 := by unfold bothY; rw [if_pos ⟨h, k⟩]
theorem bothY_no {s x t y : Int} {xs ys : List Int} (h : ¬ (IsDy s xs x ∧ IsDy t ys y)) : bothY s xs x t ys y = 1 := by unfold bothY; rw [if_neg h]
noncomputable def binY (f : Int → Int → Int → Int → Int × List Int × Int) (s : Int) (xs : List Int) (x t : Int) (ys : List Int) (y : Int) : Int × List Int × Int × Int := @ite _ (IsDy s xs x ∧ IsDy t ys y) (Classical.propDecidable _) (fitY (f (wv s xs) x (wv t ys) y)) (0, [], 0, 1)
theorem binY_yes {f : Int → Int → Int → Int → Int × List Int × Int} {s x t y : Int} {m n : Nat} (h : IsDy s (lim m) x) (k : IsDy t (lim n) y) : binY f s (lim m) x t (lim n) y = fitY (f (s * (m : Int)) x (t * (n : Int)) y) := by unfold binY; rw [if_pos ⟨h, k⟩, wv_lim, wv_lim]
theorem binY_no {f : Int → Int → Int → Int → Int × List Int × Int} {s x t y : Int} {xs ys : List Int} (h : ¬ (IsDy s xs x ∧ IsDy t ys y)) : binY f s xs x t ys y = (0, [], 0, 1) := by unfold binY; rw [if_neg h]
theorem binY_len (f : Int → Int → Int → Int → Int × List Int × Int) (s : Int) (xs : List Int) (x t : Int) (ys : List Int) (y : Int) : (binY f s xs x t ys y).2.1.length ≤ 200 := by
  unfold binY
  split
  · exact fitY_len _
  · simp
noncomputable def cmpY (f : Int → Int → Int → Int → Int × List Int × Int) (s : Int) (xs : List Int) (x t : Int) (ys : List Int) (y : Int) : Int × Int := @ite _ (IsDy s xs x ∧ IsDy t ys y) (Classical.propDecidable _) ((f (wv s xs) x (wv t ys) y).1, 0) (0, 1)
theorem cmpY_yes {f : Int → Int → Int → Int → Int × List Int × Int} {s x t y : Int} {m n : Nat} (h : IsDy s (lim m) x) (k : IsDy t (lim n) y) : cmpY f s (lim m) x t (lim n) y = ((f (s * (m : Int)) x (t * (n : Int)) y).1, 0) := by unfold cmpY; rw [if_pos ⟨h, k⟩, wv_lim, wv_lim]
theorem cmpY_no {f : Int → Int → Int → Int → Int × List Int × Int} {s x t y : Int} {xs ys : List Int} (h : ¬ (IsDy s xs x ∧ IsDy t ys y)) : cmpY f s xs x t ys y = (0, 1) := by unfold cmpY; rw [if_neg h]
theorem addZ_len {z1 z2 x y : Int} (h1 : (lim z1.natAbs).length ≤ 200) (h2 : (lim z2.natAbs).length ≤ 200) (hx1 : -5000 ≤ x) (hx2 : x ≤ 5000) (hy1 : -5000 ≤ y) (hy2 : y ≤ 5000) : (addW z1 x z2 y).2.1.length ≤ 3000 := by
  unfold addW
  refine Nat.le_trans (redS_len _ _ _) ?_
  have e1 := shZ_up_len (z := z1) (k := x - min x y) (by omega)
  have e2 := shZ_up_len (z := z2) (k := y - min x y) (by omega)
  have e3 := lim_le_of_le (Int.natAbs_add_le (shZ z1 (x - min x y)) (shZ z2 (y - min x y)))
  have e4 := lim_add_len (shZ z1 (x - min x y)).natAbs (shZ z2 (y - min x y)).natAbs
  omega
theorem addW_len {s t x y : Int} {m n : Nat} (hm : (lim m).length ≤ 200) (hn : (lim n).length ≤ 200) (hs : Sg s m) (ht : Sg t n) (hx1 : -5000 ≤ x) (hx2 : x ≤ 5000) (hy1 : -5000 ≤ y) (hy2 : y ≤ 5000) : (addW (s * (m : Int)) x (t * (n : Int)) y).2.1.length ≤ 3000 := addZ_len (by rw [hs.abs]; exact hm) (by rw [ht.abs]; exact hn) hx1 hx2 hy1 hy2
theorem subW_len {s t x y : Int} {m n : Nat} (hm : (lim m).length ≤ 200) (hn : (lim n).length ≤ 200) (hs : Sg s m) (ht : Sg t n) (hx1 : -5000 ≤ x) (hx2 : x ≤ 5000) (hy1 : -5000 ≤ y) (hy2 : y ≤ 5000) : (subW (s * (m : Int)) x (t * (n : Int)) y).2.1.length ≤ 3000 := addZ_len (by rw [hs.abs]; exact hm) (by rw [Int.natAbs_neg, ht.abs]; exact hn) hx1 hx2 hy1 hy2
theorem mulW_len {s t x y : Int} {m n : Nat} (hm : (lim m).length ≤ 200) (hn : (lim n).length ≤ 200) (hs : Sg s m) (ht : Sg t n) (hx1 : -5000 ≤ x) (hx2 : x ≤ 5000) (hy1 : -5000 ≤ y) (hy2 : y ≤ 5000) : (mulW (s * (m : Int)) x (t * (n : Int)) y).2.1.length ≤ 3000 := by
  unfold mulW
  refine Nat.le_trans (redS_len _ _ _) ?_
  rw [Int.natAbs_mul, hs.abs, ht.abs]
  have := lim_mul_len m n
  omega

set_option maxHeartbeats 1000000 in
theorem sBothY (s : Int) (a : Option Addr) (xs : List Int) (c1 : Nat) (x : Int) (t : Int) (b : Option Addr) (ys : List Int) (c2 : Nat) (y : Int) (w : World) (B C : Nat) (hB : B ≤ w.heap.size) (hC : C ≤ w.heap.size) (hx : Ints w B a xs) (hy : Ints w C b ys) (hl : xs.length ≤ 9223372036854775807) (hl' : ys.length ≤ 9223372036854775807) :
    Calls Tryd.prog 15 #[.agg #[.int .i64 s, .slice a xs.length c1, .int .i64 x], .agg #[.int .i64 t, .slice b ys.length c2, .int .i64 y]] w (RetB (.int .i64 (bothY s xs x t ys y)) w) := by
  obtain ⟨W0, hW0⟩ : ∃ W0 : World, (w.alloc (.cells #[.int .i64 s, .slice a xs.length c1, .int .i64 x] 32)).alloc (.cells #[.int .i64 t, .slice b ys.length c2, .int .i64 y] 32) = W0 := ⟨_, rfl⟩
  obtain ⟨p1, p2, p3, p4⟩ := two_boxT w 32 32 #[.int .i64 s, .slice a xs.length c1, .int .i64 x] #[.int .i64 t, .slice b ys.length c2, .int .i64 y]
  rw [hW0] at p1 p2 p3 p4
  have HW0 := Lib.hid hW0
  have P3 := Lib.hid p3
  have P4 := Lib.hid p4
  have SS := Lib.hid (show ∀ W, Below W0.heap.size W0 W → (W.cell? ⟨w.heap.size, 0, none⟩ = some (.int .i64 s) ∧ W.cell? ⟨w.heap.size, 1, none⟩ = some (.slice a xs.length c1) ∧ W.cell? ⟨w.heap.size, 2, none⟩ = some (.int .i64 x) ∧ W.cell? ⟨w.heap.size + 1, 0, none⟩ = some (.int .i64 t) ∧ W.cell? ⟨w.heap.size + 1, 1, none⟩ = some (.slice b ys.length c2) ∧ W.cell? ⟨w.heap.size + 1, 2, none⟩ = some (.int .i64 y)) from
    fun W hW => ⟨(p1.below hW).cell 0, (p1.below hW).cell 1, (p1.below hW).cell 2, (p2.below hW).cell 0, (p2.below hW).cell 1, (p2.below hW).cell 2⟩)
  have HEND := Lib.hid (show ∀ v W, Below W0.heap.size W0 W → RetB v w (.returned v) W from fun v W hW => ⟨rfl, P3.out.trans (hW.mono (by omega))⟩)
  have hT : Below W0.heap.size W0 W0 := Below.refl _ _
  have IX := Lib.hid (show ∀ W, Below W0.heap.size W0 W → Ints W B a xs ∧ Ints W C b ys ∧ B ≤ W.heap.size ∧ C ≤ W.heap.size from fun W hW => ⟨hx.below ((p3.mono hB).trans (hW.mono (by omega))), hy.below ((p3.mono hC).trans (hW.mono (by omega))), by have := hW.size; omega, by have := hW.size; omega⟩)
  have HI1 := Lib.hid (show ∀ W, Below W0.heap.size W0 W → Calls Tryd.prog 34 #[.agg #[.int .i64 s, .slice a xs.length c1, .int .i64 x]] W fun e w' => e = .returned (.bool (dyB s xs x)) ∧ Below W0.heap.size W0 w' from
    fun W hW => (sDy s a xs c1 x W B (IX.out W hW).2.2.1 hl (IX.out W hW).1).mono fun e w' ⟨he, hb⟩ => ⟨he, hW.trans (hb.mono hW.size)⟩)
  have HI2 := Lib.hid (show ∀ W, Below W0.heap.size W0 W → Calls Tryd.prog 34 #[.agg #[.int .i64 t, .slice b ys.length c2, .int .i64 y]] W fun e w' => e = .returned (.bool (dyB t ys y)) ∧ Below W0.heap.size W0 w' from
    fun W hW => (sDy t b ys c2 y W C (IX.out W hW).2.2.2 hl' (IX.out W hW).2.1).mono fun e w' ⟨he, hb⟩ => ⟨he, hW.trans (hb.mono hW.size)⟩)
  obtain ⟨k1, k2, k3, k4, k5, k6⟩ := SS.out _ hT
  cases h1 : dyB s xs x
  · rw [bothY_no (fun h => by rw [dyB_iff.2 h.1] at h1; cases h1)]
    rw [h1] at HI1
    clear p1 p2 p3 p4 hx hy hW0 hB hC hl hl' h1 IX
    go_enter Tryd.func15, Tryd.ntmps15
    go_wp2_with fail
    rw [HW0.out]
    refine (HI1.out _ hT).mono ?_
    rintro e w1 ⟨rfl, hb⟩
    clear k1 k2 k3 k4 k5 k6
    obtain ⟨k1, k2, k3, k4, k5, k6⟩ := SS.out _ hb
    go_wp2_with fail
    go_ret
    exact HEND.out _ _ hb
  · have e1 := Lib.hid (dyB_iff.1 h1)
    rw [h1] at HI1
    cases h2 : dyB t ys y
    all_goals
      first
      | rw [bothY_yes e1.out (dyB_iff.1 h2)]
      | rw [bothY_no (fun h => by rw [dyB_iff.2 h.2] at h2; cases h2)]
      rw [h2] at HI2
      clear p1 p2 p3 p4 hx hy hW0 hB hC hl hl' h1 h2 IX e1
      go_enter Tryd.func15, Tryd.ntmps15
      go_wp2_with fail
      rw [HW0.out]
      refine (HI1.out _ hT).mono ?_
      rintro e w1 ⟨rfl, hb⟩
      clear k1 k2 k3 k4 k5 k6
      obtain ⟨k1, k2, k3, k4, k5, k6⟩ := SS.out _ hb
      go_wp2_with fail
      refine (HI2.out _ hb).mono ?_
      rintro e w2 ⟨rfl, hb2⟩
      go_wp2_with fail
      go_ret
      exact HEND.out _ _ hb2

set_option maxRecDepth 100000 in
set_option maxHeartbeats 1000000 in
theorem sCompare3 (s : Int) (a : Option Addr) (m c1 : Nat) (x : Int) (t : Int) (b : Option Addr) (n c2 : Nat) (y : Int) (w : World) (B C : Nat) (hB : B ≤ w.heap.size) (hC : C ≤ w.heap.size) (hx : Ints w B a (lim m)) (hy : Ints w C b (lim n)) (hs : Sg s m) (ht : Sg t n) (hl : (lim m).length ≤ 400) (hl' : (lim n).length ≤ 400) (x1 : -30000 ≤ x) (x2 : x ≤ 30000) (y1 : -30000 ≤ y) (y2 : y ≤ 30000) (hc1 : (lim m).length ≤ c1) (hc2 : (lim n).length ≤ c2) :
    Calls Tryd.prog 16 #[.agg #[.int .i64 s, .slice a (lim m).length c1, .int .i64 x], .agg #[.int .i64 t, .slice b (lim n).length c2, .int .i64 y]] w (RetB (.int .i64 (subW (s * (m : Int)) x (t * (n : Int)) y).1) w) := by
  obtain ⟨W0, hW0⟩ : ∃ W0 : World, (w.alloc (.cells #[.int .i64 s, .slice a (lim m).length c1, .int .i64 x] 32)).alloc (.cells #[.int .i64 t, .slice b (lim n).length c2, .int .i64 y] 32) = W0 := ⟨_, rfl⟩
  obtain ⟨p1, p2, p3, p4⟩ := two_boxT w 32 32 #[.int .i64 s, .slice a (lim m).length c1, .int .i64 x] #[.int .i64 t, .slice b (lim n).length c2, .int .i64 y]
  rw [hW0] at p1 p2 p3 p4
  have HW0 := Lib.hid hW0
  have P3 := Lib.hid p3
  have P4 := Lib.hid p4
  have SS := Lib.hid (show ∀ W, Below W0.heap.size W0 W → (W.cell? ⟨w.heap.size, 0, none⟩ = some (.int .i64 s) ∧ W.cell? ⟨w.heap.size, 1, none⟩ = some (.slice a (lim m).length c1) ∧ W.cell? ⟨w.heap.size, 2, none⟩ = some (.int .i64 x) ∧ W.cell? ⟨w.heap.size + 1, 0, none⟩ = some (.int .i64 t) ∧ W.cell? ⟨w.heap.size + 1, 1, none⟩ = some (.slice b (lim n).length c2) ∧ W.cell? ⟨w.heap.size + 1, 2, none⟩ = some (.int .i64 y)) from
    fun W hW => ⟨(p1.below hW).cell 0, (p1.below hW).cell 1, (p1.below hW).cell 2, (p2.below hW).cell 0, (p2.below hW).cell 1, (p2.below hW).cell 2⟩)
  have HEND := Lib.hid (show ∀ v W, Below W0.heap.size W0 W → RetB v w (.returned v) W from fun v W hW => ⟨rfl, P3.out.trans (hW.mono (by omega))⟩)
  have hT : Below W0.heap.size W0 W0 := Below.refl _ _
  have IX := Lib.hid (show ∀ W, Below W0.heap.size W0 W → Ints W B a (lim m) ∧ Ints W C b (lim n) ∧ B ≤ W.heap.size ∧ C ≤ W.heap.size from fun W hW => ⟨hx.below ((p3.mono hB).trans (hW.mono (by omega))), hy.below ((p3.mono hC).trans (hW.mono (by omega))), by have := hW.size; omega, by have := hW.size; omega⟩)
  obtain ⟨k1, k2, k3, k4, k5, k6⟩ := SS.out _ hT
  obtain ⟨⟨u1, u2, u3⟩, hu⟩ : ∃ r, r = subW (s * (m : Int)) x (t * (n : Int)) y := ⟨_, rfl⟩
  have HP := Lib.hid (show ∀ W, Below W0.heap.size W0 W → Calls Tryd.prog 35 #[.agg #[.int .i64 s, .slice a (lim m).length c1, .int .i64 x], .agg #[.int .i64 t, .slice b (lim n).length c2, .int .i64 y]] W fun e w' => ∃ a c, e = .returned (.agg #[.int .i64 u1, .slice a u2.length c, .int .i64 u3]) ∧ u2.length ≤ c ∧ Own w' W0.heap.size a u2 ∧ Below W0.heap.size W0 w' from
    fun W hW => by
      have := sSub3 s a m c1 x t b n c2 y W B C (IX.out W hW).2.2.1 (IX.out W hW).2.2.2 (IX.out W hW).1 (IX.out W hW).2.1 hs ht hl hl' x1 x2 y1 y2 hc1 hc2
      change Calls _ _ _ _ (RetYR (subW (s * (m : Int)) x (t * (n : Int)) y) W) at this
      rw [← hu] at this
      exact this.mono fun e w' ⟨a, c, he, hc, ho, hb⟩ => ⟨a, c, he, hc, ho.mono hW.size, hW.trans (hb.mono hW.size)⟩)
  rw [← hu]
  clear p1 p2 p3 p4 hx hy hW0 hB hC hl hl' hs ht hu x1 x2 y1 y2 hc1 hc2 IX
  go_enter Tryd.func16, Tryd.ntmps16
  go_wp2_with fail
  rw [HW0.out]
  refine (HP.out _ hT).mono ?_
  rintro e w3 ⟨a3, c3, rfl, hc3, ho3, hb3⟩
  have hf1 := fieldW u1 u3 a3 u2.length c3 w3
  have hf2 := fieldS u1 a3 u2.length c3 w3
  go_wp2_with fail
  go_ret
  exact HEND.out _ _ hb3

set_option maxRecDepth 100000 in
set_option maxHeartbeats 2000000 in
theorem iCompareD (s : Int) (a : Option Addr) (m c1 : Nat) (x : Int) (t : Int) (b : Option Addr) (n c2 : Nat) (y : Int) (w : World) (B C : Nat) (hB : B ≤ w.heap.size) (hC : C ≤ w.heap.size) (hx : Ints w B a (lim m)) (hy : Ints w C b (lim n)) (hs : Sg s m) (ht : Sg t n) (hl : (lim m).length ≤ 400) (hl' : (lim n).length ≤ 400) (x1 : -30000 ≤ x) (x2 : x ≤ 30000) (y1 : -30000 ≤ y) (y2 : y ≤ 30000) (hTab : Tab w) :
    Calls Tryd.prog 19 #[.agg #[.int .i64 s, .slice a (lim m).length c1, .int .i64 x], .agg #[.int .i64 t, .slice b (lim n).length c2, .int .i64 y]] w (RetB (.int .i64 (subW (s * (m : Int)) x (t * (n : Int)) y).1) w) := by
  obtain ⟨W0, hW0⟩ : ∃ W0 : World, (w.alloc (.cells #[.int .i64 s, .slice a (lim m).length c1, .int .i64 x] 32)).alloc (.cells #[.int .i64 t, .slice b (lim n).length c2, .int .i64 y] 32) = W0 := ⟨_, rfl⟩
  obtain ⟨p1, p2, p3, p4⟩ := two_boxT w 32 32 #[.int .i64 s, .slice a (lim m).length c1, .int .i64 x] #[.int .i64 t, .slice b (lim n).length c2, .int .i64 y]
  rw [hW0] at p1 p2 p3 p4
  have HW0 := Lib.hid hW0
  have P3 := Lib.hid p3
  have P4 := Lib.hid p4
  have SS := Lib.hid (show ∀ W, Below W0.heap.size W0 W → (W.cell? ⟨w.heap.size, 0, none⟩ = some (.int .i64 s) ∧ W.cell? ⟨w.heap.size, 1, none⟩ = some (.slice a (lim m).length c1) ∧ W.cell? ⟨w.heap.size, 2, none⟩ = some (.int .i64 x) ∧ W.cell? ⟨w.heap.size + 1, 0, none⟩ = some (.int .i64 t) ∧ W.cell? ⟨w.heap.size + 1, 1, none⟩ = some (.slice b (lim n).length c2) ∧ W.cell? ⟨w.heap.size + 1, 2, none⟩ = some (.int .i64 y)) from
    fun W hW => ⟨(p1.below hW).cell 0, (p1.below hW).cell 1, (p1.below hW).cell 2, (p2.below hW).cell 0, (p2.below hW).cell 1, (p2.below hW).cell 2⟩)
  have HEND := Lib.hid (show ∀ v W, Below W0.heap.size W0 W → RetB v w (.returned v) W from fun v W hW => ⟨rfl, P3.out.trans (hW.mono (by omega))⟩)
  have hT : Below W0.heap.size W0 W0 := Below.refl _ _
  obtain ⟨⟨u1, u2, u3⟩, hu⟩ : ∃ r, r = subW (s * (m : Int)) x (t * (n : Int)) y := ⟨_, rfl⟩
  have HP := Lib.hid (show Calls Tryd.prog 40 #[.agg #[.int .i64 s, .slice a (lim m).length c1, .int .i64 x], .agg #[.int .i64 t, .slice b (lim n).length c2, .int .i64 y]] W0 fun e w' => ∃ a c, e = .returned (.agg #[.int .i64 u1, .slice a u2.length c, .int .i64 u3]) ∧ u2.length ≤ c ∧ Own w' W0.heap.size a u2 ∧ Below W0.heap.size W0 w' from by
    have := iMinusD s a m c1 x t b n c2 y W0 B C (by omega) (by omega) (hx.below (p3.mono hB)) (hy.below (p3.mono hC)) hs ht hl hl' x1 x2 y1 y2 (hTab.below p3)
    change Calls _ _ _ _ (RetYR (subW (s * (m : Int)) x (t * (n : Int)) y) W0) at this
    rw [← hu] at this
    exact this.mono fun e w' ⟨a, c, he, hc, ho, hb⟩ => ⟨a, c, he, hc, ho, hb⟩)
  rw [← hu]
  obtain ⟨k1, k2, k3, k4, k5, k6⟩ := SS.out _ hT
  clear p1 p2 p3 p4 hx hy hW0 hB hC hl hl' hu hs ht x1 x2 y1 y2 hTab
  go_enter Tryd.func19, Tryd.ntmps19
  go_wp2_with fail
  rw [HW0.out]
  refine HP.out.mono ?_
  rintro e w3 ⟨a3, c3, rfl, hc3, ho3, hb3⟩
  have hf1 := fieldW u1 u3 a3 u2.length c3 w3
  have hf2 := fieldS u1 a3 u2.length c3 w3
  go_wp2_with fail
  go_ret
  exact HEND.out _ _ hb3

set_option maxRecDepth 100000 in
set_option maxHeartbeats 4000000 in
theorem iCompareDyadics (s : Int) (a : Option Addr) (xs : List Int) (c1 : Nat) (x : Int) (t : Int) (b : Option Addr) (ys : List Int) (c2 : Nat) (y : Int) (w : World) (B C : Nat) (hB : B ≤ w.heap.size) (hC : C ≤ w.heap.size) (hx : Ints w B a xs) (hy : Ints w C b ys) (hl : xs.length ≤ 9223372036854775807) (hl' : ys.length ≤ 9223372036854775807) (hTab : Tab w) :
    Calls Tryd.prog 8 #[.agg #[.int .i64 s, .slice a xs.length c1, .int .i64 x], .agg #[.int .i64 t, .slice b ys.length c2, .int .i64 y]] w (RetB (pairI (cmpY subW s xs x t ys y)) w) := by
  obtain ⟨W0, hW0⟩ : ∃ W0 : World, (w.alloc (.cells #[.int .i64 s, .slice a xs.length c1, .int .i64 x] 32)).alloc (.cells #[.int .i64 t, .slice b ys.length c2, .int .i64 y] 32) = W0 := ⟨_, rfl⟩
  obtain ⟨p1, p2, p3, p4⟩ := two_boxT w 32 32 #[.int .i64 s, .slice a xs.length c1, .int .i64 x] #[.int .i64 t, .slice b ys.length c2, .int .i64 y]
  rw [hW0] at p1 p2 p3 p4
  have HW0 := Lib.hid hW0
  have P3 := Lib.hid p3
  have P4 := Lib.hid p4
  have HTB := Lib.hid (show ∀ W, Below W0.heap.size W0 W → Tab W from fun W hW => (hTab.below p3).below hW)
  clear hTab
  have SS := Lib.hid (show ∀ W, Below W0.heap.size W0 W → (W.cell? ⟨w.heap.size, 0, none⟩ = some (.int .i64 s) ∧ W.cell? ⟨w.heap.size, 1, none⟩ = some (.slice a xs.length c1) ∧ W.cell? ⟨w.heap.size, 2, none⟩ = some (.int .i64 x) ∧ W.cell? ⟨w.heap.size + 1, 0, none⟩ = some (.int .i64 t) ∧ W.cell? ⟨w.heap.size + 1, 1, none⟩ = some (.slice b ys.length c2) ∧ W.cell? ⟨w.heap.size + 1, 2, none⟩ = some (.int .i64 y)) from
    fun W hW => ⟨(p1.below hW).cell 0, (p1.below hW).cell 1, (p1.below hW).cell 2, (p2.below hW).cell 0, (p2.below hW).cell 1, (p2.below hW).cell 2⟩)
  have HEND := Lib.hid (show ∀ v W, Below W0.heap.size W0 W → RetB v w (.returned v) W from fun v W hW => ⟨rfl, P3.out.trans (hW.mono (by omega))⟩)
  have hT : Below W0.heap.size W0 W0 := Below.refl _ _
  have IX := Lib.hid (show ∀ W, Below W0.heap.size W0 W → Ints W B a xs ∧ Ints W C b ys ∧ B ≤ W.heap.size ∧ C ≤ W.heap.size from fun W hW => ⟨hx.below ((p3.mono hB).trans (hW.mono (by omega))), hy.below ((p3.mono hC).trans (hW.mono (by omega))), by have := hW.size; omega, by have := hW.size; omega⟩)
  have HI1 := Lib.hid (show ∀ W, Below W0.heap.size W0 W → Calls Tryd.prog 18 #[.agg #[.int .i64 s, .slice a xs.length c1, .int .i64 x]] W fun e w' => e = .returned (.bool (dyB s xs x)) ∧ Below W0.heap.size W0 w' from
    fun W hW => (iIsDyadic s a xs c1 x W B (IX.out W hW).2.2.1 hl (IX.out W hW).1).mono fun e w' ⟨he, hb⟩ => ⟨he, hW.trans (hb.mono hW.size)⟩)
  have HI2 := Lib.hid (show ∀ W, Below W0.heap.size W0 W → Calls Tryd.prog 18 #[.agg #[.int .i64 t, .slice b ys.length c2, .int .i64 y]] W fun e w' => e = .returned (.bool (dyB t ys y)) ∧ Below W0.heap.size W0 w' from
    fun W hW => (iIsDyadic t b ys c2 y W C (IX.out W hW).2.2.2 hl' (IX.out W hW).2.1).mono fun e w' ⟨he, hb⟩ => ⟨he, hW.trans (hb.mono hW.size)⟩)
  obtain ⟨k1, k2, k3, k4, k5, k6⟩ := SS.out _ hT
  cases h1 : dyB s xs x
  · rw [cmpY_no (fun h => by rw [dyB_iff.2 h.1] at h1; cases h1)]
    rw [h1] at HI1
    clear p1 p2 p3 p4 hx hy hW0 hB hC hl hl' h1 IX
    go_enter Tryd.func8, Tryd.ntmps8
    go_wp2_with fail
    rw [HW0.out]
    refine (HI1.out _ hT).mono ?_
    rintro e w1 ⟨rfl, hb⟩
    clear k1 k2 k3 k4 k5 k6
    obtain ⟨k1, k2, k3, k4, k5, k6⟩ := SS.out _ hb
    go_wp2_with fail
    go_ret2
    exact HEND.out _ _ hb
  · have e1 := Lib.hid (dyB_iff.1 h1)
    rw [h1] at HI1
    cases h2 : dyB t ys y
    · rw [cmpY_no (fun h => by rw [dyB_iff.2 h.2] at h2; cases h2)]
      rw [h2] at HI2
      clear p1 p2 p3 p4 hx hy hW0 hB hC hl hl' h1 h2 IX e1
      go_enter Tryd.func8, Tryd.ntmps8
      go_wp2_with fail
      rw [HW0.out]
      refine (HI1.out _ hT).mono ?_
      rintro e w1 ⟨rfl, hb⟩
      clear k1 k2 k3 k4 k5 k6
      obtain ⟨k1, k2, k3, k4, k5, k6⟩ := SS.out _ hb
      go_wp2_with fail
      refine (HI2.out _ hb).mono ?_
      rintro e w2 ⟨rfl, hb2⟩
      go_wp2_with fail
      go_ret2
      exact HEND.out _ _ hb2
    · have e2 := Lib.hid (dyB_iff.1 h2)
      rw [h2] at HI2
      clear h1 h2
      obtain ⟨m, rfl, hm, sm, hx1, hx2⟩ := isDy_of e1.out
      obtain ⟨n, rfl, hn, sn, hy1, hy2⟩ := isDy_of e2.out
      rw [cmpY_yes e1.out e2.out]
      obtain ⟨⟨u1, u2, u3⟩, hu⟩ : ∃ r, r = subW (s * (m : Int)) x (t * (n : Int)) y := ⟨_, rfl⟩
      have HP := Lib.hid (show ∀ W, Below W0.heap.size W0 W → Calls Tryd.prog 19 #[.agg #[.int .i64 s, .slice a (lim m).length c1, .int .i64 x], .agg #[.int .i64 t, .slice b (lim n).length c2, .int .i64 y]] W fun e w' => e = .returned (.int .i64 u1) ∧ Below W0.heap.size W0 w' from
        fun W hW => by
          have := iCompareD s a m c1 x t b n c2 y W B C (IX.out W hW).2.2.1 (IX.out W hW).2.2.2 (IX.out W hW).1 (IX.out W hW).2.1 sm sn (by omega) (by omega) (by omega) (by omega) (by omega) (by omega) (HTB.out W hW)
          rw [← hu] at this
          exact this.mono fun e w' ⟨he, hb⟩ => ⟨he, hW.trans (hb.mono hW.size)⟩)
      rw [← hu]
      clear p1 p2 p3 p4 hx hy hW0 hB hC hl hl' IX hu sm sn hm hn e1 e2 hx1 hx2 hy1 hy2
      go_enter Tryd.func8, Tryd.ntmps8
      go_wp2_with fail
      rw [HW0.out]
      refine (HI1.out _ hT).mono ?_
      rintro e w1 ⟨rfl, hb⟩
      clear k1 k2 k3 k4 k5 k6
      obtain ⟨k1, k2, k3, k4, k5, k6⟩ := SS.out _ hb
      go_wp2_with fail
      refine (HI2.out _ hb).mono ?_
      rintro e w2 ⟨rfl, hb2⟩
      clear k1 k2 k3 k4 k5 k6
      obtain ⟨k1, k2, k3, k4, k5, k6⟩ := SS.out _ hb2
      go_wp2_with fail
      refine (HP.out _ hb2).mono ?_
      rintro e w3 ⟨rfl, hb3⟩
      go_wp2_with fail
      go_ret2
      exact HEND.out _ _ hb3

set_option maxRecDepth 100000 in
set_option maxHeartbeats 4000000 in
theorem sCompareDyadics (s : Int) (a : Option Addr) (xs : List Int) (c1 : Nat) (x : Int) (t : Int) (b : Option Addr) (ys : List Int) (c2 : Nat) (y : Int) (w : World) (B C : Nat) (hB : B ≤ w.heap.size) (hC : C ≤ w.heap.size) (hx : Ints w B a xs) (hy : Ints w C b ys) (hl : xs.length ≤ 9223372036854775807) (hl' : ys.length ≤ 9223372036854775807) (hc1 : xs.length ≤ c1) (hc2 : ys.length ≤ c2) :
    Calls Tryd.prog 6 #[.agg #[.int .i64 s, .slice a xs.length c1, .int .i64 x], .agg #[.int .i64 t, .slice b ys.length c2, .int .i64 y]] w (RetB (pairI (cmpY subW s xs x t ys y)) w) := by
  obtain ⟨W0, hW0⟩ : ∃ W0 : World, (w.alloc (.cells #[.int .i64 s, .slice a xs.length c1, .int .i64 x] 32)).alloc (.cells #[.int .i64 t, .slice b ys.length c2, .int .i64 y] 32) = W0 := ⟨_, rfl⟩
  obtain ⟨p1, p2, p3, p4⟩ := two_boxT w 32 32 #[.int .i64 s, .slice a xs.length c1, .int .i64 x] #[.int .i64 t, .slice b ys.length c2, .int .i64 y]
  rw [hW0] at p1 p2 p3 p4
  have HW0 := Lib.hid hW0
  have P3 := Lib.hid p3
  have P4 := Lib.hid p4
  have SS := Lib.hid (show ∀ W, Below W0.heap.size W0 W → (W.cell? ⟨w.heap.size, 0, none⟩ = some (.int .i64 s) ∧ W.cell? ⟨w.heap.size, 1, none⟩ = some (.slice a xs.length c1) ∧ W.cell? ⟨w.heap.size, 2, none⟩ = some (.int .i64 x) ∧ W.cell? ⟨w.heap.size + 1, 0, none⟩ = some (.int .i64 t) ∧ W.cell? ⟨w.heap.size + 1, 1, none⟩ = some (.slice b ys.length c2) ∧ W.cell? ⟨w.heap.size + 1, 2, none⟩ = some (.int .i64 y)) from
    fun W hW => ⟨(p1.below hW).cell 0, (p1.below hW).cell 1, (p1.below hW).cell 2, (p2.below hW).cell 0, (p2.below hW).cell 1, (p2.below hW).cell 2⟩)
  have HEND := Lib.hid (show ∀ v W, Below W0.heap.size W0 W → RetB v w (.returned v) W from fun v W hW => ⟨rfl, P3.out.trans (hW.mono (by omega))⟩)
  have hT : Below W0.heap.size W0 W0 := Below.refl _ _
  have IX := Lib.hid (show ∀ W, Below W0.heap.size W0 W → Ints W B a xs ∧ Ints W C b ys ∧ B ≤ W.heap.size ∧ C ≤ W.heap.size from fun W hW => ⟨hx.below ((p3.mono hB).trans (hW.mono (by omega))), hy.below ((p3.mono hC).trans (hW.mono (by omega))), by have := hW.size; omega, by have := hW.size; omega⟩)
  have HBO := Lib.hid (show ∀ W, Below W0.heap.size W0 W → Calls Tryd.prog 15 #[.agg #[.int .i64 s, .slice a xs.length c1, .int .i64 x], .agg #[.int .i64 t, .slice b ys.length c2, .int .i64 y]] W fun e w' => e = .returned (.int .i64 (bothY s xs x t ys y)) ∧ Below W0.heap.size W0 w' from
    fun W hW => (sBothY s a xs c1 x t b ys c2 y W B C (IX.out W hW).2.2.1 (IX.out W hW).2.2.2 (IX.out W hW).1 (IX.out W hW).2.1 hl hl').mono fun e w' ⟨he, hb⟩ => ⟨he, hW.trans (hb.mono hW.size)⟩)
  obtain ⟨k1, k2, k3, k4, k5, k6⟩ := SS.out _ hT
  by_cases hw : IsDy s xs x ∧ IsDy t ys y
  rotate_left
  · rw [cmpY_no hw]
    rw [bothY_no hw] at HBO
    clear p1 p2 p3 p4 hx hy hW0 hB hC hl hl' IX hw hc1 hc2
    go_enter Tryd.func6, Tryd.ntmps6
    go_wp2_with fail
    rw [HW0.out]
    refine (HBO.out _ hT).mono ?_
    rintro e w1 ⟨rfl, hb⟩
    clear k1 k2 k3 k4 k5 k6
    obtain ⟨k1, k2, k3, k4, k5, k6⟩ := SS.out _ hb
    go_wp2_with fail
    go_ret2
    exact HEND.out _ _ hb
  · obtain ⟨e1', e2'⟩ := hw
    have e1 := Lib.hid e1'
    have e2 := Lib.hid e2'
    rw [bothY_yes e1' e2'] at HBO
    clear e1' e2'
    · skip
      obtain ⟨m, rfl, hm, sm, hx1, hx2⟩ := isDy_of e1.out
      obtain ⟨n, rfl, hn, sn, hy1, hy2⟩ := isDy_of e2.out
      rw [cmpY_yes e1.out e2.out]
      obtain ⟨⟨u1, u2, u3⟩, hu⟩ : ∃ r, r = subW (s * (m : Int)) x (t * (n : Int)) y := ⟨_, rfl⟩
      have HP := Lib.hid (show ∀ W, Below W0.heap.size W0 W → Calls Tryd.prog 16 #[.agg #[.int .i64 s, .slice a (lim m).length c1, .int .i64 x], .agg #[.int .i64 t, .slice b (lim n).length c2, .int .i64 y]] W fun e w' => e = .returned (.int .i64 u1) ∧ Below W0.heap.size W0 w' from
        fun W hW => by
          have := sCompare3 s a m c1 x t b n c2 y W B C (IX.out W hW).2.2.1 (IX.out W hW).2.2.2 (IX.out W hW).1 (IX.out W hW).2.1 sm sn (by omega) (by omega) (by omega) (by omega) (by omega) (by omega) hc1 hc2
          rw [show (subW (s * (m : Int)) x (t * (n : Int)) y).1 = u1 by rw [← hu]] at this
          exact this.mono fun e w' ⟨he, hb⟩ => ⟨he, hW.trans (hb.mono hW.size)⟩)
      rw [← hu]
      clear p1 p2 p3 p4 hx hy hW0 hB hC hl hl' IX hu sm sn hm hn e1 e2 hx1 hx2 hy1 hy2 hc1 hc2
      go_enter Tryd.func6, Tryd.ntmps6
      go_wp2_with fail
      rw [HW0.out]
      refine (HBO.out _ hT).mono ?_
      rintro e w2 ⟨rfl, hb2⟩
      clear k1 k2 k3 k4 k5 k6
      obtain ⟨k1, k2, k3, k4, k5, k6⟩ := SS.out _ hb2
      go_wp2_with fail
      refine (HP.out _ hb2).mono ?_
      rintro e w3 ⟨rfl, hb3⟩
      go_wp2_with fail
      go_ret2
      exact HEND.out _ _ hb3
end Go.Proofs.YtiohacnkiikmcaaDoor
