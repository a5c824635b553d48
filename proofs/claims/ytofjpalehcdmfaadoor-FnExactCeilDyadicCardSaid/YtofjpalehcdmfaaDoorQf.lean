/-
  Contracts: opposites, floors and ceilings of exact numbers, by the program and by the model. Conditions: the limbs can be read; the library's table is as its initialiser lays it.
-/
import Derived.Test.YtofjpalehcdmfaaDoorQe
namespace Go.Proofs.YtofjpalehcdmfaaDoor
set_option linter.unusedVariables false
open Go Go.RowKit

set_option maxRecDepth 100000 in
set_option maxHeartbeats 2000000 in
theorem iFloorW (s : Int) (a : Option Addr) (m c1 : Nat) (x : Int) (k : Int) (w : World) (B : Nat) (hB : B ≤ w.heap.size) (hx : Ints w B a (lim m)) (hs : Sg s m) (hl : (lim m).length ≤ 200) (h1 : -20000 ≤ x + k) (h2 : x + k ≤ 20000) (hx1 : -1000000 ≤ x) (hx2 : x ≤ 1000000) (hTab : Tab w) :
    Calls Tryd.prog 131 #[.agg #[.int .i64 s, .slice a (lim m).length c1, .int .i64 x], .int .i64 k] w (RetZ (shZ (s * (m : Int)) (x + k)) w) := by
  obtain ⟨W0, hW0⟩ : ∃ W0 : World, (w.alloc (.cells #[.int .i64 s, .slice a (lim m).length c1, .int .i64 x] 50)).alloc (.cells #[.int .i64 0, .slice none 0 0] 26) = W0 := ⟨_, rfl⟩
  obtain ⟨p1, p2, p3, p4⟩ := two_boxT w 50 26 #[.int .i64 s, .slice a (lim m).length c1, .int .i64 x] #[.int .i64 0, .slice none 0 0]
  rw [hW0] at p1 p2 p3 p4
  have HW0 := Lib.hid hW0
  have P3 := Lib.hid p3
  have P4 := Lib.hid p4
  have SS := Lib.hid (show ∀ W, Below W0.heap.size W0 W → (W.cell? ⟨w.heap.size, 0, none⟩ = some (.int .i64 s) ∧ W.cell? ⟨w.heap.size, 1, none⟩ = some (.slice a (lim m).length c1) ∧ W.cell? ⟨w.heap.size, 2, none⟩ = some (.int .i64 x)) from
    fun W hW => (p1.below hW).tri)
  have SR := Lib.hid (show ∀ W, Below W0.heap.size W0 W → _ from fun W hW => (p2.below hW).two)
  have hT : Below W0.heap.size W0 W0 := Below.refl _ _
  have hT' : Below W0.heap.size W0 W0.drew := hT.drew
  have IX := Lib.hid (show ∀ W, Below W0.heap.size W0 W → Ints W B a (lim m) ∧ B ≤ W.heap.size from fun W hW => ⟨hx.below ((p3.mono hB).trans (hW.mono (by omega))), by have := hW.size; omega⟩)
  have HTB := Lib.hid (show ∀ W, Below W0.heap.size W0 W → Tab W from fun W hW => (hTab.below p3).below hW)
  clear hTab
  obtain ⟨y, hy⟩ : ∃ y : Int, y = x + k := ⟨_, rfl⟩
  rw [← hy] at h1 h2 ⊢
  have hwr : IntKind.i64.wrap (x + k) = y := by rw [← hy, IntKind.wrap_i64]; omega
  have hwr2 : wrap64 (x + k) = y := by rw [← hy]; unfold wrap64; omega
  obtain ⟨z, hz⟩ : ∃ z : Int, z = shZ (s * (m : Int)) y := ⟨_, rfl⟩
  have HSH := Lib.hid (show ∀ W, Below W0.heap.size W0 W → Calls Tryd.prog 94 #[.agg #[.int .i64 s, .slice a (lim m).length c1], .int .i64 y] W fun e w' => ∃ a c, e = .returned (.agg #[.int .i64 z.sign, .slice a (lim z.natAbs).length c]) ∧ (lim z.natAbs).length ≤ c ∧ Own w' W0.heap.size a (lim z.natAbs) ∧ Below W0.heap.size W0 w' from
    fun W hW => by
      have := iShZ s a m c1 y W B (IX.out W hW).2 (IX.out W hW).1 hs (by omega) (by omega) (by omega) (HTB.out W hW)
      rw [← hz] at this
      exact this.mono fun e w' ⟨a, c, he, hc, ho, hb⟩ => ⟨a, c, he, hc, ho.mono hW.size, hW.trans (hb.mono hW.size)⟩)
  rw [← hz]
  obtain ⟨k1, k2, k3⟩ := SS.out _ hT
  clear p1 p2 p3 p4 hx hW0 hB hl hs hz hy hx1 hx2 h1 h2 hT'
  go_enter Tryd.func131, Tryd.ntmps131
  go_wp2_with fail
  rw [HW0.out]
  refine (HSH.out _ hT).mono ?_
  rintro e w1 ⟨a1, d1, rfl, hc, ho, hb⟩
  have HC := Lib.hid hc
  have HO := Lib.hid ho
  clear hc ho k1 k2 k3
  obtain ⟨q1, q2, q3, q4⟩ := SR.out _ hb
  go_wp2_with fail
  refine bodyPost_ret (v := .agg #[.int .i64 z.sign, .slice a1 (lim z.natAbs).length d1]) (by simp [results, Tryd.results131, go_sem, *]) rfl ?_
  exact retZ_end2 P3.out P4.out hb _ _ HO.out HC.out ⟨rfl, rfl⟩

set_option maxRecDepth 100000 in
set_option maxHeartbeats 2000000 in
theorem iNegD (s : Int) (a : Option Addr) (m c1 : Nat) (x : Int) (w : World) (B : Nat) (hB : B ≤ w.heap.size) (hx : Ints w B a (lim m)) (hs : Sg s m) (hl : (lim m).length ≤ 1048000) :
    Calls Tryd.prog 170 #[.agg #[.int .i64 s, .slice a (lim m).length c1, .int .i64 x]] w (RetYR ((-(s * (m : Int))).sign, lim (-(s * (m : Int))).natAbs, x) w) := by
  obtain ⟨W0, hW0⟩ : ∃ W0 : World, (w.alloc (.cells #[.int .i64 s, .slice a (lim m).length c1, .int .i64 x] 50)).alloc (.cells #[.int .i64 0, .slice none 0 0, .int .i64 0] 50) = W0 := ⟨_, rfl⟩
  obtain ⟨p1, p2, p3, p4⟩ := two_boxT w 50 50 #[.int .i64 s, .slice a (lim m).length c1, .int .i64 x] #[.int .i64 0, .slice none 0 0, .int .i64 0]
  rw [hW0] at p1 p2 p3 p4
  have HW0 := Lib.hid hW0
  have P3 := Lib.hid p3
  have P4 := Lib.hid p4
  have SS := Lib.hid (show ∀ W, Below W0.heap.size W0 W → (W.cell? ⟨w.heap.size, 0, none⟩ = some (.int .i64 s) ∧ W.cell? ⟨w.heap.size, 1, none⟩ = some (.slice a (lim m).length c1) ∧ W.cell? ⟨w.heap.size, 2, none⟩ = some (.int .i64 x)) from
    fun W hW => (p1.below hW).tri)
  have SR := Lib.hid (show ∀ W, Below W0.heap.size W0 W → _ from fun W hW => (p2.below hW).tri6)
  have hT : Below W0.heap.size W0 W0 := Below.refl _ _
  have hT' : Below W0.heap.size W0 W0.drew := hT.drew
  have IX := Lib.hid (show ∀ W, Below W0.heap.size W0 W → Ints W B a (lim m) ∧ B ≤ W.heap.size from fun W hW => ⟨hx.below ((p3.mono hB).trans (hW.mono (by omega))), by have := hW.size; omega⟩)
  have ST := Lib.hid (show ∀ W u v y, Below W0.heap.size W0 W → (fun W : World => W.cell? ⟨w.heap.size, 0, none⟩ = some (.int .i64 s) ∧ W.cell? ⟨w.heap.size, 1, none⟩ = some (.slice a (lim m).length c1) ∧ W.cell? ⟨w.heap.size, 2, none⟩ = some (.int .i64 x)) (((W.setCell ⟨w.heap.size + 1, 0, none⟩ u).setCell ⟨w.heap.size + 1, 1, none⟩ v).setCell ⟨w.heap.size + 1, 2, none⟩ y) from fun W u v y hW =>
    ((((p1.below hW).far (by simp <;> omega) _).far (by simp <;> omega) _).far (by simp <;> omega) _).tri)
  obtain ⟨z, hz⟩ : ∃ z : Int, z = -(s * (m : Int)) := ⟨_, rfl⟩
  have HNG := Lib.hid (show ∀ W, Below W0.heap.size W0 W → Calls Tryd.prog 171 #[.agg #[.int .i64 s, .slice a (lim m).length c1]] W fun e w' => ∃ a c, e = .returned (.agg #[.int .i64 z.sign, .slice a (lim z.natAbs).length c]) ∧ (lim z.natAbs).length ≤ c ∧ Own w' W0.heap.size a (lim z.natAbs) ∧ Below W0.heap.size W0 w' from
    fun W hW => by
      have := iNegated s a m c1 W B (IX.out W hW).2 (IX.out W hW).1 hs (by omega)
      rw [← hz] at this
      exact this.mono fun e w' ⟨a, c, he, hc, ho, hb⟩ => ⟨a, c, he, hc, ho.mono hW.size, hW.trans (hb.mono hW.size)⟩)
  rw [← hz]
  clear p1 p2 p3 p4 hx hW0 hB hl hs hz
  go_enter Tryd.func170, Tryd.ntmps170
  go_wp2_with fail
  rw [HW0.out]
  go_region_held3 (fun W => W.cell? ⟨w.heap.size, 0, none⟩ = some (.int .i64 s) ∧ W.cell? ⟨w.heap.size, 1, none⟩ = some (.slice a (lim m).length c1) ∧ W.cell? ⟨w.heap.size, 2, none⟩ = some (.int .i64 x))
    (first | exact SS.out _ (by assumption) | exact ST.out _ _ _ _ (by assumption))
    (first
    | (go_at_call 171; refine (HNG.out _ (by assumption)).mono ?_; rintro e w' ⟨a', c', rfl, hc', ho', hb⟩; obtain ⟨q1, q2, q3, q4, q5, q6⟩ := SR.out _ hb))
  all_goals
    go_wp2_with fail
    refine bodyPost_ret (v := .agg #[.int .i64 z.sign, .slice a' (lim z.natAbs).length c', .int .i64 x]) (by simp [results, Tryd.results170, go_sem, *]) rfl ?_
    exact retYR_end (g := w.heap.size + 1) (r := (z.sign, lim z.natAbs, x)) P3.out P4.out (by assumption) (by omega) (by omega) _ _ _ (by assumption) (by assumption)

set_option maxRecDepth 100000 in
set_option maxHeartbeats 2000000 in
theorem sNegD (s : Int) (a : Option Addr) (m c1 : Nat) (x : Int) (w : World) (B : Nat) (hB : B ≤ w.heap.size) (hx : Ints w B a (lim m)) (hs : Sg s m) (hl : (lim m).length ≤ 1048000) (hc1 : (lim m).length ≤ c1) :
    Calls Tryd.prog 169 #[.agg #[.int .i64 s, .slice a (lim m).length c1, .int .i64 x]] w (RetYR ((-(s * (m : Int))).sign, lim (-(s * (m : Int))).natAbs, x) w) := by
  obtain ⟨W0, hW0⟩ : ∃ W0 : World, (w.alloc (.cells #[.int .i64 s, .slice a (lim m).length c1, .int .i64 x] 50)).alloc (.cells #[.int .i64 0, .slice none 0 0, .int .i64 0] 50) = W0 := ⟨_, rfl⟩
  obtain ⟨p1, p2, p3, p4⟩ := two_boxT w 50 50 #[.int .i64 s, .slice a (lim m).length c1, .int .i64 x] #[.int .i64 0, .slice none 0 0, .int .i64 0]
  rw [hW0] at p1 p2 p3 p4
  have HW0 := Lib.hid hW0
  have P3 := Lib.hid p3
  have P4 := Lib.hid p4
  have SS := Lib.hid (show ∀ W, Below W0.heap.size W0 W → (W.cell? ⟨w.heap.size, 0, none⟩ = some (.int .i64 s) ∧ W.cell? ⟨w.heap.size, 1, none⟩ = some (.slice a (lim m).length c1) ∧ W.cell? ⟨w.heap.size, 2, none⟩ = some (.int .i64 x)) from
    fun W hW => (p1.below hW).tri)
  have SR := Lib.hid (show ∀ W, Below W0.heap.size W0 W → _ from fun W hW => (p2.below hW).tri6)
  have hT : Below W0.heap.size W0 W0 := Below.refl _ _
  have hT' : Below W0.heap.size W0 W0.drew := hT.drew
  have IX := Lib.hid (show ∀ W, Below W0.heap.size W0 W → Ints W B a (lim m) ∧ B ≤ W.heap.size from fun W hW => ⟨hx.below ((p3.mono hB).trans (hW.mono (by omega))), by have := hW.size; omega⟩)
  have ST := Lib.hid (show ∀ W u v y, Below W0.heap.size W0 W → (fun W : World => W.cell? ⟨w.heap.size, 0, none⟩ = some (.int .i64 s) ∧ W.cell? ⟨w.heap.size, 1, none⟩ = some (.slice a (lim m).length c1) ∧ W.cell? ⟨w.heap.size, 2, none⟩ = some (.int .i64 x)) (((W.setCell ⟨w.heap.size + 1, 0, none⟩ u).setCell ⟨w.heap.size + 1, 1, none⟩ v).setCell ⟨w.heap.size + 1, 2, none⟩ y) from fun W u v y hW =>
    ((((p1.below hW).far (by simp <;> omega) _).far (by simp <;> omega) _).far (by simp <;> omega) _).tri)
  obtain ⟨z, hz⟩ : ∃ z : Int, z = -(s * (m : Int)) := ⟨_, rfl⟩
  have HNG := Lib.hid (show ∀ W, Below W0.heap.size W0 W → Calls Tryd.prog 176 #[.agg #[.int .i64 s, .slice a (lim m).length c1]] W fun e w' => ∃ a c, e = .returned (.agg #[.int .i64 z.sign, .slice a (lim z.natAbs).length c]) ∧ (lim z.natAbs).length ≤ c ∧ Own w' W0.heap.size a (lim z.natAbs) ∧ Below W0.heap.size W0 w' from
    fun W hW => by
      have := sNeg s a m c1 W B (IX.out W hW).2 (IX.out W hW).1 hs (by omega) hc1
      rw [← hz] at this
      exact this.mono fun e w' ⟨a, c, he, hc, ho, hb⟩ => ⟨a, c, he, hc, ho.mono hW.size, hW.trans (hb.mono hW.size)⟩)
  rw [← hz]
  clear p1 p2 p3 p4 hx hW0 hB hl hs hz hc1
  go_enter Tryd.func169, Tryd.ntmps169
  go_wp2_with fail
  rw [HW0.out]
  go_region_held3 (fun W => W.cell? ⟨w.heap.size, 0, none⟩ = some (.int .i64 s) ∧ W.cell? ⟨w.heap.size, 1, none⟩ = some (.slice a (lim m).length c1) ∧ W.cell? ⟨w.heap.size, 2, none⟩ = some (.int .i64 x))
    (first | exact SS.out _ (by assumption) | exact ST.out _ _ _ _ (by assumption))
    (first
    | (go_at_call 176; refine (HNG.out _ (by assumption)).mono ?_; rintro e w' ⟨a', c', rfl, hc', ho', hb⟩; obtain ⟨q1, q2, q3, q4, q5, q6⟩ := SR.out _ hb))
  all_goals
    go_wp2_with fail
    refine bodyPost_ret (v := .agg #[.int .i64 z.sign, .slice a' (lim z.natAbs).length c', .int .i64 x]) (by simp [results, Tryd.results169, go_sem, *]) rfl ?_
    exact retYR_end (g := w.heap.size + 1) (r := (z.sign, lim z.natAbs, x)) P3.out P4.out (by assumption) (by omega) (by omega) _ _ _ (by assumption) (by assumption)

set_option maxRecDepth 100000 in
set_option maxHeartbeats 2000000 in
theorem iCeilW (s : Int) (a : Option Addr) (m c1 : Nat) (x : Int) (k : Int) (w : World) (B : Nat) (hB : B ≤ w.heap.size) (hx : Ints w B a (lim m)) (hs : Sg s m) (hl : (lim m).length ≤ 200) (h1 : -20000 ≤ x + k) (h2 : x + k ≤ 20000) (hx1 : -1000000 ≤ x) (hx2 : x ≤ 1000000) (hTab : Tab w) :
    Calls Tryd.prog 133 #[.agg #[.int .i64 s, .slice a (lim m).length c1, .int .i64 x], .int .i64 k] w (RetZ (-(shZ (-(s * (m : Int))) (x + k))) w) := by
  obtain ⟨W0, hW0⟩ : ∃ W0 : World, (w.alloc (.cells #[.int .i64 s, .slice a (lim m).length c1, .int .i64 x] 50)).alloc (.cells #[.int .i64 0, .slice none 0 0] 26) = W0 := ⟨_, rfl⟩
  obtain ⟨p1, p2, p3, p4⟩ := two_boxT w 50 26 #[.int .i64 s, .slice a (lim m).length c1, .int .i64 x] #[.int .i64 0, .slice none 0 0]
  rw [hW0] at p1 p2 p3 p4
  have HW0 := Lib.hid hW0
  have P3 := Lib.hid p3
  have P4 := Lib.hid p4
  have SS := Lib.hid (show ∀ W, Below W0.heap.size W0 W → (W.cell? ⟨w.heap.size, 0, none⟩ = some (.int .i64 s) ∧ W.cell? ⟨w.heap.size, 1, none⟩ = some (.slice a (lim m).length c1) ∧ W.cell? ⟨w.heap.size, 2, none⟩ = some (.int .i64 x)) from
    fun W hW => (p1.below hW).tri)
  have SR := Lib.hid (show ∀ W, Below W0.heap.size W0 W → _ from fun W hW => (p2.below hW).two)
  have hT : Below W0.heap.size W0 W0 := Below.refl _ _
  have hT' : Below W0.heap.size W0 W0.drew := hT.drew
  have IX := Lib.hid (show ∀ W, Below W0.heap.size W0 W → Ints W B a (lim m) ∧ B ≤ W.heap.size from fun W hW => ⟨hx.below ((p3.mono hB).trans (hW.mono (by omega))), by have := hW.size; omega⟩)
  have HTB := Lib.hid (show ∀ W, Below W0.heap.size W0 W → Tab W from fun W hW => (hTab.below p3).below hW)
  clear hTab
  obtain ⟨v, hv⟩ : ∃ v : Int, v = -(s * (m : Int)) := ⟨_, rfl⟩
  have hvl : (lim v.natAbs).length ≤ 200 := by rw [hv, Int.natAbs_neg, hs.abs]; exact hl
  have HNG := Lib.hid (show ∀ W, Below W0.heap.size W0 W → Calls Tryd.prog 170 #[.agg #[.int .i64 s, .slice a (lim m).length c1, .int .i64 x]] W fun e w' => ∃ a c, e = .returned (.agg #[.int .i64 v.sign, .slice a (lim v.natAbs).length c, .int .i64 x]) ∧ Own w' W0.heap.size a (lim v.natAbs) ∧ Below W0.heap.size W0 w' from
    fun W hW => by
      have := iNegD s a m c1 x W B (IX.out W hW).2 (IX.out W hW).1 hs (by omega)
      rw [← hv] at this
      exact this.mono fun e w' ⟨a, c, he, hc, ho, hb⟩ => ⟨a, c, he, ho.mono hW.size, hW.trans (hb.mono hW.size)⟩)
  rw [← hv]
  obtain ⟨z, hz⟩ : ∃ z : Int, z = shZ v (x + k) := ⟨_, rfl⟩
  have hzl : (lim z.natAbs).length ≤ 1100 := by
    have h3 := shZ_lim (s := v.sign) (m := v.natAbs) (k := x + k) hvl (Sg.of v).three h1 h2
    rw [Sg.mul, ← hz] at h3
    exact h3
  have HFL := Lib.hid (show ∀ (a : Option Addr) (c : Nat) W, Below W0.heap.size W0 W → Own W W0.heap.size a (lim v.natAbs) → Calls Tryd.prog 131 #[.agg #[.int .i64 v.sign, .slice a (lim v.natAbs).length c, .int .i64 x], .int .i64 k] W fun e w' => ∃ a c, e = .returned (.agg #[.int .i64 z.sign, .slice a (lim z.natAbs).length c]) ∧ (lim z.natAbs).length ≤ c ∧ Own w' W0.heap.size a (lim z.natAbs) ∧ Below W0.heap.size W0 w' from
    fun a c W hW ho => by
      have := iFloorW v.sign a v.natAbs c x k W W.heap.size (Nat.le_refl _) ho.ints (Sg.of v) hvl h1 h2 hx1 hx2 (HTB.out W hW)
      rw [Sg.mul, ← hz] at this
      exact this.mono fun e w' ⟨a, c, he, hc, ho, hb⟩ => ⟨a, c, he, hc, ho.mono hW.size, hW.trans (hb.mono hW.size)⟩)
  rw [← hz]
  obtain ⟨y, hy⟩ : ∃ y : Int, y = -z := ⟨_, rfl⟩
  have HNW := Lib.hid (show ∀ (a : Option Addr) (c : Nat) W, Below W0.heap.size W0 W → Own W W0.heap.size a (lim z.natAbs) → Calls Tryd.prog 171 #[.agg #[.int .i64 z.sign, .slice a (lim z.natAbs).length c]] W fun e w' => ∃ a c, e = .returned (.agg #[.int .i64 y.sign, .slice a (lim y.natAbs).length c]) ∧ (lim y.natAbs).length ≤ c ∧ Own w' W0.heap.size a (lim y.natAbs) ∧ Below W0.heap.size W0 w' from
    fun a c W hW ho => by
      have := iNegated z.sign a z.natAbs c W W.heap.size (Nat.le_refl _) ho.ints (Sg.of z) (by omega)
      rw [Sg.mul, ← hy] at this
      exact this.mono fun e w' ⟨a, c, he, hc, ho, hb⟩ => ⟨a, c, he, hc, ho.mono hW.size, hW.trans (hb.mono hW.size)⟩)
  rw [← hy]
  obtain ⟨vs, hvs⟩ : ∃ r, r = v.sign := ⟨_, rfl⟩
  obtain ⟨vn, hvn⟩ : ∃ r, r = v.natAbs := ⟨_, rfl⟩
  obtain ⟨zs, hzs⟩ : ∃ r, r = z.sign := ⟨_, rfl⟩
  obtain ⟨zn, hzn⟩ : ∃ r, r = z.natAbs := ⟨_, rfl⟩
  rw [← hvs, ← hvn] at HNG HFL
  rw [← hzs, ← hzn] at HFL HNW
  obtain ⟨k1, k2, k3⟩ := SS.out _ hT
  clear p1 p2 p3 p4 hx hW0 hB hl hs hv hvl hz hzl hx1 hx2 h1 h2 hT' hvs hvn hzs hzn hy
  go_enter Tryd.func133, Tryd.ntmps133
  go_wp2_with fail
  rw [HW0.out]
  refine (HNG.out _ hT).mono ?_
  rintro e w1 ⟨a1, d1, rfl, ho1, hb1⟩
  clear k1 k2 k3
  have HO1 := Lib.hid ho1
  clear ho1
  go_wp2_with fail
  refine (HFL.out _ _ _ hb1 HO1.out).mono ?_
  rintro e w2 ⟨a2, d2, rfl, hc2, ho2, hb2⟩
  have HO2 := Lib.hid ho2
  clear ho2 hc2
  go_wp2_with fail
  refine (HNW.out _ _ _ hb2 HO2.out).mono ?_
  rintro e w3 ⟨a3, d3, rfl, hc, ho, hb⟩
  have HC := Lib.hid hc
  have HO := Lib.hid ho
  clear hc ho
  obtain ⟨q1, q2, q3, q4⟩ := SR.out _ hb
  go_wp2_with fail
  refine bodyPost_ret (v := .agg #[.int .i64 y.sign, .slice a3 (lim y.natAbs).length d3]) (by simp [results, Tryd.results133, go_sem, *]) rfl ?_
  exact retZ_end2 P3.out P4.out hb _ _ HO.out HC.out ⟨rfl, rfl⟩

set_option maxRecDepth 100000 in
set_option maxHeartbeats 2000000 in
theorem sFloor3 (s : Int) (a : Option Addr) (m c1 : Nat) (x : Int) (k : Int) (w : World) (B : Nat) (hB : B ≤ w.heap.size) (hx : Ints w B a (lim m)) (hs : Sg s m) (hl : (lim m).length ≤ 200) (h1 : -20000 ≤ x + k) (h2 : x + k ≤ 20000) (hx1 : -1000000 ≤ x) (hx2 : x ≤ 1000000) :
    Calls Tryd.prog 130 #[.agg #[.int .i64 s, .slice a (lim m).length c1, .int .i64 x], .int .i64 k] w (RetYR (flF s m x k) w) := by
  obtain ⟨W0, hW0⟩ : ∃ W0 : World, (w.alloc (.cells #[.int .i64 s, .slice a (lim m).length c1, .int .i64 x] 50)).alloc (.cells #[.int .i64 0, .slice none 0 0, .int .i64 0] 50) = W0 := ⟨_, rfl⟩
  obtain ⟨p1, p2, p3, p4⟩ := two_boxT w 50 50 #[.int .i64 s, .slice a (lim m).length c1, .int .i64 x] #[.int .i64 0, .slice none 0 0, .int .i64 0]
  rw [hW0] at p1 p2 p3 p4
  have HW0 := Lib.hid hW0
  have P3 := Lib.hid p3
  have P4 := Lib.hid p4
  have SS := Lib.hid (show ∀ W, Below W0.heap.size W0 W → (W.cell? ⟨w.heap.size, 0, none⟩ = some (.int .i64 s) ∧ W.cell? ⟨w.heap.size, 1, none⟩ = some (.slice a (lim m).length c1) ∧ W.cell? ⟨w.heap.size, 2, none⟩ = some (.int .i64 x)) from
    fun W hW => (p1.below hW).tri)
  have SR := Lib.hid (show ∀ W, Below W0.heap.size W0 W → _ from fun W hW => (p2.below hW).tri6)
  have hT : Below W0.heap.size W0 W0 := Below.refl _ _
  have hT' : Below W0.heap.size W0 W0.drew := hT.drew
  have IX := Lib.hid (show ∀ W, Below W0.heap.size W0 W → Ints W B a (lim m) ∧ B ≤ W.heap.size from fun W hW => ⟨hx.below ((p3.mono hB).trans (hW.mono (by omega))), by have := hW.size; omega⟩)
  have hnk : IntKind.i64.wrap (-k) = -k := by rw [IntKind.wrap_i64]; omega
  obtain ⟨k1, k2, k3⟩ := SS.out _ hT
  by_cases hc : -k ≤ x
  · have e : flF s m x k = redS s m x := by
      obtain ⟨K, hK⟩ := Int.eq_ofNat_of_zero_le (show 0 ≤ x + k by omega)
      unfold flF
      rw [hK, shZ_up, redZ_pow, ← hK, redZ_eq hs]
      congr 1
      omega
    rw [e]
    obtain ⟨⟨r1, r2, r3⟩, hr⟩ : ∃ r, r = redS s m x := ⟨_, rfl⟩
    have HMK := Lib.hid (show ∀ W, Below W0.heap.size W0 W → Calls Tryd.prog 114 #[.agg #[.int .i64 s, .slice a (lim m).length c1], .int .i64 x] W fun e w' => ∃ a c, e = .returned (.agg #[.int .i64 r1, .slice a r2.length c, .int .i64 r3]) ∧ r2.length ≤ c ∧ Own w' W0.heap.size a r2 ∧ Below W0.heap.size W0 w' from
      fun W hW => by
        have := sMake3 s a m c1 x W B (IX.out W hW).2 (IX.out W hW).1 hs (by omega) (by omega) (by omega)
        rw [← hr] at this
        exact this.mono fun e w' ⟨a, c, he, hc, ho, hb⟩ => ⟨a, c, he, hc, ho.mono hW.size, hW.trans (hb.mono hW.size)⟩)
    rw [← hr]
    clear p1 p2 p3 p4 hx hW0 hB hl hs e hr hx1 hx2 h1 h2 hT'
    go_enter Tryd.func130, Tryd.ntmps130
    go_wp2_with fail
    rw [HW0.out]
    refine (HMK.out _ hT).mono ?_
    rintro e w1 ⟨a1, d1, rfl, hc1, ho, hb⟩
    have HC := Lib.hid hc1
    have HO := Lib.hid ho
    clear hc1 ho k1 k2 k3
    obtain ⟨q1, q2, q3, q4, q5, q6⟩ := SR.out _ hb
    go_wp2_with fail
    refine bodyPost_ret (v := .agg #[.int .i64 r1, .slice a1 r2.length d1, .int .i64 r3]) (by simp [results, Tryd.results130, go_sem, *]) rfl ?_
    exact retYR_end (g := w.heap.size + 1) (r := (r1, r2, r3)) P3.out P4.out hb (by omega) (by omega) _ _ _ HO.out HC.out
  · have hcd : decide (-k ≤ x) = false := decide_eq_false hc
    unfold flF
    have hzl := shZ_lim (k := x + k) hl hs.three h1 h2
    obtain ⟨y, hy⟩ : ∃ y : Int, y = x + k := ⟨_, rfl⟩
    rw [← hy] at h1 h2 hzl ⊢
    have hwr : IntKind.i64.wrap (x + k) = y := by rw [← hy, IntKind.wrap_i64]; omega
    have hwr2 : wrap64 (x + k) = y := by rw [← hy]; unfold wrap64; omega
    obtain ⟨z, hz⟩ : ∃ z : Int, z = shZ (s * (m : Int)) y := ⟨_, rfl⟩
    rw [← hz] at hzl
    have HSH := Lib.hid (show ∀ W, Below W0.heap.size W0 W → Calls Tryd.prog 97 #[.agg #[.int .i64 s, .slice a (lim m).length c1], .int .i64 y] W fun e w' => ∃ a c, e = .returned (.agg #[.int .i64 z.sign, .slice a (lim z.natAbs).length c]) ∧ Own w' W0.heap.size a (lim z.natAbs) ∧ Below W0.heap.size W0 w' from
      fun W hW => by
        have := sShZ s a m c1 y W B (IX.out W hW).2 (IX.out W hW).1 hs (by omega) (by omega) (by omega)
        rw [← hz] at this
        exact this.mono fun e w' ⟨a, c, he, hc, ho, hb⟩ => ⟨a, c, he, ho.mono hW.size, hW.trans (hb.mono hW.size)⟩)
    rw [← hz]
    obtain ⟨j, hj⟩ : ∃ j : Int, j = -k := ⟨_, rfl⟩
    have hnk2 : wrap64 (-k) = j := by rw [hj]; unfold wrap64; omega
    rw [← hj] at hnk hcd ⊢
    obtain ⟨⟨r1, r2, r3⟩, hr⟩ : ∃ r, r = redZ z j := ⟨_, rfl⟩
    have HMK := Lib.hid (show ∀ (a : Option Addr) (c : Nat) W, Below W0.heap.size W0 W → Own W W0.heap.size a (lim z.natAbs) → Calls Tryd.prog 114 #[.agg #[.int .i64 z.sign, .slice a (lim z.natAbs).length c], .int .i64 j] W fun e w' => ∃ a c, e = .returned (.agg #[.int .i64 r1, .slice a r2.length c, .int .i64 r3]) ∧ r2.length ≤ c ∧ Own w' W0.heap.size a r2 ∧ Below W0.heap.size W0 w' from
      fun a c W hW ho => by
        have := sMake3 z.sign a z.natAbs c j W W.heap.size (Nat.le_refl _) ho.ints (Sg.of z) (by omega) (by omega) (by omega)
        change Calls _ _ _ _ (RetYR (redZ z j) W) at this
        rw [← hr] at this
        exact this.mono fun e w' ⟨a, c, he, hc, ho, hb⟩ => ⟨a, c, he, hc, ho.mono hW.size, hW.trans (hb.mono hW.size)⟩)
    rw [← hr]
    obtain ⟨zs, hzs⟩ : ∃ r, r = z.sign := ⟨_, rfl⟩
    obtain ⟨zn, hzn⟩ : ∃ r, r = z.natAbs := ⟨_, rfl⟩
    rw [← hzs, ← hzn] at HSH HMK
    clear p1 p2 p3 p4 hx hW0 hB hl hs hr hx1 hx2 h1 h2 hT' hz hzl hzs hzn hy hj hc
    go_enter Tryd.func130, Tryd.ntmps130
    go_wp2_with fail
    rw [HW0.out]
    refine (HSH.out _ hT).mono ?_
    rintro e w1 ⟨a1, d1, rfl, ho, hb⟩
    have HO := Lib.hid ho
    clear ho k1 k2 k3
    go_wp2_with fail
    refine (HMK.out _ _ _ hb HO.out).mono ?_
    rintro e w2 ⟨a2, d2, rfl, hc2, ho2, hb2⟩
    have HC2 := Lib.hid hc2
    have HO2 := Lib.hid ho2
    clear hc2 ho2
    obtain ⟨q1, q2, q3, q4, q5, q6⟩ := SR.out _ hb2
    go_wp2_with fail
    refine bodyPost_ret (v := .agg #[.int .i64 r1, .slice a2 r2.length d2, .int .i64 r3]) (by simp [results, Tryd.results130, go_sem, *]) rfl ?_
    exact retYR_end (g := w.heap.size + 1) (r := (r1, r2, r3)) P3.out P4.out hb2 (by omega) (by omega) _ _ _ HO2.out HC2.out

set_option maxRecDepth 100000 in
set_option maxHeartbeats 2000000 in
theorem sCeil3 (s : Int) (a : Option Addr) (m c1 : Nat) (x : Int) (k : Int) (w : World) (B : Nat) (hB : B ≤ w.heap.size) (hx : Ints w B a (lim m)) (hs : Sg s m) (hl : (lim m).length ≤ 200) (hc1 : (lim m).length ≤ c1) (h1 : -20000 ≤ x + k) (h2 : x + k ≤ 20000) (hx1 : -1000000 ≤ x) (hx2 : x ≤ 1000000) :
    Calls Tryd.prog 132 #[.agg #[.int .i64 s, .slice a (lim m).length c1, .int .i64 x], .int .i64 k] w (RetYR (ceF s m x k) w) := by
  obtain ⟨W0, hW0⟩ : ∃ W0 : World, (w.alloc (.cells #[.int .i64 s, .slice a (lim m).length c1, .int .i64 x] 50)).alloc (.cells #[.int .i64 0, .slice none 0 0, .int .i64 0] 50) = W0 := ⟨_, rfl⟩
  obtain ⟨p1, p2, p3, p4⟩ := two_boxT w 50 50 #[.int .i64 s, .slice a (lim m).length c1, .int .i64 x] #[.int .i64 0, .slice none 0 0, .int .i64 0]
  rw [hW0] at p1 p2 p3 p4
  have HW0 := Lib.hid hW0
  have P3 := Lib.hid p3
  have P4 := Lib.hid p4
  have SS := Lib.hid (show ∀ W, Below W0.heap.size W0 W → (W.cell? ⟨w.heap.size, 0, none⟩ = some (.int .i64 s) ∧ W.cell? ⟨w.heap.size, 1, none⟩ = some (.slice a (lim m).length c1) ∧ W.cell? ⟨w.heap.size, 2, none⟩ = some (.int .i64 x)) from
    fun W hW => (p1.below hW).tri)
  have SR := Lib.hid (show ∀ W, Below W0.heap.size W0 W → _ from fun W hW => (p2.below hW).tri6)
  have hT : Below W0.heap.size W0 W0 := Below.refl _ _
  have hT' : Below W0.heap.size W0 W0.drew := hT.drew
  have IX := Lib.hid (show ∀ W, Below W0.heap.size W0 W → Ints W B a (lim m) ∧ B ≤ W.heap.size from fun W hW => ⟨hx.below ((p3.mono hB).trans (hW.mono (by omega))), by have := hW.size; omega⟩)
  obtain ⟨v, hv⟩ : ∃ v : Int, v = -(s * (m : Int)) := ⟨_, rfl⟩
  have hvl : (lim v.natAbs).length ≤ 200 := by rw [hv, Int.natAbs_neg, hs.abs]; exact hl
  have HNG := Lib.hid (show ∀ W, Below W0.heap.size W0 W → Calls Tryd.prog 169 #[.agg #[.int .i64 s, .slice a (lim m).length c1, .int .i64 x]] W fun e w' => ∃ a c, e = .returned (.agg #[.int .i64 v.sign, .slice a (lim v.natAbs).length c, .int .i64 x]) ∧ Own w' W0.heap.size a (lim v.natAbs) ∧ Below W0.heap.size W0 w' from
    fun W hW => by
      have := sNegD s a m c1 x W B (IX.out W hW).2 (IX.out W hW).1 hs (by omega) hc1
      rw [← hv] at this
      exact this.mono fun e w' ⟨a, c, he, hc, ho, hb⟩ => ⟨a, c, he, ho.mono hW.size, hW.trans (hb.mono hW.size)⟩)
  unfold ceF
  rw [← hv]
  obtain ⟨z, hz⟩ : ∃ z : Int, z = shZ v (x + k) := ⟨_, rfl⟩
  have hzl : (lim z.natAbs).length ≤ 1100 := by
    have h3 := shZ_lim (s := v.sign) (m := v.natAbs) (k := x + k) hvl (Sg.of v).three h1 h2
    rw [Sg.mul, ← hz] at h3
    exact h3
  obtain ⟨us, um, ux, e1, usg, ule, e2⟩ := redZ_form z (-k)
  have hul : (lim um).length ≤ 1100 := Nat.le_trans (lim_le_of_le ule) hzl
  have HFL := Lib.hid (show ∀ (a : Option Addr) (c : Nat) W, Below W0.heap.size W0 W → Own W W0.heap.size a (lim v.natAbs) → Calls Tryd.prog 130 #[.agg #[.int .i64 v.sign, .slice a (lim v.natAbs).length c, .int .i64 x], .int .i64 k] W fun e w' => ∃ a c, e = .returned (.agg #[.int .i64 us, .slice a (lim um).length c, .int .i64 ux]) ∧ (lim um).length ≤ c ∧ Own w' W0.heap.size a (lim um) ∧ Below W0.heap.size W0 w' from
    fun a c W hW ho => by
      have := sFloor3 v.sign a v.natAbs c x k W W.heap.size (Nat.le_refl _) ho.ints (Sg.of v) hvl h1 h2 hx1 hx2
      unfold flF at this
      rw [Sg.mul, ← hz, e1] at this
      exact this.mono fun e w' ⟨a, c, he, hc, ho, hb⟩ => ⟨a, c, he, hc, ho.mono hW.size, hW.trans (hb.mono hW.size)⟩)
  rw [← hz, e2]
  obtain ⟨y, hy⟩ : ∃ y : Int, y = -(us * (um : Int)) := ⟨_, rfl⟩
  have HNW := Lib.hid (show ∀ (a : Option Addr) (c : Nat) W, Below W0.heap.size W0 W → (lim um).length ≤ c → Own W W0.heap.size a (lim um) → Calls Tryd.prog 169 #[.agg #[.int .i64 us, .slice a (lim um).length c, .int .i64 ux]] W fun e w' => ∃ a c, e = .returned (.agg #[.int .i64 y.sign, .slice a (lim y.natAbs).length c, .int .i64 ux]) ∧ (lim y.natAbs).length ≤ c ∧ Own w' W0.heap.size a (lim y.natAbs) ∧ Below W0.heap.size W0 w' from
    fun a c W hW hc ho => by
      have := sNegD us a um c ux W W.heap.size (Nat.le_refl _) ho.ints usg (by omega) hc
      rw [← hy] at this
      exact this.mono fun e w' ⟨a, c, he, hc, ho, hb⟩ => ⟨a, c, he, hc, ho.mono hW.size, hW.trans (hb.mono hW.size)⟩)
  rw [← hy]
  obtain ⟨vs, hvs⟩ : ∃ r, r = v.sign := ⟨_, rfl⟩
  obtain ⟨vn, hvn⟩ : ∃ r, r = v.natAbs := ⟨_, rfl⟩
  rw [← hvs, ← hvn] at HNG HFL
  obtain ⟨k1, k2, k3⟩ := SS.out _ hT
  clear p1 p2 p3 p4 hx hW0 hB hl hs hv hvl hz hzl hx1 hx2 h1 h2 hT' hvs hvn hy e1 e2 usg ule hul hc1
  go_enter Tryd.func132, Tryd.ntmps132
  go_wp2_with fail
  rw [HW0.out]
  refine (HNG.out _ hT).mono ?_
  rintro e w1 ⟨a1, d1, rfl, ho1, hb1⟩
  clear k1 k2 k3
  have HO1 := Lib.hid ho1
  clear ho1
  go_wp2_with fail
  refine (HFL.out _ _ _ hb1 HO1.out).mono ?_
  rintro e w2 ⟨a2, d2, rfl, hc2, ho2, hb2⟩
  have HO2 := Lib.hid ho2
  have HC2 := Lib.hid hc2
  clear ho2 hc2
  go_wp2_with fail
  refine (HNW.out _ _ _ hb2 HC2.out HO2.out).mono ?_
  rintro e w3 ⟨a3, d3, rfl, hc, ho, hb⟩
  have HC := Lib.hid hc
  have HO := Lib.hid ho
  clear hc ho
  obtain ⟨q1, q2, q3, q4, q5, q6⟩ := SR.out _ hb
  go_wp2_with fail
  refine bodyPost_ret (v := .agg #[.int .i64 y.sign, .slice a3 (lim y.natAbs).length d3, .int .i64 ux]) (by simp [results, Tryd.results132, go_sem, *]) rfl ?_
  exact retYR_end (g := w.heap.size + 1) (r := (y.sign, lim y.natAbs, ux)) P3.out P4.out hb (by omega) (by omega) _ _ _ HO.out HC.out
end Go.Proofs.YtofjpalehcdmfaaDoor
