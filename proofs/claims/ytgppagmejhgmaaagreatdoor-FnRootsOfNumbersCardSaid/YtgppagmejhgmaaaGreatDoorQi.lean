/-
  Contracts: sums, differences and products of exact numbers, which may be too large, by the program and by the model. Conditions: the limbs can be read; the library's table is as its initialiser lays it. Contracts: AddDyadics, SubtractDyadics, MultiplyDyadics and CompareDyadics of the program and of the model. Conditions: the limbs can be read; the library's table is as its initialiser lays it.
-/
import Derived.Test.YtgppagmejhgmaaaGreatDoorQm
import Derived.Test.YtgppagmejhgmaaaGreatDoorTd
import Derived.Test.YtgppagmejhgmaaaGreatDoorUc
import Derived.Deep.DeepCutAuto
import Derived.Deep.RegionHeld3
import Derived.Test.YtgppagmejhgmaaaGreatDoorTg
namespace Go.Proofs.YtgppagmejhgmaaaGreatDoor
set_option linter.unusedVariables false
open Go Go.RowKit

def addW (z1 x z2 y : Int) : Int × List Int × Int := redZ (shZ z1 (x - min x y) + shZ z2 (y - min x y)) (min x y)
def mulW (z1 x z2 y : Int) : Int × List Int × Int := redZ (z1 * z2) (x + y)
theorem lim_pow_len (K : Nat) : (lim (2 ^ K)).length ≤ K / 24 + 1 := by
  rw [lim_length]
  refine dig_length_le ?_
  rw [two24]
  exact Nat.pow_lt_pow_right (by omega) (by omega)
theorem shZ_nn {z k : Int} (h : 0 ≤ k) : shZ z k = z * 2 ^ k.toNat := by unfold shZ; rw [if_pos h]
theorem shZ_zero (k : Int) : shZ 0 k = 0 := by unfold shZ; split <;> simp
theorem shZ_up_len {z k : Int} (h : 0 ≤ k) : (lim (shZ z k).natAbs).length ≤ (lim z.natAbs).length + (k.toNat / 24 + 1) := by
  rw [shZ_nn h, Int.natAbs_mul]
  have e : ((2 : Int) ^ k.toNat).natAbs = 2 ^ k.toNat := by rw [show (2 : Int) ^ k.toNat = ((2 ^ k.toNat : Nat) : Int) by simp]; exact Int.natAbs_natCast _
  rw [e]
  have h1 := lim_mul_len z.natAbs (2 ^ k.toNat)
  have h2 := lim_pow_len k.toNat
  omega

set_option maxRecDepth 100000 in
set_option maxHeartbeats 4000000 in
theorem iTimesD (s : Int) (a : Option Addr) (m c1 : Nat) (x : Int) (t : Int) (b : Option Addr) (n c2 : Nat) (y : Int) (w : World) (B C : Nat) (hB : B ≤ w.heap.size) (hC : C ≤ w.heap.size) (hx : Ints w B a (lim m)) (hy : Ints w C b (lim n)) (hs : Sg s m) (ht : Sg t n) (hl : (lim m).length ≤ 400) (hl' : (lim n).length ≤ 400) (x1 : -30000 ≤ x) (x2 : x ≤ 30000) (y1 : -30000 ≤ y) (y2 : y ≤ 30000) (hTab : Tab w) :
    Calls Tryz.prog 61 #[.agg #[.int .i64 s, .slice a (lim m).length c1, .int .i64 x], .agg #[.int .i64 t, .slice b (lim n).length c2, .int .i64 y]] w (RetYR (mulW (s * (m : Int)) x (t * (n : Int)) y) w) := by
  obtain ⟨W0, hW0⟩ : ∃ W0 : World, ((w.alloc (.cells #[.int .i64 s, .slice a (lim m).length c1, .int .i64 x] 62)).alloc (.cells #[.int .i64 t, .slice b (lim n).length c2, .int .i64 y] 62)).alloc (.cells #[.int .i64 0, .slice none 0 0, .int .i64 0] 62) = W0 := ⟨_, rfl⟩
  obtain ⟨p1, p2, p5, p3, p4⟩ := three_boxT w 62 62 62 #[.int .i64 s, .slice a (lim m).length c1, .int .i64 x] #[.int .i64 t, .slice b (lim n).length c2, .int .i64 y] #[.int .i64 0, .slice none 0 0, .int .i64 0]
  rw [hW0] at p1 p2 p3 p4 p5
  have HW0 := Lib.hid hW0
  have P3 := Lib.hid p3
  have P4 := Lib.hid p4
  have HTB := Lib.hid (show ∀ W, Below W0.heap.size W0 W → Tab W from fun W hW => (hTab.below p3).below hW)
  clear hTab
  have SS := Lib.hid (show ∀ W, Below W0.heap.size W0 W → (W.cell? ⟨w.heap.size, 0, none⟩ = some (.int .i64 s) ∧ W.cell? ⟨w.heap.size, 1, none⟩ = some (.slice a (lim m).length c1) ∧ W.cell? ⟨w.heap.size, 2, none⟩ = some (.int .i64 x) ∧ W.cell? ⟨w.heap.size + 1, 0, none⟩ = some (.int .i64 t) ∧ W.cell? ⟨w.heap.size + 1, 1, none⟩ = some (.slice b (lim n).length c2) ∧ W.cell? ⟨w.heap.size + 1, 2, none⟩ = some (.int .i64 y)) from
    fun W hW => ⟨(p1.below hW).cell 0, (p1.below hW).cell 1, (p1.below hW).cell 2, (p2.below hW).cell 0, (p2.below hW).cell 1, (p2.below hW).cell 2⟩)
  have ST := Lib.hid (show ∀ W u v z, Below W0.heap.size W0 W → (fun W : World => W.cell? ⟨w.heap.size, 0, none⟩ = some (.int .i64 s) ∧ W.cell? ⟨w.heap.size, 1, none⟩ = some (.slice a (lim m).length c1) ∧ W.cell? ⟨w.heap.size, 2, none⟩ = some (.int .i64 x) ∧ W.cell? ⟨w.heap.size + 1, 0, none⟩ = some (.int .i64 t) ∧ W.cell? ⟨w.heap.size + 1, 1, none⟩ = some (.slice b (lim n).length c2) ∧ W.cell? ⟨w.heap.size + 1, 2, none⟩ = some (.int .i64 y)) (((W.setCell ⟨w.heap.size + 1 + 1, 0, none⟩ u).setCell ⟨w.heap.size + 1 + 1, 1, none⟩ v).setCell ⟨w.heap.size + 1 + 1, 2, none⟩ z) from fun W u v z hW => by
    have h1 := (((p1.below hW).far (p := ⟨w.heap.size + 1 + 1, 0, none⟩) (by simp <;> omega) u).far (p := ⟨w.heap.size + 1 + 1, 1, none⟩) (by simp <;> omega) v).far (p := ⟨w.heap.size + 1 + 1, 2, none⟩) (by simp <;> omega) z
    have h2 := (((p2.below hW).far (p := ⟨w.heap.size + 1 + 1, 0, none⟩) (by simp <;> omega) u).far (p := ⟨w.heap.size + 1 + 1, 1, none⟩) (by simp <;> omega) v).far (p := ⟨w.heap.size + 1 + 1, 2, none⟩) (by simp <;> omega) z
    exact ⟨h1.cell 0, h1.cell 1, h1.cell 2, h2.cell 0, h2.cell 1, h2.cell 2⟩)
  have SR := Lib.hid (show ∀ W, Below W0.heap.size W0 W → _ from fun W hW => (p5.below hW).tri6)
  have hT : Below W0.heap.size W0 W0 := Below.refl _ _
  have hT' : Below W0.heap.size W0 W0.drew := hT.drew
  have IX := Lib.hid (show ∀ W, Below W0.heap.size W0 W → Ints W B a (lim m) ∧ Ints W C b (lim n) ∧ B ≤ W.heap.size ∧ C ≤ W.heap.size from fun W hW => ⟨hx.below ((p3.mono hB).trans (hW.mono (by omega))), hy.below ((p3.mono hC).trans (hW.mono (by omega))), by have := hW.size; omega, by have := hW.size; omega⟩)
  obtain ⟨j, hj⟩ : ∃ j : Int, j = x + y := ⟨_, rfl⟩
  have hwr : IntKind.i64.wrap (x + y) = j := by rw [hj, IntKind.wrap_i64]; omega
  have hwr2 : wrap64 (x + y) = j := by rw [hj]; unfold wrap64; omega
  unfold mulW
  rw [← hj]
  obtain ⟨z, hz⟩ : ∃ z : Int, z = s * (m : Int) * (t * (n : Int)) := ⟨_, rfl⟩
  have hzl : (lim z.natAbs).length ≤ 800 := by
    rw [hz, Int.natAbs_mul, hs.abs, ht.abs]
    have := lim_mul_len m n
    omega
  have HG := Lib.hid (show ∀ W, Below W0.heap.size W0 W → Calls Tryz.prog 89 #[.agg #[.int .i64 s, .slice a (lim m).length c1], .agg #[.int .i64 t, .slice b (lim n).length c2]] W fun e w' => ∃ a c, e = .returned (.agg #[.int .i64 z.sign, .slice a (lim z.natAbs).length c]) ∧ (lim z.natAbs).length ≤ c ∧ Own w' W0.heap.size a (lim z.natAbs) ∧ Below W0.heap.size W0 w' from
    fun W hW => by
      have := iWTimes s t a b m n c1 c2 W B C (IX.out W hW).2.2.1 (IX.out W hW).2.2.2 (IX.out W hW).1 (IX.out W hW).2.1 hs ht (by omega) (by omega)
      rw [← hz] at this
      exact this.mono fun e w' ⟨a, c, he, hc, ho, hb⟩ => ⟨a, c, he, hc, ho.mono hW.size, hW.trans (hb.mono hW.size)⟩)
  rw [← hz]
  obtain ⟨⟨r1, r2, r3⟩, hr⟩ : ∃ r, r = redZ z j := ⟨_, rfl⟩
  have HM := Lib.hid (show ∀ (a : Option Addr) (c : Nat) W, Own W W0.heap.size a (lim z.natAbs) → Below W0.heap.size W0 W → Calls Tryz.prog 67 #[.agg #[.int .i64 z.sign, .slice a (lim z.natAbs).length c], .int .i64 j] W fun e w' => ∃ a c, e = .returned (.agg #[.int .i64 r1, .slice a r2.length c, .int .i64 r3]) ∧ r2.length ≤ c ∧ Own w' W0.heap.size a r2 ∧ Below W0.heap.size W0 w' from
    fun a c W ho hW => by
      have := iReduced z.sign a z.natAbs c j W W.heap.size (Nat.le_refl _) ho.ints (Sg.of z) (by omega) (by omega) (by omega) (HTB.out W hW)
      change Calls _ _ _ _ (RetYR (redZ z j) W) at this
      rw [← hr] at this
      exact this.mono fun e w' ⟨a, c, he, hc, ho, hb⟩ => ⟨a, c, he, hc, ho.mono hW.size, hW.trans (hb.mono hW.size)⟩)
  rw [← hr]
  obtain ⟨zs, hzs⟩ : ∃ r, r = z.sign := ⟨_, rfl⟩
  obtain ⟨zn, hzn⟩ : ∃ r, r = z.natAbs := ⟨_, rfl⟩
  rw [← hzs, ← hzn] at HG HM
  clear p1 p2 p3 p4 p5 hx hy hW0 hB hC hl hl' hs ht hz hzl hzs hzn hr hj x1 x2 y1 y2 IX
  go_enter Tryz.func61, Tryz.ntmps61
  go_wp2_with fail
  rw [HW0.out]
  go_region_held3 (fun W => W.cell? ⟨w.heap.size, 0, none⟩ = some (.int .i64 s) ∧ W.cell? ⟨w.heap.size, 1, none⟩ = some (.slice a (lim m).length c1) ∧ W.cell? ⟨w.heap.size, 2, none⟩ = some (.int .i64 x) ∧ W.cell? ⟨w.heap.size + 1, 0, none⟩ = some (.int .i64 t) ∧ W.cell? ⟨w.heap.size + 1, 1, none⟩ = some (.slice b (lim n).length c2) ∧ W.cell? ⟨w.heap.size + 1, 2, none⟩ = some (.int .i64 y))
    (first | exact SS.out _ (by assumption) | exact ST.out _ _ _ _ (by assumption))
    (first
    | (go_at_call 89; refine (HG.out _ (by assumption)).mono ?_; rintro e w1 ⟨a1, d1, rfl, hd1, ho1, hb1⟩)
    | (go_at_call 67; refine (HM.out _ _ _ (by assumption) (by assumption)).mono ?_; rintro e w2 ⟨a', c', rfl, hc', ho', hb⟩; obtain ⟨q1, q2, q3, q4, q5, q6⟩ := SR.out _ hb))
  all_goals
    go_wp2_with fail
    refine bodyPost_ret (v := .agg #[.int .i64 r1, .slice a' r2.length c', .int .i64 r3]) (by simp [results, Tryz.results61, go_sem, *]) rfl ?_
    exact retYR_end (g := w.heap.size + 1 + 1) (r := (r1, r2, r3)) P3.out P4.out (by assumption) (by omega) (by omega) _ _ _ (by assumption) (by assumption)

set_option maxRecDepth 100000 in
set_option maxHeartbeats 4000000 in
theorem sMul3 (s : Int) (a : Option Addr) (m c1 : Nat) (x : Int) (t : Int) (b : Option Addr) (n c2 : Nat) (y : Int) (w : World) (B C : Nat) (hB : B ≤ w.heap.size) (hC : C ≤ w.heap.size) (hx : Ints w B a (lim m)) (hy : Ints w C b (lim n)) (hs : Sg s m) (ht : Sg t n) (hl : (lim m).length ≤ 400) (hl' : (lim n).length ≤ 400) (x1 : -30000 ≤ x) (x2 : x ≤ 30000) (y1 : -30000 ≤ y) (y2 : y ≤ 30000) :
    Calls Tryz.prog 73 #[.agg #[.int .i64 s, .slice a (lim m).length c1, .int .i64 x], .agg #[.int .i64 t, .slice b (lim n).length c2, .int .i64 y]] w (RetYR (mulW (s * (m : Int)) x (t * (n : Int)) y) w) := by
  obtain ⟨W0, hW0⟩ : ∃ W0 : World, ((w.alloc (.cells #[.int .i64 s, .slice a (lim m).length c1, .int .i64 x] 62)).alloc (.cells #[.int .i64 t, .slice b (lim n).length c2, .int .i64 y] 62)).alloc (.cells #[.int .i64 0, .slice none 0 0, .int .i64 0] 62) = W0 := ⟨_, rfl⟩
  obtain ⟨p1, p2, p5, p3, p4⟩ := three_boxT w 62 62 62 #[.int .i64 s, .slice a (lim m).length c1, .int .i64 x] #[.int .i64 t, .slice b (lim n).length c2, .int .i64 y] #[.int .i64 0, .slice none 0 0, .int .i64 0]
  rw [hW0] at p1 p2 p3 p4 p5
  have HW0 := Lib.hid hW0
  have P3 := Lib.hid p3
  have P4 := Lib.hid p4
  have SS := Lib.hid (show ∀ W, Below W0.heap.size W0 W → (W.cell? ⟨w.heap.size, 0, none⟩ = some (.int .i64 s) ∧ W.cell? ⟨w.heap.size, 1, none⟩ = some (.slice a (lim m).length c1) ∧ W.cell? ⟨w.heap.size, 2, none⟩ = some (.int .i64 x) ∧ W.cell? ⟨w.heap.size + 1, 0, none⟩ = some (.int .i64 t) ∧ W.cell? ⟨w.heap.size + 1, 1, none⟩ = some (.slice b (lim n).length c2) ∧ W.cell? ⟨w.heap.size + 1, 2, none⟩ = some (.int .i64 y)) from
    fun W hW => ⟨(p1.below hW).cell 0, (p1.below hW).cell 1, (p1.below hW).cell 2, (p2.below hW).cell 0, (p2.below hW).cell 1, (p2.below hW).cell 2⟩)
  have ST := Lib.hid (show ∀ W u v z, Below W0.heap.size W0 W → (fun W : World => W.cell? ⟨w.heap.size, 0, none⟩ = some (.int .i64 s) ∧ W.cell? ⟨w.heap.size, 1, none⟩ = some (.slice a (lim m).length c1) ∧ W.cell? ⟨w.heap.size, 2, none⟩ = some (.int .i64 x) ∧ W.cell? ⟨w.heap.size + 1, 0, none⟩ = some (.int .i64 t) ∧ W.cell? ⟨w.heap.size + 1, 1, none⟩ = some (.slice b (lim n).length c2) ∧ W.cell? ⟨w.heap.size + 1, 2, none⟩ = some (.int .i64 y)) (((W.setCell ⟨w.heap.size + 1 + 1, 0, none⟩ u).setCell ⟨w.heap.size + 1 + 1, 1, none⟩ v).setCell ⟨w.heap.size + 1 + 1, 2, none⟩ z) from fun W u v z hW => by
    have h1 := (((p1.below hW).far (p := ⟨w.heap.size + 1 + 1, 0, none⟩) (by simp <;> omega) u).far (p := ⟨w.heap.size + 1 + 1, 1, none⟩) (by simp <;> omega) v).far (p := ⟨w.heap.size + 1 + 1, 2, none⟩) (by simp <;> omega) z
    have h2 := (((p2.below hW).far (p := ⟨w.heap.size + 1 + 1, 0, none⟩) (by simp <;> omega) u).far (p := ⟨w.heap.size + 1 + 1, 1, none⟩) (by simp <;> omega) v).far (p := ⟨w.heap.size + 1 + 1, 2, none⟩) (by simp <;> omega) z
    exact ⟨h1.cell 0, h1.cell 1, h1.cell 2, h2.cell 0, h2.cell 1, h2.cell 2⟩)
  have SR := Lib.hid (show ∀ W, Below W0.heap.size W0 W → _ from fun W hW => (p5.below hW).tri6)
  have hT : Below W0.heap.size W0 W0 := Below.refl _ _
  have hT' : Below W0.heap.size W0 W0.drew := hT.drew
  have IX := Lib.hid (show ∀ W, Below W0.heap.size W0 W → Ints W B a (lim m) ∧ Ints W C b (lim n) ∧ B ≤ W.heap.size ∧ C ≤ W.heap.size from fun W hW => ⟨hx.below ((p3.mono hB).trans (hW.mono (by omega))), hy.below ((p3.mono hC).trans (hW.mono (by omega))), by have := hW.size; omega, by have := hW.size; omega⟩)
  obtain ⟨j, hj⟩ : ∃ j : Int, j = x + y := ⟨_, rfl⟩
  have hwr : IntKind.i64.wrap (x + y) = j := by rw [hj, IntKind.wrap_i64]; omega
  have hwr2 : wrap64 (x + y) = j := by rw [hj]; unfold wrap64; omega
  unfold mulW
  rw [← hj]
  obtain ⟨z, hz⟩ : ∃ z : Int, z = s * (m : Int) * (t * (n : Int)) := ⟨_, rfl⟩
  have hzl : (lim z.natAbs).length ≤ 800 := by
    rw [hz, Int.natAbs_mul, hs.abs, ht.abs]
    have := lim_mul_len m n
    omega
  have HG := Lib.hid (show ∀ W, Below W0.heap.size W0 W → Calls Tryz.prog 82 #[.agg #[.int .i64 s, .slice a (lim m).length c1], .agg #[.int .i64 t, .slice b (lim n).length c2]] W fun e w' => ∃ a c, e = .returned (.agg #[.int .i64 z.sign, .slice a (lim z.natAbs).length c]) ∧ (lim z.natAbs).length ≤ c ∧ Own w' W0.heap.size a (lim z.natAbs) ∧ Below W0.heap.size W0 w' from
    fun W hW => by
      have := sMul s t a b m n c1 c2 W B C (IX.out W hW).2.2.1 (IX.out W hW).2.2.2 (IX.out W hW).1 (IX.out W hW).2.1 hs ht (by omega) (by omega)
      rw [← hz] at this
      exact this.mono fun e w' ⟨a, c, he, hc, ho, hb⟩ => ⟨a, c, he, hc, ho.mono hW.size, hW.trans (hb.mono hW.size)⟩)
  rw [← hz]
  obtain ⟨⟨r1, r2, r3⟩, hr⟩ : ∃ r, r = redZ z j := ⟨_, rfl⟩
  have HM := Lib.hid (show ∀ (a : Option Addr) (c : Nat) W, Own W W0.heap.size a (lim z.natAbs) → Below W0.heap.size W0 W → Calls Tryz.prog 86 #[.agg #[.int .i64 z.sign, .slice a (lim z.natAbs).length c], .int .i64 j] W fun e w' => ∃ a c, e = .returned (.agg #[.int .i64 r1, .slice a r2.length c, .int .i64 r3]) ∧ r2.length ≤ c ∧ Own w' W0.heap.size a r2 ∧ Below W0.heap.size W0 w' from
    fun a c W ho hW => by
      have := sMake3 z.sign a z.natAbs c j W W.heap.size (Nat.le_refl _) ho.ints (Sg.of z) (by omega) (by omega) (by omega)
      change Calls _ _ _ _ (RetYR (redZ z j) W) at this
      rw [← hr] at this
      exact this.mono fun e w' ⟨a, c, he, hc, ho, hb⟩ => ⟨a, c, he, hc, ho.mono hW.size, hW.trans (hb.mono hW.size)⟩)
  rw [← hr]
  obtain ⟨zs, hzs⟩ : ∃ r, r = z.sign := ⟨_, rfl⟩
  obtain ⟨zn, hzn⟩ : ∃ r, r = z.natAbs := ⟨_, rfl⟩
  rw [← hzs, ← hzn] at HG HM
  clear p1 p2 p3 p4 p5 hx hy hW0 hB hC hl hl' hs ht hz hzl hzs hzn hr hj x1 x2 y1 y2 IX
  go_enter Tryz.func73, Tryz.ntmps73
  go_wp2_with fail
  rw [HW0.out]
  go_region_held3 (fun W => W.cell? ⟨w.heap.size, 0, none⟩ = some (.int .i64 s) ∧ W.cell? ⟨w.heap.size, 1, none⟩ = some (.slice a (lim m).length c1) ∧ W.cell? ⟨w.heap.size, 2, none⟩ = some (.int .i64 x) ∧ W.cell? ⟨w.heap.size + 1, 0, none⟩ = some (.int .i64 t) ∧ W.cell? ⟨w.heap.size + 1, 1, none⟩ = some (.slice b (lim n).length c2) ∧ W.cell? ⟨w.heap.size + 1, 2, none⟩ = some (.int .i64 y))
    (first | exact SS.out _ (by assumption) | exact ST.out _ _ _ _ (by assumption))
    (first
    | (go_at_call 82; refine (HG.out _ (by assumption)).mono ?_; rintro e w1 ⟨a1, d1, rfl, hd1, ho1, hb1⟩)
    | (go_at_call 86; refine (HM.out _ _ _ (by assumption) (by assumption)).mono ?_; rintro e w2 ⟨a', c', rfl, hc', ho', hb⟩; obtain ⟨q1, q2, q3, q4, q5, q6⟩ := SR.out _ hb))
  all_goals
    go_wp2_with fail
    refine bodyPost_ret (v := .agg #[.int .i64 r1, .slice a' r2.length c', .int .i64 r3]) (by simp [results, Tryz.results73, go_sem, *]) rfl ?_
    exact retYR_end (g := w.heap.size + 1 + 1) (r := (r1, r2, r3)) P3.out P4.out (by assumption) (by omega) (by omega) _ _ _ (by assumption) (by assumption)

set_option maxRecDepth 100000 in
set_option maxHeartbeats 8000000 in
theorem iPlusD (s : Int) (a : Option Addr) (m c1 : Nat) (x : Int) (t : Int) (b : Option Addr) (n c2 : Nat) (y : Int) (w : World) (B C : Nat) (hB : B ≤ w.heap.size) (hC : C ≤ w.heap.size) (hx : Ints w B a (lim m)) (hy : Ints w C b (lim n)) (hs : Sg s m) (ht : Sg t n) (hl : (lim m).length ≤ 400) (hl' : (lim n).length ≤ 400) (x1 : -30000 ≤ x) (x2 : x ≤ 30000) (y1 : -30000 ≤ y) (y2 : y ≤ 30000) (hTab : Tab w) :
    Calls Tryz.prog 63 #[.agg #[.int .i64 s, .slice a (lim m).length c1, .int .i64 x], .agg #[.int .i64 t, .slice b (lim n).length c2, .int .i64 y]] w (RetYR (addW (s * (m : Int)) x (t * (n : Int)) y) w) := by
  obtain ⟨W0, hW0⟩ : ∃ W0 : World, ((w.alloc (.cells #[.int .i64 s, .slice a (lim m).length c1, .int .i64 x] 62)).alloc (.cells #[.int .i64 t, .slice b (lim n).length c2, .int .i64 y] 62)).alloc (.cells #[.int .i64 0, .slice none 0 0, .int .i64 0] 62) = W0 := ⟨_, rfl⟩
  obtain ⟨p1, p2, p5, p3, p4⟩ := three_boxT w 62 62 62 #[.int .i64 s, .slice a (lim m).length c1, .int .i64 x] #[.int .i64 t, .slice b (lim n).length c2, .int .i64 y] #[.int .i64 0, .slice none 0 0, .int .i64 0]
  rw [hW0] at p1 p2 p3 p4 p5
  have HW0 := Lib.hid hW0
  have P3 := Lib.hid p3
  have P4 := Lib.hid p4
  have HTB := Lib.hid (show ∀ W, Below W0.heap.size W0 W → Tab W from fun W hW => (hTab.below p3).below hW)
  clear hTab
  have SS := Lib.hid (show ∀ W, Below W0.heap.size W0 W → (W.cell? ⟨w.heap.size, 0, none⟩ = some (.int .i64 s) ∧ W.cell? ⟨w.heap.size, 1, none⟩ = some (.slice a (lim m).length c1) ∧ W.cell? ⟨w.heap.size, 2, none⟩ = some (.int .i64 x) ∧ W.cell? ⟨w.heap.size + 1, 0, none⟩ = some (.int .i64 t) ∧ W.cell? ⟨w.heap.size + 1, 1, none⟩ = some (.slice b (lim n).length c2) ∧ W.cell? ⟨w.heap.size + 1, 2, none⟩ = some (.int .i64 y)) from
    fun W hW => ⟨(p1.below hW).cell 0, (p1.below hW).cell 1, (p1.below hW).cell 2, (p2.below hW).cell 0, (p2.below hW).cell 1, (p2.below hW).cell 2⟩)
  have ST := Lib.hid (show ∀ W u v z, Below W0.heap.size W0 W → (fun W : World => W.cell? ⟨w.heap.size, 0, none⟩ = some (.int .i64 s) ∧ W.cell? ⟨w.heap.size, 1, none⟩ = some (.slice a (lim m).length c1) ∧ W.cell? ⟨w.heap.size, 2, none⟩ = some (.int .i64 x) ∧ W.cell? ⟨w.heap.size + 1, 0, none⟩ = some (.int .i64 t) ∧ W.cell? ⟨w.heap.size + 1, 1, none⟩ = some (.slice b (lim n).length c2) ∧ W.cell? ⟨w.heap.size + 1, 2, none⟩ = some (.int .i64 y)) (((W.setCell ⟨w.heap.size + 1 + 1, 0, none⟩ u).setCell ⟨w.heap.size + 1 + 1, 1, none⟩ v).setCell ⟨w.heap.size + 1 + 1, 2, none⟩ z) from fun W u v z hW => by
    have h1 := (((p1.below hW).far (p := ⟨w.heap.size + 1 + 1, 0, none⟩) (by simp <;> omega) u).far (p := ⟨w.heap.size + 1 + 1, 1, none⟩) (by simp <;> omega) v).far (p := ⟨w.heap.size + 1 + 1, 2, none⟩) (by simp <;> omega) z
    have h2 := (((p2.below hW).far (p := ⟨w.heap.size + 1 + 1, 0, none⟩) (by simp <;> omega) u).far (p := ⟨w.heap.size + 1 + 1, 1, none⟩) (by simp <;> omega) v).far (p := ⟨w.heap.size + 1 + 1, 2, none⟩) (by simp <;> omega) z
    exact ⟨h1.cell 0, h1.cell 1, h1.cell 2, h2.cell 0, h2.cell 1, h2.cell 2⟩)
  have SR := Lib.hid (show ∀ W, Below W0.heap.size W0 W → _ from fun W hW => (p5.below hW).tri6)
  have hT : Below W0.heap.size W0 W0 := Below.refl _ _
  have hT' : Below W0.heap.size W0 W0.drew := hT.drew
  have IX := Lib.hid (show ∀ W, Below W0.heap.size W0 W → Ints W B a (lim m) ∧ Ints W C b (lim n) ∧ B ≤ W.heap.size ∧ C ≤ W.heap.size from fun W hW => ⟨hx.below ((p3.mono hB).trans (hW.mono (by omega))), hy.below ((p3.mono hC).trans (hW.mono (by omega))), by have := hW.size; omega, by have := hW.size; omega⟩)
  obtain ⟨p, hp⟩ : ∃ p : Int, p = min x y := ⟨_, rfl⟩
  have hmin : min x y = p := hp.symm
  obtain ⟨kx, hkx⟩ : ∃ k : Int, k = x - p := ⟨_, rfl⟩
  obtain ⟨ky, hky⟩ : ∃ k : Int, k = y - p := ⟨_, rfl⟩
  have hkb : 0 ≤ kx ∧ kx ≤ 60000 ∧ 0 ≤ ky ∧ ky ≤ 60000 ∧ -30000 ≤ p ∧ p ≤ 30000 := by omega
  have hw1 : IntKind.i64.wrap (x - p) = kx := by rw [hkx, IntKind.wrap_i64]; omega
  have hw2 : IntKind.i64.wrap (y - p) = ky := by rw [hky, IntKind.wrap_i64]; omega
  have hadd : addW (s * (m : Int)) x (t * (n : Int)) y = redZ (shZ (s * (m : Int)) kx + shZ (t * (n : Int)) ky) p := by
    unfold addW
    rw [hmin, ← hkx, ← hky]
  obtain ⟨z1, hz1⟩ : ∃ z : Int, z = shZ (s * (m : Int)) kx := ⟨_, rfl⟩
  obtain ⟨z2, hz2⟩ : ∃ z : Int, z = shZ (t * (n : Int)) ky := ⟨_, rfl⟩
  obtain ⟨z, hz⟩ : ∃ z : Int, z = z1 + z2 := ⟨_, rfl⟩
  have hz1l : (lim z1.natAbs).length ≤ 2901 := by
    have := shZ_up_len (z := s * (m : Int)) (k := kx) hkb.1
    rw [← hz1, hs.abs] at this
    omega
  have hz2l : (lim z2.natAbs).length ≤ 2901 := by
    have := shZ_up_len (z := t * (n : Int)) (k := ky) hkb.2.2.1
    rw [← hz2, ht.abs] at this
    omega
  have hzl : (lim z.natAbs).length ≤ 2902 := by
    have h1 := lim_le_of_le (Int.natAbs_add_le z1 z2)
    have h2 := lim_add_len z1.natAbs z2.natAbs
    rw [← hz] at h1
    omega
  have H1 := Lib.hid (show ∀ W, Below W0.heap.size W0 W → Calls Tryz.prog 90 #[.agg #[.int .i64 s, .slice a (lim m).length c1], .int .i64 kx] W fun e w' => ∃ a c, e = .returned (.agg #[.int .i64 z1.sign, .slice a (lim z1.natAbs).length c]) ∧ (lim z1.natAbs).length ≤ c ∧ Own2 w' W.heap.size w'.heap.size a (lim z1.natAbs) ∧ Below W.heap.size W w' ∧ Below W0.heap.size W0 w' from
    fun W hW => by
      have := iShZ s a m c1 kx W B (IX.out W hW).2.2.1 (IX.out W hW).1 hs (by omega) (by omega) (by omega) (HTB.out W hW)
      rw [← hz1] at this
      exact this.mono fun e w' ⟨a, c, he, hc, ho, hb⟩ => ⟨a, c, he, hc, Own2.of ho, hb, hW.trans (hb.mono hW.size)⟩)
  have H2 := Lib.hid (show ∀ W, Below W0.heap.size W0 W → Calls Tryz.prog 90 #[.agg #[.int .i64 t, .slice b (lim n).length c2], .int .i64 ky] W fun e w' => ∃ a c, e = .returned (.agg #[.int .i64 z2.sign, .slice a (lim z2.natAbs).length c]) ∧ (lim z2.natAbs).length ≤ c ∧ Own2 w' W.heap.size w'.heap.size a (lim z2.natAbs) ∧ Below W.heap.size W w' ∧ Below W0.heap.size W0 w' from
    fun W hW => by
      have := iShZ t b n c2 ky W C (IX.out W hW).2.2.2 (IX.out W hW).2.1 ht (by omega) (by omega) (by omega) (HTB.out W hW)
      rw [← hz2] at this
      exact this.mono fun e w' ⟨a, c, he, hc, ho, hb⟩ => ⟨a, c, he, hc, Own2.of ho, hb, hW.trans (hb.mono hW.size)⟩)
  have H3 := Lib.hid (show ∀ (b1 : Option Addr) (d1 : Nat) (b2 : Option Addr) (d2 : Nat) W, Below W0.heap.size W0 W → Ints W W.heap.size b1 (lim z1.natAbs) → Ints W W.heap.size b2 (lim z2.natAbs) → Calls Tryz.prog 91 #[.agg #[.int .i64 z1.sign, .slice b1 (lim z1.natAbs).length d1], .agg #[.int .i64 z2.sign, .slice b2 (lim z2.natAbs).length d2]] W fun e w' => ∃ a c, e = .returned (.agg #[.int .i64 z.sign, .slice a (lim z.natAbs).length c]) ∧ (lim z.natAbs).length ≤ c ∧ Own w' W.heap.size a (lim z.natAbs) ∧ Below W.heap.size W w' ∧ Below W0.heap.size W0 w' from
    fun b1 d1 b2 d2 W hW i1 i2 => by
      have := iPlus z1.sign z2.sign b1 b2 z1.natAbs z2.natAbs d1 d2 W _ _ (Nat.le_refl _) (Nat.le_refl _) i1 i2 (Sg.of z1) (Sg.of z2) (by omega) (by omega)
      rw [Sg.mul, Sg.mul, ← hz] at this
      exact this.mono fun e w' ⟨a, c, he, hc, ho, hb⟩ => ⟨a, c, he, hc, ho, hb, hW.trans (hb.mono hW.size)⟩)
  rw [hadd, ← hz1, ← hz2, ← hz]
  obtain ⟨⟨r1, r2, r3⟩, hr⟩ : ∃ r, r = redZ z p := ⟨_, rfl⟩
  have HM := Lib.hid (show ∀ (a : Option Addr) (c : Nat) W, Own W W0.heap.size a (lim z.natAbs) → Below W0.heap.size W0 W → Calls Tryz.prog 67 #[.agg #[.int .i64 z.sign, .slice a (lim z.natAbs).length c], .int .i64 p] W fun e w' => ∃ a c, e = .returned (.agg #[.int .i64 r1, .slice a r2.length c, .int .i64 r3]) ∧ r2.length ≤ c ∧ Own w' W0.heap.size a r2 ∧ Below W0.heap.size W0 w' from
    fun a c W ho hW => by
      have := iReduced z.sign a z.natAbs c p W W.heap.size (Nat.le_refl _) ho.ints (Sg.of z) (by omega) (by omega) (by omega) (HTB.out W hW)
      change Calls _ _ _ _ (RetYR (redZ z p) W) at this
      rw [← hr] at this
      exact this.mono fun e w' ⟨a, c, he, hc, ho, hb⟩ => ⟨a, c, he, hc, ho.mono hW.size, hW.trans (hb.mono hW.size)⟩)
  rw [← hr]
  obtain ⟨z1s, hz1s⟩ : ∃ r, r = z1.sign := ⟨_, rfl⟩
  obtain ⟨z1n, hz1n⟩ : ∃ r, r = z1.natAbs := ⟨_, rfl⟩
  obtain ⟨z2s, hz2s⟩ : ∃ r, r = z2.sign := ⟨_, rfl⟩
  obtain ⟨z2n, hz2n⟩ : ∃ r, r = z2.natAbs := ⟨_, rfl⟩
  obtain ⟨zs, hzs⟩ : ∃ r, r = z.sign := ⟨_, rfl⟩
  obtain ⟨zn, hzn⟩ : ∃ r, r = z.natAbs := ⟨_, rfl⟩
  rw [← hz1s, ← hz1n] at H1 H3
  rw [← hz2s, ← hz2n] at H2 H3
  rw [← hzs, ← hzn] at H3 HM
  obtain ⟨k1, k2, k3, k4, k5, k6⟩ := SS.out _ hT
  clear p1 p2 p3 p4 p5 hx hy hW0 hB hC hl hl' hs ht hz hz1 hz2 hz1l hz2l hzl hzs hzn hz1s hz1n hz2s hz2n hr hadd hp hkx hky hkb x1 x2 y1 y2 IX
  go_enter Tryz.func63, Tryz.ntmps63
  go_wp2_with fail
  rw [HW0.out]
  go_cut [6] (fun p W => ∃ hi, Res W0 W p zs (lim zn) hi)
  case first => as_aux_lemma =>
    have hsz0 := hT.size
    clear k1 k2 k3 k4 k5 k6
    go_region_held3 (fun W => W.cell? ⟨w.heap.size, 0, none⟩ = some (.int .i64 s) ∧ W.cell? ⟨w.heap.size, 1, none⟩ = some (.slice a (lim m).length c1) ∧ W.cell? ⟨w.heap.size, 2, none⟩ = some (.int .i64 x) ∧ W.cell? ⟨w.heap.size + 1, 0, none⟩ = some (.int .i64 t) ∧ W.cell? ⟨w.heap.size + 1, 1, none⟩ = some (.slice b (lim n).length c2) ∧ W.cell? ⟨w.heap.size + 1, 2, none⟩ = some (.int .i64 y))
      (exact SS.out _ (by with_reducible first | assumption | exact below_alloc (by assumption) _ | exact below_allocd (by assumption) _ | exact below_set2 (by assumption) (by omega) _ _))
      (first
      | (go_at_call 90; with_reducible refine (H1.out _ (by with_reducible first | assumption | exact below_alloc (by assumption) _ | exact below_allocd (by assumption) _ | exact below_set2 (by assumption) (by omega) _ _)).mono ?_; rintro e v1 ⟨e1, f1, rfl, hc1, ho1, hbb1, hbz1⟩; have hsz1 := hbz1.size; have hsy1 := hbb1.size; (try simp at hsy1); have hk1 := fun g cs (h : BoxAt _ g 60 cs) => BoxAt.below h hbb1)
      | (go_at_call 90; with_reducible refine (H2.out _ (by with_reducible first | assumption | exact below_alloc (by assumption) _ | exact below_allocd (by assumption) _ | exact below_set2 (by assumption) (by omega) _ _)).mono ?_; rintro e v2 ⟨e2, f2, rfl, hc2, ho2, hbb2, hbz2⟩; have hsz2 := hbz2.size; have hsy2 := hbb2.size; (try simp at hsy2); have hk2 := fun g cs (h : BoxAt _ g 60 cs) => BoxAt.below h hbb2; have ho12 := Own2.below (by with_reducible first | exact ho1 | exact Own2.alloc ho1 _) hbb2 (by simp))
      | (go_at_call 91; with_reducible refine (H3.out _ _ _ _ _ (by with_reducible first | assumption | exact below_alloc (by assumption) _ | exact below_allocd (by assumption) _ | exact below_set2 (by assumption) (by omega) _ _) (by with_reducible first | exact (Own2.own ho12).ints | exact (Own2.own (Own2.alloc ho12 _)).ints) (by with_reducible first | exact (Own2.own ho2).ints | exact (Own2.own (Own2.alloc ho2 _)).ints)).mono ?_; rintro e v3 ⟨e3, f3, rfl, hc3, ho3, hbb3, hbz3⟩; have hsz3 := hbz3.size; have hsy3 := hbb3.size; (try simp at hsy3); (first | (with_reducible have hq := BoxAt.below (BoxAt.new v2 _ _) hbb3; obtain ⟨q1, q2, q3, q4⟩ := BoxAt.two hq) | (with_reducible have hq := BoxAt.below (hk2 _ _ (BoxAt.new v1 _ _)) hbb3; obtain ⟨q1, q2, q3, q4⟩ := BoxAt.two hq) | (with_reducible have hq := BoxAt.below (hk2 _ _ (hk1 _ _ (BoxAt.newd W0 _ _))) hbb3; obtain ⟨q1, q2, q3, q4⟩ := BoxAt.two hq) | skip)))
    all_goals
      go_wp2_with fail
      go_meet
      first
      | exact ⟨_, Res.mk1 hbz3 ho3 (by first | omega | (simp; omega) | simp) hc3 rfl⟩
      | exact ⟨_, Res.mk2 hq (by first | omega | (simp; done) | (simp; omega)) hbz3 ho3 (by first | omega | (simp; done) | (simp; omega)) hc3⟩
  case rest => as_aux_lemma =>
    obtain ⟨hi6, hres⟩ := hcut
    obtain ⟨g6, a6, c6, rfl, hg6, hh6, hx6, hc6, ho6⟩ := hres.ex
    obtain ⟨m1, m2, m3, m4⟩ := BoxAt.two hx6
    have HB6 := Lib.hid hres.bel
    have HO6 := Lib.hid (Own2.own ho6)
    clear hx6 hc6 ho6 hres k1 k2 k3 k4 k5 k6
    go_wp2_with fail
    refine (HM.out _ _ _ HO6.out HB6.out).mono ?_
    rintro e w2 ⟨a', c', rfl, hc', ho', hb⟩
    obtain ⟨q1, q2, q3, q4, q5, q6⟩ := SR.out _ hb
    have HC := Lib.hid hc'
    have HO := Lib.hid ho'
    clear hc' ho' m1 m2 m3 m4
    go_wp2_with fail
    refine bodyPost_ret (v := .agg #[.int .i64 r1, .slice a' r2.length c', .int .i64 r3]) (by simp [results, Tryz.results63, go_sem, *]) rfl ?_
    exact retYR_end (g := w.heap.size + 1 + 1) (r := (r1, r2, r3)) P3.out P4.out hb (by omega) (by omega) _ _ _ HO.out HC.out

set_option maxRecDepth 100000 in
set_option maxHeartbeats 8000000 in
theorem sAdd3 (s : Int) (a : Option Addr) (m c1 : Nat) (x : Int) (t : Int) (b : Option Addr) (n c2 : Nat) (y : Int) (w : World) (B C : Nat) (hB : B ≤ w.heap.size) (hC : C ≤ w.heap.size) (hx : Ints w B a (lim m)) (hy : Ints w C b (lim n)) (hs : Sg s m) (ht : Sg t n) (hl : (lim m).length ≤ 400) (hl' : (lim n).length ≤ 400) (x1 : -30000 ≤ x) (x2 : x ≤ 30000) (y1 : -30000 ≤ y) (y2 : y ≤ 30000) (hc1 : (lim m).length ≤ c1) (hc2 : (lim n).length ≤ c2) :
    Calls Tryz.prog 72 #[.agg #[.int .i64 s, .slice a (lim m).length c1, .int .i64 x], .agg #[.int .i64 t, .slice b (lim n).length c2, .int .i64 y]] w (RetYR (addW (s * (m : Int)) x (t * (n : Int)) y) w) := by
  obtain ⟨W0, hW0⟩ : ∃ W0 : World, ((w.alloc (.cells #[.int .i64 s, .slice a (lim m).length c1, .int .i64 x] 62)).alloc (.cells #[.int .i64 t, .slice b (lim n).length c2, .int .i64 y] 62)).alloc (.cells #[.int .i64 0, .slice none 0 0, .int .i64 0] 62) = W0 := ⟨_, rfl⟩
  obtain ⟨p1, p2, p5, p3, p4⟩ := three_boxT w 62 62 62 #[.int .i64 s, .slice a (lim m).length c1, .int .i64 x] #[.int .i64 t, .slice b (lim n).length c2, .int .i64 y] #[.int .i64 0, .slice none 0 0, .int .i64 0]
  rw [hW0] at p1 p2 p3 p4 p5
  have HW0 := Lib.hid hW0
  have P3 := Lib.hid p3
  have P4 := Lib.hid p4
  have SS := Lib.hid (show ∀ W, Below W0.heap.size W0 W → (W.cell? ⟨w.heap.size, 0, none⟩ = some (.int .i64 s) ∧ W.cell? ⟨w.heap.size, 1, none⟩ = some (.slice a (lim m).length c1) ∧ W.cell? ⟨w.heap.size, 2, none⟩ = some (.int .i64 x) ∧ W.cell? ⟨w.heap.size + 1, 0, none⟩ = some (.int .i64 t) ∧ W.cell? ⟨w.heap.size + 1, 1, none⟩ = some (.slice b (lim n).length c2) ∧ W.cell? ⟨w.heap.size + 1, 2, none⟩ = some (.int .i64 y)) from
    fun W hW => ⟨(p1.below hW).cell 0, (p1.below hW).cell 1, (p1.below hW).cell 2, (p2.below hW).cell 0, (p2.below hW).cell 1, (p2.below hW).cell 2⟩)
  have ST := Lib.hid (show ∀ W u v z, Below W0.heap.size W0 W → (fun W : World => W.cell? ⟨w.heap.size, 0, none⟩ = some (.int .i64 s) ∧ W.cell? ⟨w.heap.size, 1, none⟩ = some (.slice a (lim m).length c1) ∧ W.cell? ⟨w.heap.size, 2, none⟩ = some (.int .i64 x) ∧ W.cell? ⟨w.heap.size + 1, 0, none⟩ = some (.int .i64 t) ∧ W.cell? ⟨w.heap.size + 1, 1, none⟩ = some (.slice b (lim n).length c2) ∧ W.cell? ⟨w.heap.size + 1, 2, none⟩ = some (.int .i64 y)) (((W.setCell ⟨w.heap.size + 1 + 1, 0, none⟩ u).setCell ⟨w.heap.size + 1 + 1, 1, none⟩ v).setCell ⟨w.heap.size + 1 + 1, 2, none⟩ z) from fun W u v z hW => by
    have h1 := (((p1.below hW).far (p := ⟨w.heap.size + 1 + 1, 0, none⟩) (by simp <;> omega) u).far (p := ⟨w.heap.size + 1 + 1, 1, none⟩) (by simp <;> omega) v).far (p := ⟨w.heap.size + 1 + 1, 2, none⟩) (by simp <;> omega) z
    have h2 := (((p2.below hW).far (p := ⟨w.heap.size + 1 + 1, 0, none⟩) (by simp <;> omega) u).far (p := ⟨w.heap.size + 1 + 1, 1, none⟩) (by simp <;> omega) v).far (p := ⟨w.heap.size + 1 + 1, 2, none⟩) (by simp <;> omega) z
    exact ⟨h1.cell 0, h1.cell 1, h1.cell 2, h2.cell 0, h2.cell 1, h2.cell 2⟩)
  have SR := Lib.hid (show ∀ W, Below W0.heap.size W0 W → _ from fun W hW => (p5.below hW).tri6)
  have hT : Below W0.heap.size W0 W0 := Below.refl _ _
  have hT' : Below W0.heap.size W0 W0.drew := hT.drew
  have IX := Lib.hid (show ∀ W, Below W0.heap.size W0 W → Ints W B a (lim m) ∧ Ints W C b (lim n) ∧ B ≤ W.heap.size ∧ C ≤ W.heap.size from fun W hW => ⟨hx.below ((p3.mono hB).trans (hW.mono (by omega))), hy.below ((p3.mono hC).trans (hW.mono (by omega))), by have := hW.size; omega, by have := hW.size; omega⟩)
  obtain ⟨p, hp⟩ : ∃ p : Int, p = min x y := ⟨_, rfl⟩
  have hmin : min x y = p := hp.symm
  obtain ⟨kx, hkx⟩ : ∃ k : Int, k = x - p := ⟨_, rfl⟩
  obtain ⟨ky, hky⟩ : ∃ k : Int, k = y - p := ⟨_, rfl⟩
  have hkb : 0 ≤ kx ∧ kx ≤ 60000 ∧ 0 ≤ ky ∧ ky ≤ 60000 ∧ -30000 ≤ p ∧ p ≤ 30000 := by omega
  have hw1 : IntKind.i64.wrap (x - p) = kx := by rw [hkx, IntKind.wrap_i64]; omega
  have hw2 : IntKind.i64.wrap (y - p) = ky := by rw [hky, IntKind.wrap_i64]; omega
  have hadd : addW (s * (m : Int)) x (t * (n : Int)) y = redZ (shZ (s * (m : Int)) kx + shZ (t * (n : Int)) ky) p := by
    unfold addW
    rw [hmin, ← hkx, ← hky]
  obtain ⟨k1, k2, k3, k4, k5, k6⟩ := SS.out _ hT
  by_cases hs0 : s = 0
  · have e : addW (s * (m : Int)) x (t * (n : Int)) y = redS t n y := by
      rw [hadd, hs0, Int.zero_mul, shZ_zero, Int.zero_add, shZ_nn hkb.2.2.1, redZ_pow, redZ_eq ht]
      congr 1
      omega
    rw [e]
    obtain ⟨⟨r1, r2, r3⟩, hr⟩ : ∃ r, r = redS t n y := ⟨_, rfl⟩
    have HM := Lib.hid (show ∀ W, Below W0.heap.size W0 W → Calls Tryz.prog 86 #[.agg #[.int .i64 t, .slice b (lim n).length c2], .int .i64 y] W fun e w' => ∃ a c, e = .returned (.agg #[.int .i64 r1, .slice a r2.length c, .int .i64 r3]) ∧ r2.length ≤ c ∧ Own w' W0.heap.size a r2 ∧ Below W0.heap.size W0 w' from
      fun W hW => by
        have := sMake3 t b n c2 y W C (IX.out W hW).2.2.2 (IX.out W hW).2.1 ht (by omega) (by omega) (by omega)
        rw [← hr] at this
        exact this.mono fun e w' ⟨a, c, he, hc, ho, hb⟩ => ⟨a, c, he, hc, ho.mono hW.size, hW.trans (hb.mono hW.size)⟩)
    rw [← hr]
    subst hs0
    clear p1 p2 p3 p4 p5 hx hy hW0 hB hC hl hl' hs ht hr e hadd hp hkx hky hkb x1 x2 y1 y2 IX hc1 hc2 hw1 hw2 hmin
    go_enter Tryz.func72, Tryz.ntmps72
    go_wp2_with fail
    rw [HW0.out]
    refine (HM.out _ hT).mono ?_
    rintro e w2 ⟨a', c', rfl, hc', ho', hb⟩
    clear k1 k2 k3 k4 k5 k6
    obtain ⟨q1, q2, q3, q4, q5, q6⟩ := SR.out _ hb
    go_wp2_with fail
    refine bodyPost_ret (v := .agg #[.int .i64 r1, .slice a' r2.length c', .int .i64 r3]) (by simp [results, Tryz.results72, go_sem, *]) rfl ?_
    exact retYR_end (g := w.heap.size + 1 + 1) (r := (r1, r2, r3)) P3.out P4.out (by assumption) (by omega) (by omega) _ _ _ (by assumption) (by assumption)
  · have hsb : (s == 0) = false := by simpa using hs0
    by_cases ht0 : t = 0
    · have e : addW (s * (m : Int)) x (t * (n : Int)) y = redS s m x := by
        rw [hadd, ht0, Int.zero_mul, shZ_zero, Int.add_zero, shZ_nn hkb.1, redZ_pow, redZ_eq hs]
        congr 1
        omega
      rw [e]
      obtain ⟨⟨r1, r2, r3⟩, hr⟩ : ∃ r, r = redS s m x := ⟨_, rfl⟩
      have HM := Lib.hid (show ∀ W, Below W0.heap.size W0 W → Calls Tryz.prog 86 #[.agg #[.int .i64 s, .slice a (lim m).length c1], .int .i64 x] W fun e w' => ∃ a c, e = .returned (.agg #[.int .i64 r1, .slice a r2.length c, .int .i64 r3]) ∧ r2.length ≤ c ∧ Own w' W0.heap.size a r2 ∧ Below W0.heap.size W0 w' from
        fun W hW => by
          have := sMake3 s a m c1 x W B (IX.out W hW).2.2.1 (IX.out W hW).1 hs (by omega) (by omega) (by omega)
          rw [← hr] at this
          exact this.mono fun e w' ⟨a, c, he, hc, ho, hb⟩ => ⟨a, c, he, hc, ho.mono hW.size, hW.trans (hb.mono hW.size)⟩)
      rw [← hr]
      subst ht0
      clear p1 p2 p3 p4 p5 hx hy hW0 hB hC hl hl' hs ht hr e hadd hp hkx hky hkb x1 x2 y1 y2 IX hc1 hc2 hw1 hw2 hmin hs0
      go_enter Tryz.func72, Tryz.ntmps72
      go_wp2_with fail
      rw [HW0.out]
      refine (HM.out _ hT).mono ?_
      rintro e w2 ⟨a', c', rfl, hc', ho', hb⟩
      clear k1 k2 k3 k4 k5 k6
      obtain ⟨q1, q2, q3, q4, q5, q6⟩ := SR.out _ hb
      go_wp2_with fail
      refine bodyPost_ret (v := .agg #[.int .i64 r1, .slice a' r2.length c', .int .i64 r3]) (by simp [results, Tryz.results72, go_sem, *]) rfl ?_
      exact retYR_end (g := w.heap.size + 1 + 1) (r := (r1, r2, r3)) P3.out P4.out (by assumption) (by omega) (by omega) _ _ _ (by assumption) (by assumption)
    · have htb : (t == 0) = false := by simpa using ht0
      obtain ⟨z1, hz1⟩ : ∃ z : Int, z = shZ (s * (m : Int)) kx := ⟨_, rfl⟩
      obtain ⟨z2, hz2⟩ : ∃ z : Int, z = shZ (t * (n : Int)) ky := ⟨_, rfl⟩
      obtain ⟨z, hz⟩ : ∃ z : Int, z = z1 + z2 := ⟨_, rfl⟩
      have hz1l : (lim z1.natAbs).length ≤ 2901 := by
        have := shZ_up_len (z := s * (m : Int)) (k := kx) hkb.1
        rw [← hz1, hs.abs] at this
        omega
      have hz2l : (lim z2.natAbs).length ≤ 2901 := by
        have := shZ_up_len (z := t * (n : Int)) (k := ky) hkb.2.2.1
        rw [← hz2, ht.abs] at this
        omega
      have hzl : (lim z.natAbs).length ≤ 2902 := by
        have h1 := lim_le_of_le (Int.natAbs_add_le z1 z2)
        have h2 := lim_add_len z1.natAbs z2.natAbs
        rw [← hz] at h1
        omega
      obtain ⟨K1, hK1⟩ := Int.eq_ofNat_of_zero_le hkb.1
      obtain ⟨K2, hK2⟩ := Int.eq_ofNat_of_zero_le hkb.2.2.1
      subst hK1
      subst hK2
      have H1 := Lib.hid (show ∀ W, Below W0.heap.size W0 W → Calls Tryz.prog 79 #[.agg #[.int .i64 s, .slice a (lim m).length c1], .int .i64 (K1 : Int)] W fun e w' => ∃ a c, e = .returned (.agg #[.int .i64 z1.sign, .slice a (lim z1.natAbs).length c]) ∧ (lim z1.natAbs).length ≤ c ∧ Own w' W0.heap.size a (lim z1.natAbs) ∧ Below W0.heap.size W0 w' from
        fun W hW => by
          have := sLeft s a m c1 K1 W B (IX.out W hW).2.2.1 (IX.out W hW).1 (by omega) (by omega)
          obtain ⟨e1, e2⟩ := sgnOf_eq (s := s) (n := m * 2 ^ K1) (z := z1) (by have := hs.three; omega) (by rw [hz1, shZ_up]; simp [Int.mul_assoc])
          rw [e1, e2] at this
          exact this.mono fun e w' ⟨a, c, he, hc, ho, hb⟩ => ⟨a, c, he, hc, ho.mono hW.size, hW.trans (hb.mono hW.size)⟩)
      have H2 := Lib.hid (show ∀ W, Below W0.heap.size W0 W → Calls Tryz.prog 79 #[.agg #[.int .i64 t, .slice b (lim n).length c2], .int .i64 (K2 : Int)] W fun e w' => ∃ a c, e = .returned (.agg #[.int .i64 z2.sign, .slice a (lim z2.natAbs).length c]) ∧ (lim z2.natAbs).length ≤ c ∧ Own w' W0.heap.size a (lim z2.natAbs) ∧ Below W.heap.size W w' ∧ Below W0.heap.size W0 w' from
        fun W hW => by
          have := sLeft t b n c2 K2 W C (IX.out W hW).2.2.2 (IX.out W hW).2.1 (by omega) (by omega)
          obtain ⟨e1, e2⟩ := sgnOf_eq (s := t) (n := n * 2 ^ K2) (z := z2) (by have := ht.three; omega) (by rw [hz2, shZ_up]; simp [Int.mul_assoc])
          rw [e1, e2] at this
          exact this.mono fun e w' ⟨a, c, he, hc, ho, hb⟩ => ⟨a, c, he, hc, ho.mono hW.size, hb, hW.trans (hb.mono hW.size)⟩)
      have H3 := Lib.hid (show ∀ (b1 : Option Addr) (d1 : Nat) (b2 : Option Addr) (d2 : Nat) W, Below W0.heap.size W0 W → Own W W0.heap.size b1 (lim z1.natAbs) → Own W W0.heap.size b2 (lim z2.natAbs) → (lim z1.natAbs).length ≤ d1 → (lim z2.natAbs).length ≤ d2 → Calls Tryz.prog 83 #[.agg #[.int .i64 z1.sign, .slice b1 (lim z1.natAbs).length d1], .agg #[.int .i64 z2.sign, .slice b2 (lim z2.natAbs).length d2]] W fun e w' => ∃ a c, e = .returned (.agg #[.int .i64 z.sign, .slice a (lim z.natAbs).length c]) ∧ (lim z.natAbs).length ≤ c ∧ Own w' W0.heap.size a (lim z.natAbs) ∧ Below W0.heap.size W0 w' from
        fun b1 d1 b2 d2 W hW i1 i2 l1 l2 => by
          have := sAdd z1.sign z2.sign b1 b2 z1.natAbs z2.natAbs d1 d2 W _ _ (Nat.le_refl _) (Nat.le_refl _) i1.ints i2.ints (Sg.of z1) (Sg.of z2) (by omega) (by omega) l1 l2
          rw [Sg.mul, Sg.mul, ← hz] at this
          exact this.mono fun e w' ⟨a, c, he, hc, ho, hb⟩ => ⟨a, c, he, hc, ho.mono hW.size, hW.trans (hb.mono hW.size)⟩)
      rw [hadd, ← hz1, ← hz2, ← hz]
      obtain ⟨⟨r1, r2, r3⟩, hr⟩ : ∃ r, r = redZ z p := ⟨_, rfl⟩
      have HM := Lib.hid (show ∀ (a : Option Addr) (c : Nat) W, Own W W0.heap.size a (lim z.natAbs) → Below W0.heap.size W0 W → Calls Tryz.prog 86 #[.agg #[.int .i64 z.sign, .slice a (lim z.natAbs).length c], .int .i64 p] W fun e w' => ∃ a c, e = .returned (.agg #[.int .i64 r1, .slice a r2.length c, .int .i64 r3]) ∧ r2.length ≤ c ∧ Own w' W0.heap.size a r2 ∧ Below W0.heap.size W0 w' from
        fun a c W ho hW => by
          have := sMake3 z.sign a z.natAbs c p W W.heap.size (Nat.le_refl _) ho.ints (Sg.of z) (by omega) (by omega) (by omega)
          change Calls _ _ _ _ (RetYR (redZ z p) W) at this
          rw [← hr] at this
          exact this.mono fun e w' ⟨a, c, he, hc, ho, hb⟩ => ⟨a, c, he, hc, ho.mono hW.size, hW.trans (hb.mono hW.size)⟩)
      rw [← hr]
      obtain ⟨z1s, hz1s⟩ : ∃ r, r = z1.sign := ⟨_, rfl⟩
      obtain ⟨z1n, hz1n⟩ : ∃ r, r = z1.natAbs := ⟨_, rfl⟩
      obtain ⟨z2s, hz2s⟩ : ∃ r, r = z2.sign := ⟨_, rfl⟩
      obtain ⟨z2n, hz2n⟩ : ∃ r, r = z2.natAbs := ⟨_, rfl⟩
      obtain ⟨zs, hzs⟩ : ∃ r, r = z.sign := ⟨_, rfl⟩
      obtain ⟨zn, hzn⟩ : ∃ r, r = z.natAbs := ⟨_, rfl⟩
      rw [← hz1s, ← hz1n] at H1 H3
      rw [← hz2s, ← hz2n] at H2 H3
      rw [← hzs, ← hzn] at H3 HM
      have HBE := Lib.hid (show ∀ W w' b xs, Below W0.heap.size W0 W → Own W W0.heap.size b xs → Below W.heap.size W w' → Own w' W0.heap.size b xs from fun W w' b xs _ ho hb => ho.below hb)
      clear p1 p2 p3 p4 p5 hx hy hW0 hB hC hl hl' hs ht hz hz1 hz2 hz1l hz2l hzl hzs hzn hz1s hz1n hz2s hz2n hr hadd hp hkx hky hkb x1 x2 y1 y2 IX hc1 hc2 hs0 ht0
      go_enter Tryz.func72, Tryz.ntmps72
      go_wp2_with fail
      rw [HW0.out]
      clear k1 k2 k3 k4 k5 k6
      go_region_held3 (fun W => W.cell? ⟨w.heap.size, 0, none⟩ = some (.int .i64 s) ∧ W.cell? ⟨w.heap.size, 1, none⟩ = some (.slice a (lim m).length c1) ∧ W.cell? ⟨w.heap.size, 2, none⟩ = some (.int .i64 x) ∧ W.cell? ⟨w.heap.size + 1, 0, none⟩ = some (.int .i64 t) ∧ W.cell? ⟨w.heap.size + 1, 1, none⟩ = some (.slice b (lim n).length c2) ∧ W.cell? ⟨w.heap.size + 1, 2, none⟩ = some (.int .i64 y))
        (first | exact SS.out _ (by assumption) | exact ST.out _ _ _ _ (by assumption))
        (first
        | (go_at_call 79; with_reducible refine (H1.out _ (by assumption)).mono ?_; rintro e w1 ⟨a1, d1, rfl, hd1, ho1, hb1⟩)
        | (go_at_call 79; with_reducible refine (H2.out _ (by assumption)).mono ?_; rintro e w2 ⟨a2, d2, rfl, hd2, ho2, hbb2, hb2⟩; have ho1b := Own.below ho1 hbb2)
        | (go_at_call 83; with_reducible refine (H3.out _ _ _ _ _ hb2 ho1b ho2 hd1 hd2).mono ?_; rintro e w3 ⟨a3, d3, rfl, hd3, ho3, hb3⟩)
        | (go_at_call 86; with_reducible refine (HM.out _ _ _ ho3 hb3).mono ?_; rintro e w4 ⟨a', c', rfl, hc', ho', hb⟩; obtain ⟨q1, q2, q3, q4, q5, q6⟩ := SR.out _ hb))
      all_goals
        go_wp2_with fail
        refine bodyPost_ret (v := .agg #[.int .i64 r1, .slice a' r2.length c', .int .i64 r3]) (by simp [results, Tryz.results72, go_sem, *]) rfl ?_
        exact retYR_end (g := w.heap.size + 1 + 1) (r := (r1, r2, r3)) P3.out P4.out (by assumption) (by omega) (by omega) _ _ _ (by assumption) (by assumption)

set_option maxRecDepth 100000 in
set_option maxHeartbeats 4000000 in
theorem iMinusD (s : Int) (a : Option Addr) (m c1 : Nat) (x : Int) (t : Int) (b : Option Addr) (n c2 : Nat) (y : Int) (w : World) (B C : Nat) (hB : B ≤ w.heap.size) (hC : C ≤ w.heap.size) (hx : Ints w B a (lim m)) (hy : Ints w C b (lim n)) (hs : Sg s m) (ht : Sg t n) (hl : (lim m).length ≤ 400) (hl' : (lim n).length ≤ 400) (x1 : -30000 ≤ x) (x2 : x ≤ 30000) (y1 : -30000 ≤ y) (y2 : y ≤ 30000) (hTab : Tab w) :
    Calls Tryz.prog 70 #[.agg #[.int .i64 s, .slice a (lim m).length c1, .int .i64 x], .agg #[.int .i64 t, .slice b (lim n).length c2, .int .i64 y]] w (RetYR (addW (s * (m : Int)) x (-(t * (n : Int))) y) w) := by
  obtain ⟨W0, hW0⟩ : ∃ W0 : World, ((w.alloc (.cells #[.int .i64 s, .slice a (lim m).length c1, .int .i64 x] 62)).alloc (.cells #[.int .i64 t, .slice b (lim n).length c2, .int .i64 y] 62)).alloc (.cells #[.int .i64 0, .slice none 0 0, .int .i64 0] 62) = W0 := ⟨_, rfl⟩
  obtain ⟨p1, p2, p5, p3, p4⟩ := three_boxT w 62 62 62 #[.int .i64 s, .slice a (lim m).length c1, .int .i64 x] #[.int .i64 t, .slice b (lim n).length c2, .int .i64 y] #[.int .i64 0, .slice none 0 0, .int .i64 0]
  rw [hW0] at p1 p2 p3 p4 p5
  have HW0 := Lib.hid hW0
  have P3 := Lib.hid p3
  have P4 := Lib.hid p4
  have HTB := Lib.hid (show ∀ W, Below W0.heap.size W0 W → Tab W from fun W hW => (hTab.below p3).below hW)
  clear hTab
  have SS := Lib.hid (show ∀ W, Below W0.heap.size W0 W → (W.cell? ⟨w.heap.size, 0, none⟩ = some (.int .i64 s) ∧ W.cell? ⟨w.heap.size, 1, none⟩ = some (.slice a (lim m).length c1) ∧ W.cell? ⟨w.heap.size, 2, none⟩ = some (.int .i64 x) ∧ W.cell? ⟨w.heap.size + 1, 0, none⟩ = some (.int .i64 t) ∧ W.cell? ⟨w.heap.size + 1, 1, none⟩ = some (.slice b (lim n).length c2) ∧ W.cell? ⟨w.heap.size + 1, 2, none⟩ = some (.int .i64 y)) from
    fun W hW => ⟨(p1.below hW).cell 0, (p1.below hW).cell 1, (p1.below hW).cell 2, (p2.below hW).cell 0, (p2.below hW).cell 1, (p2.below hW).cell 2⟩)
  have ST := Lib.hid (show ∀ W u v z, Below W0.heap.size W0 W → (fun W : World => W.cell? ⟨w.heap.size, 0, none⟩ = some (.int .i64 s) ∧ W.cell? ⟨w.heap.size, 1, none⟩ = some (.slice a (lim m).length c1) ∧ W.cell? ⟨w.heap.size, 2, none⟩ = some (.int .i64 x) ∧ W.cell? ⟨w.heap.size + 1, 0, none⟩ = some (.int .i64 t) ∧ W.cell? ⟨w.heap.size + 1, 1, none⟩ = some (.slice b (lim n).length c2) ∧ W.cell? ⟨w.heap.size + 1, 2, none⟩ = some (.int .i64 y)) (((W.setCell ⟨w.heap.size + 1 + 1, 0, none⟩ u).setCell ⟨w.heap.size + 1 + 1, 1, none⟩ v).setCell ⟨w.heap.size + 1 + 1, 2, none⟩ z) from fun W u v z hW => by
    have h1 := (((p1.below hW).far (p := ⟨w.heap.size + 1 + 1, 0, none⟩) (by simp <;> omega) u).far (p := ⟨w.heap.size + 1 + 1, 1, none⟩) (by simp <;> omega) v).far (p := ⟨w.heap.size + 1 + 1, 2, none⟩) (by simp <;> omega) z
    have h2 := (((p2.below hW).far (p := ⟨w.heap.size + 1 + 1, 0, none⟩) (by simp <;> omega) u).far (p := ⟨w.heap.size + 1 + 1, 1, none⟩) (by simp <;> omega) v).far (p := ⟨w.heap.size + 1 + 1, 2, none⟩) (by simp <;> omega) z
    exact ⟨h1.cell 0, h1.cell 1, h1.cell 2, h2.cell 0, h2.cell 1, h2.cell 2⟩)
  have SR := Lib.hid (show ∀ W, Below W0.heap.size W0 W → _ from fun W hW => (p5.below hW).tri6)
  have hT : Below W0.heap.size W0 W0 := Below.refl _ _
  have hT' : Below W0.heap.size W0 W0.drew := hT.drew
  have IX := Lib.hid (show ∀ W, Below W0.heap.size W0 W → Ints W B a (lim m) ∧ Ints W C b (lim n) ∧ B ≤ W.heap.size ∧ C ≤ W.heap.size from fun W hW => ⟨hx.below ((p3.mono hB).trans (hW.mono (by omega))), hy.below ((p3.mono hC).trans (hW.mono (by omega))), by have := hW.size; omega, by have := hW.size; omega⟩)
  obtain ⟨v, hv⟩ : ∃ v : Int, v = -(t * (n : Int)) := ⟨_, rfl⟩
  have hvl : (lim v.natAbs).length ≤ 400 := by rw [hv, Int.natAbs_neg, ht.abs]; exact hl'
  have HG := Lib.hid (show ∀ W, Below W0.heap.size W0 W → Calls Tryz.prog 102 #[.agg #[.int .i64 t, .slice b (lim n).length c2, .int .i64 y]] W fun e w' => ∃ a c, e = .returned (.agg #[.int .i64 v.sign, .slice a (lim v.natAbs).length c, .int .i64 y]) ∧ (lim v.natAbs).length ≤ c ∧ Own w' W0.heap.size a (lim v.natAbs) ∧ Below W0.heap.size W0 w' from
    fun W hW => by
      have := iNegD t b n c2 y W C (IX.out W hW).2.2.2 (IX.out W hW).2.1 ht (by omega)
      rw [← hv] at this
      exact this.mono fun e w' ⟨a, c, he, hc, ho, hb⟩ => ⟨a, c, he, hc, ho.mono hW.size, hW.trans (hb.mono hW.size)⟩)
  rw [← hv]
  obtain ⟨⟨r1, r2, r3⟩, hr⟩ : ∃ r, r = addW (s * (m : Int)) x v y := ⟨_, rfl⟩
  have HM := Lib.hid (show ∀ (b' : Option Addr) (c' : Nat) W, (lim v.natAbs).length ≤ c' → Own W W0.heap.size b' (lim v.natAbs) → Below W0.heap.size W0 W → Calls Tryz.prog 63 #[.agg #[.int .i64 s, .slice a (lim m).length c1, .int .i64 x], .agg #[.int .i64 v.sign, .slice b' (lim v.natAbs).length c', .int .i64 y]] W fun e w' => ∃ a c, e = .returned (.agg #[.int .i64 r1, .slice a r2.length c, .int .i64 r3]) ∧ r2.length ≤ c ∧ Own w' W0.heap.size a r2 ∧ Below W0.heap.size W0 w' from
    fun b' c' W hcc ho hW => by
      have := iPlusD s a m c1 x v.sign b' v.natAbs c' y W B W.heap.size (IX.out W hW).2.2.1 (Nat.le_refl _) (IX.out W hW).1 ho.ints hs (Sg.of v) hl hvl x1 x2 y1 y2 (HTB.out W hW)
      rw [Sg.mul, ← hr] at this
      exact this.mono fun e w' ⟨a, c, he, hc, ho, hb⟩ => ⟨a, c, he, hc, ho.mono hW.size, hW.trans (hb.mono hW.size)⟩)
  rw [← hr]
  obtain ⟨vs, hvs⟩ : ∃ r, r = v.sign := ⟨_, rfl⟩
  obtain ⟨vn, hvn⟩ : ∃ r, r = v.natAbs := ⟨_, rfl⟩
  rw [← hvs, ← hvn] at HG HM
  clear p1 p2 p3 p4 p5 hx hy hW0 hB hC hl hl' hs ht hv hvl hvs hvn hr x1 x2 y1 y2 IX
  go_enter Tryz.func70, Tryz.ntmps70
  go_wp2_with fail
  rw [HW0.out]
  go_region_held3 (fun W => W.cell? ⟨w.heap.size, 0, none⟩ = some (.int .i64 s) ∧ W.cell? ⟨w.heap.size, 1, none⟩ = some (.slice a (lim m).length c1) ∧ W.cell? ⟨w.heap.size, 2, none⟩ = some (.int .i64 x) ∧ W.cell? ⟨w.heap.size + 1, 0, none⟩ = some (.int .i64 t) ∧ W.cell? ⟨w.heap.size + 1, 1, none⟩ = some (.slice b (lim n).length c2) ∧ W.cell? ⟨w.heap.size + 1, 2, none⟩ = some (.int .i64 y))
    (first | exact SS.out _ (by assumption) | exact ST.out _ _ _ _ (by assumption))
    (first
    | (go_at_call 102; refine (HG.out _ (by assumption)).mono ?_; rintro e w1 ⟨a1, d1, rfl, hd1, ho1, hb1⟩)
    | (go_at_call 63; refine (HM.out _ _ _ (by assumption) (by assumption) (by assumption)).mono ?_; rintro e w2 ⟨a', c', rfl, hc', ho', hb⟩; obtain ⟨q1, q2, q3, q4, q5, q6⟩ := SR.out _ hb))
  all_goals
    go_wp2_with fail
    refine bodyPost_ret (v := .agg #[.int .i64 r1, .slice a' r2.length c', .int .i64 r3]) (by simp [results, Tryz.results70, go_sem, *]) rfl ?_
    exact retYR_end (g := w.heap.size + 1 + 1) (r := (r1, r2, r3)) P3.out P4.out (by assumption) (by omega) (by omega) _ _ _ (by assumption) (by assumption)

theorem fieldW (s x : Int) (a : Option Addr) (n c : Nat) (w : World) : (Instr.field 62 (.agg #[.int .i64 s, .slice a n c, .int .i64 x]) 0).run Tryz.prog w = .ok (.agg #[.int .i64 s, .slice a n c]) w := by kernel_rfl
theorem fieldS (s : Int) (a : Option Addr) (n c : Nat) (w : World) : (Instr.field 60 (.agg #[.int .i64 s, .slice a n c]) 0).run Tryz.prog w = .ok (.int .i64 s) w := by kernel_rfl
def subW (z1 x z2 y : Int) : Int × List Int × Int := addW z1 x (-z2) y
noncomputable def bothY (s : Int) (xs : List Int) (x t : Int) (ys : List Int) (y : Int) : Int := @ite _ (IsDy s xs x ∧ IsDy t ys y) (Classical.propDecidable _) 0 1
theorem bothY_yes {s x t y : Int} {xs ys : List Int} (h : IsDy s xs x) (k : IsDy t ys y) : bothY s xs x t ys y = 0 := by unfold bothY; rw [if_pos ⟨h, k⟩]
theorem bothY_no {s x t y : Int} {xs ys : List Int} (h : ¬ (IsDy s xs x ∧ IsDy t ys y)) : bothY s xs x t ys y = 1 := by unfold bothY; rw [if_neg h]
noncomputable def binY (f : Int → Int → Int → Int → Int × List Int × Int) (s : Int) (xs : List Int) (x t : Int) (ys : List Int) (y : Int) : Int × List Int × Int × Int := @ite _ (IsDy s xs x ∧ IsDy t ys y) (Classical.propDecidable _) (fitY (f (wv s xs) x (wv t ys) y)) (0, [], 0, 1)
theorem binY_yes {f : Int → Int → Int → Int → Int × List Int × Int} {s x t y : Int} {m n : Nat} (h : IsDy s (lim m) x) (k : IsDy t (lim n) y) : binY f s (lim m) x t (lim n) y = fitY (f (s * (m : Int)) x (t * (n : Int)) y) := by unfold binY; rw [if_pos ⟨h, k⟩, wv_lim, wv_lim]
theorem binY_no {f : Int → Int → Int → Int → Int × List Int × Int} {s x t y : Int} {xs ys : List Int} (h : ¬ (IsDy s xs x ∧ IsDy t ys y)) : binY f s xs x t ys y = (0, [], 0, 1) := by unfold binY; rw [if_neg h]
theorem binY_len (f : Int → Int → Int → Int → Int × List Int × Int) (s : Int) (xs : List Int) (x t : Int) (ys : List Int) (y : Int) : (binY f s xs x t ys y).2.1.length ≤ 200 := by
  unfold binY
  split
  · exact fitY_len _
  · simp
noncomputable def cmpY (f : Int → Int → Int → Int → Int × List Int × Int) (s : Int) (xs : List Int) (x t : Int) (ys : List Int) (y : Int) : Int × Int := @ite _ (IsDy s xs x ∧ IsDy t ys y) (Classical.propDecidable _) ((f (wv s xs) x (wv t ys) y).1, 0) (0, 1)
theorem cmpY_yes {f : Int → Int → Int → Int → Int × List Int × Int} {s x t y : Int} {m n : Nat} (h : IsDy s (lim m) x) (k : IsDy t (lim n) y) : cmpY f s (lim m) x t (lim n) y = ((f (s * (m : Int)) x (t * (n : Int)) y).1, 0) := by unfold cmpY; rw [if_pos ⟨h, k⟩, wv_lim, wv_lim]
theorem cmpY_no {f : Int → Int → Int → Int → Int × List Int × Int} {s x t y : Int} {xs ys : List Int} (h : ¬ (IsDy s xs x ∧ IsDy t ys y)) : cmpY f s xs x t ys y = (0, 1) := by unfold cmpY; rw [if_neg h]
theorem addZ_len {z1 z2 x y : Int} (h1 : (lim z1.natAbs).length ≤ 200) (h2 : (lim z2.natAbs).length ≤ 200) (hx1 : -5000 ≤ x) (hx2 : x ≤ 5000) (hy1 : -5000 ≤ y) (hy2 : y ≤ 5000) : (addW z1 x z2 y).2.1.length ≤ 3000 := by
  unfold addW
  refine Nat.le_trans (redS_len _ _ _) ?_
  have e1 := shZ_up_len (z := z1) (k := x - min x y) (by omega)
  have e2 := shZ_up_len (z := z2) (k := y - min x y) (by omega)
  have e3 := lim_le_of_le (Int.natAbs_add_le (shZ z1 (x - min x y)) (shZ z2 (y - min x y)))
  have e4 := lim_add_len (shZ z1 (x - min x y)).natAbs (shZ z2 (y - min x y)).natAbs
  omega
theorem addW_len {s t x y : Int} {m n : Nat} (hm : (lim m).length ≤ 200) (hn : (lim n).length ≤ 200) (hs : Sg s m) (ht : Sg t n) (hx1 : -5000 ≤ x) (hx2 : x ≤ 5000) (hy1 : -5000 ≤ y) (hy2 : y ≤ 5000) : (addW (s * (m : Int)) x (t * (n : Int)) y).2.1.length ≤ 3000 := addZ_len (by rw [hs.abs]; exact hm) (by rw [ht.abs]; exact hn) hx1 hx2 hy1 hy2
theorem subW_len {s t x y : Int} {m n : Nat} (hm : (lim m).length ≤ 200) (hn : (lim n).length ≤ 200) (hs : Sg s m) (ht : Sg t n) (hx1 : -5000 ≤ x) (hx2 : x ≤ 5000) (hy1 : -5000 ≤ y) (hy2 : y ≤ 5000) : (subW (s * (m : Int)) x (t * (n : Int)) y).2.1.length ≤ 3000 := addZ_len (by rw [hs.abs]; exact hm) (by rw [Int.natAbs_neg, ht.abs]; exact hn) hx1 hx2 hy1 hy2
theorem mulW_len {s t x y : Int} {m n : Nat} (hm : (lim m).length ≤ 200) (hn : (lim n).length ≤ 200) (hs : Sg s m) (ht : Sg t n) (hx1 : -5000 ≤ x) (hx2 : x ≤ 5000) (hy1 : -5000 ≤ y) (hy2 : y ≤ 5000) : (mulW (s * (m : Int)) x (t * (n : Int)) y).2.1.length ≤ 3000 := by
  unfold mulW
  refine Nat.le_trans (redS_len _ _ _) ?_
  rw [Int.natAbs_mul, hs.abs, ht.abs]
  have := lim_mul_len m n
  omega

set_option maxRecDepth 100000 in
set_option maxHeartbeats 2000000 in
theorem iCompareD (s : Int) (a : Option Addr) (m c1 : Nat) (x : Int) (t : Int) (b : Option Addr) (n c2 : Nat) (y : Int) (w : World) (B C : Nat) (hB : B ≤ w.heap.size) (hC : C ≤ w.heap.size) (hx : Ints w B a (lim m)) (hy : Ints w C b (lim n)) (hs : Sg s m) (ht : Sg t n) (hl : (lim m).length ≤ 400) (hl' : (lim n).length ≤ 400) (x1 : -30000 ≤ x) (x2 : x ≤ 30000) (y1 : -30000 ≤ y) (y2 : y ≤ 30000) (hTab : Tab w) :
    Calls Tryz.prog 69 #[.agg #[.int .i64 s, .slice a (lim m).length c1, .int .i64 x], .agg #[.int .i64 t, .slice b (lim n).length c2, .int .i64 y]] w (RetB (.int .i64 (subW (s * (m : Int)) x (t * (n : Int)) y).1) w) := by
  obtain ⟨W0, hW0⟩ : ∃ W0 : World, (w.alloc (.cells #[.int .i64 s, .slice a (lim m).length c1, .int .i64 x] 62)).alloc (.cells #[.int .i64 t, .slice b (lim n).length c2, .int .i64 y] 62) = W0 := ⟨_, rfl⟩
  obtain ⟨p1, p2, p3, p4⟩ := two_boxT w 62 62 #[.int .i64 s, .slice a (lim m).length c1, .int .i64 x] #[.int .i64 t, .slice b (lim n).length c2, .int .i64 y]
  rw [hW0] at p1 p2 p3 p4
  have HW0 := Lib.hid hW0
  have P3 := Lib.hid p3
  have P4 := Lib.hid p4
  have SS := Lib.hid (show ∀ W, Below W0.heap.size W0 W → (W.cell? ⟨w.heap.size, 0, none⟩ = some (.int .i64 s) ∧ W.cell? ⟨w.heap.size, 1, none⟩ = some (.slice a (lim m).length c1) ∧ W.cell? ⟨w.heap.size, 2, none⟩ = some (.int .i64 x) ∧ W.cell? ⟨w.heap.size + 1, 0, none⟩ = some (.int .i64 t) ∧ W.cell? ⟨w.heap.size + 1, 1, none⟩ = some (.slice b (lim n).length c2) ∧ W.cell? ⟨w.heap.size + 1, 2, none⟩ = some (.int .i64 y)) from
    fun W hW => ⟨(p1.below hW).cell 0, (p1.below hW).cell 1, (p1.below hW).cell 2, (p2.below hW).cell 0, (p2.below hW).cell 1, (p2.below hW).cell 2⟩)
  have HEND := Lib.hid (show ∀ v W, Below W0.heap.size W0 W → RetB v w (.returned v) W from fun v W hW => ⟨rfl, P3.out.trans (hW.mono (by omega))⟩)
  have hT : Below W0.heap.size W0 W0 := Below.refl _ _
  obtain ⟨⟨u1, u2, u3⟩, hu⟩ : ∃ r, r = subW (s * (m : Int)) x (t * (n : Int)) y := ⟨_, rfl⟩
  have HP := Lib.hid (show Calls Tryz.prog 70 #[.agg #[.int .i64 s, .slice a (lim m).length c1, .int .i64 x], .agg #[.int .i64 t, .slice b (lim n).length c2, .int .i64 y]] W0 fun e w' => ∃ a c, e = .returned (.agg #[.int .i64 u1, .slice a u2.length c, .int .i64 u3]) ∧ u2.length ≤ c ∧ Own w' W0.heap.size a u2 ∧ Below W0.heap.size W0 w' from by
    have := iMinusD s a m c1 x t b n c2 y W0 B C (by omega) (by omega) (hx.below (p3.mono hB)) (hy.below (p3.mono hC)) hs ht hl hl' x1 x2 y1 y2 (hTab.below p3)
    change Calls _ _ _ _ (RetYR (subW (s * (m : Int)) x (t * (n : Int)) y) W0) at this
    rw [← hu] at this
    exact this.mono fun e w' ⟨a, c, he, hc, ho, hb⟩ => ⟨a, c, he, hc, ho, hb⟩)
  rw [← hu]
  obtain ⟨k1, k2, k3, k4, k5, k6⟩ := SS.out _ hT
  clear p1 p2 p3 p4 hx hy hW0 hB hC hl hl' hu hs ht x1 x2 y1 y2 hTab
  go_enter Tryz.func69, Tryz.ntmps69
  go_wp2_with fail
  rw [HW0.out]
  refine HP.out.mono ?_
  rintro e w3 ⟨a3, c3, rfl, hc3, ho3, hb3⟩
  have hf1 := fieldW u1 u3 a3 u2.length c3 w3
  have hf2 := fieldS u1 a3 u2.length c3 w3
  go_wp2_with fail
  go_ret
  exact HEND.out _ _ hb3

end Go.Proofs.YtgppagmejhgmaaaGreatDoor
