/-
  Contracts: products of whole numbers of the program. Conditions: the limbs can be read.
-/
import Derived.Test.YtfjfmlofhifkmaaDoorUa
namespace Go.Proofs.YtfjfmlofhifkmaaDoor
set_option linter.unusedVariables false
open Go Go.RowKit

theorem sg_mul {s t : Int} {m n : Nat} (hs : Sg s m) (ht : Sg t n) : sgnOf (s * t) (m * n) = ((s * m) * (t * n)).sign ∧ m * n = ((s * m) * (t * n)).natAbs := by
  refine sgnOf_eq ?_ ?_
  · unfold Sg at hs ht
    rcases hs with ⟨rfl, rfl⟩ | ⟨hs, rfl | rfl⟩ <;> rcases ht with ⟨rfl, rfl⟩ | ⟨ht, rfl | rfl⟩ <;> simp
  · rw [Int.natCast_mul]
    grind
theorem len_mul {s t : Int} {m n : Nat} (hs : Sg s m) (ht : Sg t n) (hm : (lim m).length ≤ 200) (hn : (lim n).length ≤ 200) : (lim ((s * (m : Int)) * (t * n)).natAbs).length ≤ 1048576 := by
  rw [← (sg_mul hs ht).2]
  have := lim_mul_len m n
  omega

set_option maxHeartbeats 2000000 in
theorem iWTimes (s t : Int) (a b : Option Addr) (m n c1 c2 : Nat) (w : World) (B C : Nat) (hB : B ≤ w.heap.size) (hC : C ≤ w.heap.size) (hx : Ints w B a (lim m)) (hy : Ints w C b (lim n)) (hs : Sg s m) (ht : Sg t n)
    (hl : (lim m).length ≤ 4095) (hl' : (lim n).length ≤ 4095) :
    Calls Tryd.prog 62 #[.agg #[.int .i64 s, .slice a (lim m).length c1], .agg #[.int .i64 t, .slice b (lim n).length c2]] w (RetZ ((s * m) * (t * n)) w) := by

  obtain ⟨W0, hW0⟩ : ∃ W0 : World, ((w.alloc (.cells #[.int .i64 s, .slice a (lim m).length c1] 26)).alloc (.cells #[.int .i64 t, .slice b (lim n).length c2] 26)).alloc (.cells #[.int .i64 0, .slice none 0 0] 26) = W0 := ⟨_, rfl⟩
  obtain ⟨p1, p2, p5, p3, p4⟩ := three_box w 26 #[.int .i64 s, .slice a (lim m).length c1] #[.int .i64 t, .slice b (lim n).length c2] #[.int .i64 0, .slice none 0 0]
  rw [hW0] at p1 p2 p3 p4 p5
  have HW0 := Lib.hid hW0
  have P3 := Lib.hid p3
  have P4 := Lib.hid p4
  have SS := Lib.hid (show ∀ W, Below W0.heap.size W0 W → (W.cell? ⟨w.heap.size, 0, none⟩ = some (.int .i64 s) ∧ W.cell? ⟨w.heap.size, 1, none⟩ = some (.slice a (lim m).length c1) ∧ W.cell? ⟨w.heap.size + 1, 0, none⟩ = some (.int .i64 t) ∧ W.cell? ⟨w.heap.size + 1, 1, none⟩ = some (.slice b (lim n).length c2)) from
    fun W hW => ⟨(p1.below hW).cell 0, (p1.below hW).cell 1, (p2.below hW).cell 0, (p2.below hW).cell 1⟩)
  have SR := Lib.hid (show ∀ W, Below W0.heap.size W0 W → (W.cell? ⟨w.heap.size + 1 + 1, 0, none⟩ = some (.int .i64 0) ∧ W.cell? ⟨w.heap.size + 1 + 1, 1, none⟩ = some (.slice none 0 0) ∧ W.frozen? ⟨w.heap.size + 1 + 1, 0, none⟩ = false ∧ W.frozen? ⟨w.heap.size + 1 + 1, 1, none⟩ = false) from
    fun W hW => (p5.below hW).two)
  have ST := Lib.hid (show ∀ W u v, Below W0.heap.size W0 W → (fun W : World => W.cell? ⟨w.heap.size, 0, none⟩ = some (.int .i64 s) ∧ W.cell? ⟨w.heap.size, 1, none⟩ = some (.slice a (lim m).length c1) ∧ W.cell? ⟨w.heap.size + 1, 0, none⟩ = some (.int .i64 t) ∧ W.cell? ⟨w.heap.size + 1, 1, none⟩ = some (.slice b (lim n).length c2)) ((W.setCell ⟨w.heap.size + 1 + 1, 0, none⟩ u).setCell ⟨w.heap.size + 1 + 1, 1, none⟩ v) from fun W u v hW =>
    ⟨(((p1.below hW).far (by simp <;> omega) _).far (by simp <;> omega) _).cell 0, (((p1.below hW).far (by simp <;> omega) _).far (by simp <;> omega) _).cell 1, (((p2.below hW).far (by simp <;> omega) _).far (by simp <;> omega) _).cell 0, (((p2.below hW).far (by simp <;> omega) _).far (by simp <;> omega) _).cell 1⟩)
  have HS := Lib.hid (show ∀ (s : Int) (a : Option Addr) (n c : Nat) W, Below W0.heap.size W0 W → Calls Tryd.prog 57 #[.agg #[.int .i64 s, .slice a n c]] W fun e w' => e = .returned (.slice a n c) ∧ Below W0.heap.size W0 w' from
    fun s a n c W hW => (iSize s a n c W).mono fun e w' ⟨he, hb⟩ => ⟨he, hW.trans (hb.mono hW.size)⟩)
  have HG := Lib.hid (show ∀ (s : Int) (k : Nat) (a : Option Addr) (c : Nat) W, (lim k).length ≤ c → Own W W0.heap.size a (lim k) → Below W0.heap.size W0 W → Calls Tryd.prog 56 #[.int .i64 s, .slice a (lim k).length c] W fun e w' => ∃ a c, e = .returned (.agg #[.int .i64 (sgnOf s k), .slice a (lim k).length c]) ∧ (lim k).length ≤ c ∧ Own w' W0.heap.size a (lim k) ∧ Below W0.heap.size W0 w' from
    fun s k a c W h1 h2 hW => (iSigned s k a c W W0.heap.size h1 h2).mono fun e w' ⟨a, c, he, hc, ho, hb⟩ => ⟨a, c, he, hc, ho, hW.trans (hb.mono hW.size)⟩)
  have hT : Below W0.heap.size W0 W0 := Below.refl _ _
  have hT' : Below W0.heap.size W0 W0.drew := hT.drew
  have IX := Lib.hid (show ∀ W, Below W0.heap.size W0 W → Ints W B a (lim m) ∧ Ints W C b (lim n) ∧ B ≤ W.heap.size ∧ C ≤ W.heap.size from fun W hW => ⟨hx.below ((p3.mono hB).trans (hW.mono (by omega))), hy.below ((p3.mono hC).trans (hW.mono (by omega))), by have := hW.size; omega, by have := hW.size; omega⟩)
  have HPL := Lib.hid (show ∀ W, Below W0.heap.size W0 W → Calls Tryd.prog 106 #[.slice a (lim m).length c1, .slice b (lim n).length c2] W fun e w' => ∃ a c, e = .returned (.slice a (lim (m * n)).length c) ∧ (lim (m * n)).length ≤ c ∧ Own w' W0.heap.size a (lim (m * n)) ∧ Below W0.heap.size W0 w' from
    fun W hW => (iTimes' a b m n c1 c2 W B C (IX.out W hW).2.2.1 (IX.out W hW).2.2.2 (IX.out W hW).1 (IX.out W hW).2.1 hl (by omega)).mono fun e w' ⟨a, c, he, hc, ho, hb⟩ => ⟨a, c, he, hc, ho.mono hW.size, hW.trans (hb.mono hW.size)⟩)
  have HF := Lib.hid (sg_mul hs ht)
  have hst : (-1 ≤ s ∧ s ≤ 1) ∧ (-1 ≤ t ∧ t ≤ 1) := by unfold Sg at hs ht; omega
  obtain ⟨⟨hs1, hs2⟩, ht1, ht2⟩ := hst
  have hwr : IntKind.i64.wrap (s * t) = s * t := by
    have h1 : s = -1 ∨ s = 0 ∨ s = 1 := by omega
    rw [IntKind.wrap_i64]
    rcases h1 with rfl | rfl | rfl <;> omega
  obtain ⟨z, hz⟩ : ∃ z, z = (s * (m : Int)) * (t * n) := ⟨_, rfl⟩
  rw [← hz] at HF ⊢
  clear p1 p2 p3 p4 p5 hx hy hl hl' hW0 hB hC IX hs ht hz
  go_enter Tryd.func62, Tryd.ntmps62
  go_wp2_with fail
  rw [HW0.out]
  go_region_held3 (fun W => W.cell? ⟨w.heap.size, 0, none⟩ = some (.int .i64 s) ∧ W.cell? ⟨w.heap.size, 1, none⟩ = some (.slice a (lim m).length c1) ∧ W.cell? ⟨w.heap.size + 1, 0, none⟩ = some (.int .i64 t) ∧ W.cell? ⟨w.heap.size + 1, 1, none⟩ = some (.slice b (lim n).length c2))
    (first | exact SS.out _ (by assumption) | exact ST.out _ _ _ (by assumption))
    (first
    | (go_at_call 57; refine (HS.out _ _ _ _ _ (by assumption)).mono ?_; rintro e w' ⟨rfl, hb⟩)
    | (go_at_call 106; refine (HPL.out _ (by assumption)).mono ?_; rintro e w' ⟨a', c', rfl, hc', ho', hb⟩)
    | (go_at_call 56; refine (HG.out _ _ _ _ _ (by assumption) (by assumption) (by assumption)).mono ?_; rintro e w' ⟨a', c', rfl, hc', ho', hb⟩; obtain ⟨q1, q2, q3, q4⟩ := SR.out _ hb))
  go_wp2_with fail
  refine bodyPost_ret (v := .agg #[.int .i64 (sgnOf (s * t) (m * n)), .slice a' (lim (m * n)).length c']) (by simp [results, Tryd.results62, go_sem, *]) rfl ?_
  exact retZ_end P3.out P4.out (by assumption) _ _ (by assumption) (by assumption) HF.out

set_option maxHeartbeats 2000000 in
theorem iMultiplyWholes (s t : Int) (a b : Option Addr) (xs ys : List Int) (c1 c2 : Nat) (w : World) (B C : Nat) (hB : B ≤ w.heap.size) (hC : C ≤ w.heap.size) (hx : Ints w B a xs) (hy : Ints w C b ys) (hl : xs.length ≤ 9223372036854775807) (hl' : ys.length ≤ 9223372036854775807) :
    Calls Tryd.prog 14 #[.agg #[.int .i64 s, .slice a xs.length c1], .agg #[.int .i64 t, .slice b ys.length c2]] w (RetWC (binR (fun x y => x * y) s xs t ys) w.heap.size w) := by

  obtain ⟨W0, hW0⟩ : ∃ W0 : World, ((w.alloc (.cells #[.int .i64 s, .slice a xs.length c1] 26)).alloc (.cells #[.int .i64 t, .slice b ys.length c2] 26)).alloc (.cells #[.int .i64 0, .slice none 0 0] 26) = W0 := ⟨_, rfl⟩
  obtain ⟨p1, p2, p5, p3, p4⟩ := three_box w 26 #[.int .i64 s, .slice a xs.length c1] #[.int .i64 t, .slice b ys.length c2] #[.int .i64 0, .slice none 0 0]
  rw [hW0] at p1 p2 p3 p4 p5
  have HW0 := Lib.hid hW0
  have P3 := Lib.hid p3
  have P4 := Lib.hid p4
  have SS := Lib.hid (show ∀ W, Below W0.heap.size W0 W → (W.cell? ⟨w.heap.size, 0, none⟩ = some (.int .i64 s) ∧ W.cell? ⟨w.heap.size, 1, none⟩ = some (.slice a xs.length c1) ∧ W.cell? ⟨w.heap.size + 1, 0, none⟩ = some (.int .i64 t) ∧ W.cell? ⟨w.heap.size + 1, 1, none⟩ = some (.slice b ys.length c2)) from
    fun W hW => ⟨(p1.below hW).cell 0, (p1.below hW).cell 1, (p2.below hW).cell 0, (p2.below hW).cell 1⟩)
  have SR := Lib.hid (show ∀ W, Below W0.heap.size W0 W → (W.cell? ⟨w.heap.size + 1 + 1, 0, none⟩ = some (.int .i64 0) ∧ W.cell? ⟨w.heap.size + 1 + 1, 1, none⟩ = some (.slice none 0 0) ∧ W.frozen? ⟨w.heap.size + 1 + 1, 0, none⟩ = false ∧ W.frozen? ⟨w.heap.size + 1 + 1, 1, none⟩ = false) from
    fun W hW => (p5.below hW).two)
  have ST := Lib.hid (show ∀ W u v, Below W0.heap.size W0 W → (fun W : World => W.cell? ⟨w.heap.size, 0, none⟩ = some (.int .i64 s) ∧ W.cell? ⟨w.heap.size, 1, none⟩ = some (.slice a xs.length c1) ∧ W.cell? ⟨w.heap.size + 1, 0, none⟩ = some (.int .i64 t) ∧ W.cell? ⟨w.heap.size + 1, 1, none⟩ = some (.slice b ys.length c2)) ((W.setCell ⟨w.heap.size + 1 + 1, 0, none⟩ u).setCell ⟨w.heap.size + 1 + 1, 1, none⟩ v) from fun W u v hW =>
    ⟨(((p1.below hW).far (by simp <;> omega) _).far (by simp <;> omega) _).cell 0, (((p1.below hW).far (by simp <;> omega) _).far (by simp <;> omega) _).cell 1, (((p2.below hW).far (by simp <;> omega) _).far (by simp <;> omega) _).cell 0, (((p2.below hW).far (by simp <;> omega) _).far (by simp <;> omega) _).cell 1⟩)
  have hT : Below W0.heap.size W0 W0 := Below.refl _ _
  have hT' : Below W0.heap.size W0 W0.drew := hT.drew
  have IX := Lib.hid (show ∀ W, Below W0.heap.size W0 W → Ints W B a xs ∧ Ints W C b ys ∧ B ≤ W.heap.size ∧ C ≤ W.heap.size from fun W hW => ⟨hx.below ((p3.mono hB).trans (hW.mono (by omega))), hy.below ((p3.mono hC).trans (hW.mono (by omega))), by have := hW.size; omega, by have := hW.size; omega⟩)
  have HI1 := Lib.hid (show ∀ W, Below W0.heap.size W0 W → Calls Tryd.prog 55 #[.agg #[.int .i64 s, .slice a xs.length c1]] W fun e w' => e = .returned (.bool (whB s xs)) ∧ Below W0.heap.size W0 w' from
    fun W hW => (iIsWhole s a xs c1 W B (IX.out W hW).2.2.1 hl (IX.out W hW).1).mono fun e w' ⟨he, hb⟩ => ⟨he, hW.trans (hb.mono hW.size)⟩)
  have HI2 := Lib.hid (show ∀ W, Below W0.heap.size W0 W → Calls Tryd.prog 55 #[.agg #[.int .i64 t, .slice b ys.length c2]] W fun e w' => e = .returned (.bool (whB t ys)) ∧ Below W0.heap.size W0 w' from
    fun W hW => (iIsWhole t b ys c2 W C (IX.out W hW).2.2.2 hl' (IX.out W hW).2.1).mono fun e w' ⟨he, hb⟩ => ⟨he, hW.trans (hb.mono hW.size)⟩)
  cases h1 : whB s xs
  · rw [binR_no (fun h => by rw [whB_iff.2 h.1] at h1; cases h1)]
    rw [h1] at HI1
    clear p1 p2 p3 p4 p5 hx hy hW0 hB hC h1 hl hl' IX
    go_enter Tryd.func14, Tryd.ntmps14
    go_wp2_with fail
    rw [HW0.out]
    refine (HI1.out _ hT).mono ?_
    rintro e w1 ⟨rfl, hb⟩
    obtain ⟨k1, k2, k3, k4⟩ := SS.out _ hb
    obtain ⟨q1, q2, q3, q4⟩ := SR.out _ hb
    go_wp2_with fail
    refine bodyPost_ret (v := .tuple #[.agg #[.int .i64 0, .slice none 0 0], .int .i64 1]) (by simp [results, Tryd.results14, go_sem, *]) rfl ?_
    exact retWC_zero 1 P3.out P4.out hb _ _
  · have e1 := Lib.hid (whB_iff.1 h1)
    rw [h1] at HI1
    cases h2 : whB t ys
    · rw [binR_no (fun h => by rw [whB_iff.2 h.2] at h2; cases h2)]
      rw [h2] at HI2
      clear p1 p2 p3 p4 p5 hx hy hW0 hB hC h1 h2 hl hl' IX
      go_enter Tryd.func14, Tryd.ntmps14
      go_wp2_with fail
      rw [HW0.out]
      refine (HI1.out _ hT).mono ?_
      rintro e w1 ⟨rfl, hb⟩
      obtain ⟨k1, k2, k3, k4⟩ := SS.out _ hb
      go_wp2_with fail
      refine (HI2.out _ hb).mono ?_
      rintro e w2 ⟨rfl, hb2⟩
      clear k1 k2 k3 k4
      obtain ⟨k1, k2, k3, k4⟩ := SS.out _ hb2
      obtain ⟨q1, q2, q3, q4⟩ := SR.out _ hb2
      go_wp2_with fail
      refine bodyPost_ret (v := .tuple #[.agg #[.int .i64 0, .slice none 0 0], .int .i64 1]) (by simp [results, Tryd.results14, go_sem, *]) rfl ?_
      exact retWC_zero 1 P3.out P4.out hb2 _ _
    · have e2 := Lib.hid (whB_iff.1 h2)
      rw [h2] at HI2
      clear h1 h2
      rw [binR_yes e1.out e2.out]
      obtain ⟨m, rfl, hm, sm⟩ := isWh_of e1.out
      obtain ⟨n, rfl, hn, sn⟩ := isWh_of e2.out
      rw [wv_lim, wv_lim]
      obtain ⟨z, hz⟩ : ∃ z : Int, z = (s * (m : Int)) * (t * (n : Int)) := ⟨_, rfl⟩
      have HZ := Lib.hid hz
      rw [← hz]
      have HP := Lib.hid (show ∀ W, Below W0.heap.size W0 W → Calls Tryd.prog 62 #[.agg #[.int .i64 s, .slice a (lim m).length c1], .agg #[.int .i64 t, .slice b (lim n).length c2]] W fun e w' => ∃ a c, e = .returned (.agg #[.int .i64 z.sign, .slice a (lim z.natAbs).length c]) ∧ (lim z.natAbs).length ≤ c ∧ Own w' W0.heap.size a (lim z.natAbs) ∧ Below W0.heap.size W0 w' from
        fun W hW => by
          have := iWTimes s t a b m n c1 c2 W B C (IX.out W hW).2.2.1 (IX.out W hW).2.2.2 (IX.out W hW).1 (IX.out W hW).2.1 sm sn (by omega) (by omega)
          rw [show _ = z from hz.symm] at this
          exact this.mono fun e w' ⟨a, c, he, hc, ho, hb⟩ => ⟨a, c, he, hc, ho.mono hW.size, hW.trans (hb.mono hW.size)⟩)
      have HLM := Lib.hid (show ∀ (a : Option Addr) (c : Nat) W, (lim z.natAbs).length ≤ c → Own W W0.heap.size a (lim z.natAbs) → Below W0.heap.size W0 W → Calls Tryd.prog 61 #[.agg #[.int .i64 z.sign, .slice a (lim z.natAbs).length c]] W fun e w' => ∃ a c, e = .returned (.tuple #[.agg #[.int .i64 (fitZ z).1, .slice a (fitZ z).2.1.length c], .int .i64 (fitZ z).2.2]) ∧ (fitZ z).2.1.length ≤ c ∧ Own w' W0.heap.size a (fitZ z).2.1 ∧ Below W0.heap.size W0 w' from
        fun a c W hc ho hW => (iLimit z.sign z.natAbs a c W W0.heap.size hc ho).mono fun e w' ⟨a, c, he, hc, ho, hb⟩ => ⟨a, c, he, hc, ho, hW.trans (hb.mono hW.size)⟩)
      obtain ⟨zs, hzs⟩ : ∃ r, r = z.sign := ⟨_, rfl⟩
      obtain ⟨zn, hzn⟩ : ∃ r, r = z.natAbs := ⟨_, rfl⟩
      obtain ⟨⟨r1, r2, r3⟩, hr⟩ : ∃ r, r = fitZ z := ⟨_, rfl⟩
      rw [← hr] at HLM ⊢
      rw [← hzs, ← hzn] at HP HLM
      clear p1 p2 p3 p4 p5 hx hy hW0 hB hC hl hl' IX hz hzs hzn hr sm sn hm hn e1 e2
      go_enter Tryd.func14, Tryd.ntmps14
      go_wp2_with fail
      rw [HW0.out]
      refine (HI1.out _ hT).mono ?_
      rintro e w1 ⟨rfl, hb⟩
      obtain ⟨k1, k2, k3, k4⟩ := SS.out _ hb
      go_wp2_with fail
      refine (HI2.out _ hb).mono ?_
      rintro e w2 ⟨rfl, hb2⟩
      clear k1 k2 k3 k4
      obtain ⟨k1, k2, k3, k4⟩ := SS.out _ hb2
      go_wp2_with fail
      refine (HP.out _ hb2).mono ?_
      rintro e w3 ⟨a3, c3, rfl, hc3, ho3, hb3⟩
      go_wp2_with fail
      refine (HLM.out _ _ _ hc3 ho3 hb3).mono ?_
      rintro e w4 ⟨a4, c4, rfl, hc4, ho4, hb4⟩
      have HC4 := Lib.hid hc4
      have HO4 := Lib.hid ho4
      clear hc3 ho3 hc4 ho4
      obtain ⟨q1, q2, q3, q4⟩ := SR.out _ hb4
      go_wp2_with fail
      refine bodyPost_ret (v := .tuple #[.agg #[.int .i64 r1, .slice a4 r2.length c4], .int .i64 r3]) (by simp [results, Tryd.results14, go_sem, *]) rfl ?_
      exact retWC_end (r := (r1, r2, r3)) P3.out P4.out hb4 _ _ HO4.out HC4.out
end Go.Proofs.YtfjfmlofhifkmaaDoor
