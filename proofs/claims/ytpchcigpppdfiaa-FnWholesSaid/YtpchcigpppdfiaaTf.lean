/-
  Contracts of the model: AddWholes, SubtractWholes. Conditions: the limbs can be read.
-/
import Derived.Test.YtpchcigpppdfiaaTe
namespace Go.Proofs.Ytpchcigpppdfiaa
set_option linter.unusedVariables false
open Go Go.RowKit

theorem RetWC.alloc {r : Int × List Int × Int} {lo : Nat} {w W : World} {e : Ending} (h : RetWC r lo w e W) (o : Obj) : RetWC r lo w e (W.alloc o) := by
  obtain ⟨a, c, he, hc, ho, hb⟩ := h
  exact ⟨a, c, he, hc, ho.alloc o, hb.alloc hb.size o⟩

set_option maxHeartbeats 2000000 in
theorem sAddWholes (s t : Int) (a b : Option Addr) (xs ys : List Int) (c1 c2 : Nat) (w : World) (B C : Nat) (hB : B ≤ w.heap.size) (hC : C ≤ w.heap.size) (hx : Ints w B a xs) (hy : Ints w C b ys) (hl : xs.length ≤ 9223372036854775807) (hl' : ys.length ≤ 9223372036854775807) (hc1 : xs.length ≤ c1) (hc2 : ys.length ≤ c2) :
    Calls Try.prog 36 #[.agg #[.int .i64 s, .slice a xs.length c1], .agg #[.int .i64 t, .slice b ys.length c2]] w (RetWC (binR (fun x y => x + y) s xs t ys) w.heap.size w) := by

  obtain ⟨W0, hW0⟩ : ∃ W0 : World, ((w.alloc (.cells #[.int .i64 s, .slice a xs.length c1] 43)).alloc (.cells #[.int .i64 t, .slice b ys.length c2] 43)).alloc (.cells #[.int .i64 0, .slice none 0 0] 43) = W0 := ⟨_, rfl⟩
  obtain ⟨p1, p2, p5, p3, p4⟩ := three_box w 43 #[.int .i64 s, .slice a xs.length c1] #[.int .i64 t, .slice b ys.length c2] #[.int .i64 0, .slice none 0 0]
  rw [hW0] at p1 p2 p3 p4 p5
  have HW0 := Lib.hid hW0
  have P3 := Lib.hid p3
  have P4 := Lib.hid p4
  have SS := Lib.hid (show ∀ W, Below W0.heap.size W0 W → (W.cell? ⟨w.heap.size, 0, none⟩ = some (.int .i64 s) ∧ W.cell? ⟨w.heap.size, 1, none⟩ = some (.slice a xs.length c1) ∧ W.cell? ⟨w.heap.size + 1, 0, none⟩ = some (.int .i64 t) ∧ W.cell? ⟨w.heap.size + 1, 1, none⟩ = some (.slice b ys.length c2)) from
    fun W hW => ⟨(p1.below hW).cell 0, (p1.below hW).cell 1, (p2.below hW).cell 0, (p2.below hW).cell 1⟩)
  have SR := Lib.hid (show ∀ W, Below W0.heap.size W0 W → (W.cell? ⟨w.heap.size + 1 + 1, 0, none⟩ = some (.int .i64 0) ∧ W.cell? ⟨w.heap.size + 1 + 1, 1, none⟩ = some (.slice none 0 0) ∧ W.frozen? ⟨w.heap.size + 1 + 1, 0, none⟩ = false ∧ W.frozen? ⟨w.heap.size + 1 + 1, 1, none⟩ = false) from
    fun W hW => (p5.below hW).two)
  have ST := Lib.hid (show ∀ W u v, Below W0.heap.size W0 W → (fun W : World => W.cell? ⟨w.heap.size, 0, none⟩ = some (.int .i64 s) ∧ W.cell? ⟨w.heap.size, 1, none⟩ = some (.slice a xs.length c1) ∧ W.cell? ⟨w.heap.size + 1, 0, none⟩ = some (.int .i64 t) ∧ W.cell? ⟨w.heap.size + 1, 1, none⟩ = some (.slice b ys.length c2)) ((W.setCell ⟨w.heap.size + 1 + 1, 0, none⟩ u).setCell ⟨w.heap.size + 1 + 1, 1, none⟩ v) from fun W u v hW =>
    ⟨(((p1.below hW).far (by simp <;> omega) _).far (by simp <;> omega) _).cell 0, (((p1.below hW).far (by simp <;> omega) _).far (by simp <;> omega) _).cell 1, (((p2.below hW).far (by simp <;> omega) _).far (by simp <;> omega) _).cell 0, (((p2.below hW).far (by simp <;> omega) _).far (by simp <;> omega) _).cell 1⟩)
  have hT : Below W0.heap.size W0 W0 := Below.refl _ _
  have hT' : Below W0.heap.size W0 W0.drew := hT.drew
  have IX := Lib.hid (show ∀ W, Below W0.heap.size W0 W → Ints W B a xs ∧ Ints W C b ys ∧ B ≤ W.heap.size ∧ C ≤ W.heap.size from fun W hW => ⟨hx.below ((p3.mono hB).trans (hW.mono (by omega))), hy.below ((p3.mono hC).trans (hW.mono (by omega))), by have := hW.size; omega, by have := hW.size; omega⟩)
  have HBO := Lib.hid (show ∀ W, Below W0.heap.size W0 W → Calls Try.prog 71 #[.agg #[.int .i64 s, .slice a xs.length c1], .agg #[.int .i64 t, .slice b ys.length c2]] W fun e w' => e = .returned (.int .i64 (bothR s xs t ys)) ∧ Below W0.heap.size W0 w' from
    fun W hW => (sBoth s t a b xs ys c1 c2 W B C (IX.out W hW).2.2.1 (IX.out W hW).2.2.2 (IX.out W hW).1 (IX.out W hW).2.1 hl hl').mono fun e w' ⟨he, hb⟩ => ⟨he, hW.trans (hb.mono hW.size)⟩)
  by_cases hw : IsWh s xs ∧ IsWh t ys
  · obtain ⟨e1, e2⟩ := hw
    rw [bothR_yes e1 e2] at HBO
    rw [binR_yes e1 e2]
    obtain ⟨m, rfl, hm, sm⟩ := isWh_of e1
    obtain ⟨n, rfl, hn, sn⟩ := isWh_of e2
    rw [wv_lim, wv_lim]
    obtain ⟨z, hz⟩ : ∃ z : Int, z = (s * (m : Int)) + (t * (n : Int)) := ⟨_, rfl⟩
    rw [← hz]
    have HP := Lib.hid (show ∀ W, Below W0.heap.size W0 W → Calls Try.prog 80 #[.agg #[.int .i64 s, .slice a (lim m).length c1], .agg #[.int .i64 t, .slice b (lim n).length c2]] W fun e w' => ∃ a c, e = .returned (.agg #[.int .i64 z.sign, .slice a (lim z.natAbs).length c]) ∧ (lim z.natAbs).length ≤ c ∧ Own w' W0.heap.size a (lim z.natAbs) ∧ Below W0.heap.size W0 w' from
      fun W hW => by
        have := sAdd s t a b m n c1 c2 W B C (IX.out W hW).2.2.1 (IX.out W hW).2.2.2 (IX.out W hW).1 (IX.out W hW).2.1 sm sn (by omega) (by omega) hc1 hc2
        rw [show _ = z from hz.symm] at this
        exact this.mono fun e w' ⟨a, c, he, hc, ho, hb⟩ => ⟨a, c, he, hc, ho.mono hW.size, hW.trans (hb.mono hW.size)⟩)
    have hzl := len_add sm sn hm hn
    rw [← hz] at hzl
    have HLM := Lib.hid (show ∀ (a : Option Addr) (c : Nat) W, (lim z.natAbs).length ≤ c → Own W W0.heap.size a (lim z.natAbs) → Below W0.heap.size W0 W → Calls Try.prog 79 #[.agg #[.int .i64 z.sign, .slice a (lim z.natAbs).length c]] W fun e w' => ∃ a c, e = .returned (.tuple #[.agg #[.int .i64 (fitZ z).1, .slice a (fitZ z).2.1.length c], .int .i64 (fitZ z).2.2]) ∧ (fitZ z).2.1.length ≤ c ∧ Own w' W0.heap.size a (fitZ z).2.1 ∧ Below W0.heap.size W0 w' from
      fun a c W hc ho hW => (sFit z.sign z.natAbs a c W W0.heap.size (Sg.of z) (by omega) hc ho).mono fun e w' ⟨a, c, he, hc, ho, hb⟩ => ⟨a, c, he, hc, ho, hW.trans (hb.mono hW.size)⟩)
    obtain ⟨zs, hzs⟩ : ∃ r, r = z.sign := ⟨_, rfl⟩
    obtain ⟨zn, hzn⟩ : ∃ r, r = z.natAbs := ⟨_, rfl⟩
    obtain ⟨⟨r1, r2, r3⟩, hr⟩ : ∃ r, r = fitZ z := ⟨_, rfl⟩
    rw [← hr] at HLM ⊢
    rw [← hzs, ← hzn] at HP HLM
    clear p1 p2 p3 p4 p5 hx hy hW0 hB hC hl hl' IX hz hzs hzn hr sm sn hm hn e1 e2 hc1 hc2 hzl
    go_enter Try.func36, Try.ntmps36
    go_wp2_with fail
    rw [HW0.out]
    refine (HBO.out _ hT).mono ?_
    rintro e w1 ⟨rfl, hb⟩
    obtain ⟨k1, k2, k3, k4⟩ := SS.out _ hb
    go_wp2_with fail
    refine (HP.out _ hb).mono ?_
    rintro e w3 ⟨a3, c3, rfl, hc3, ho3, hb3⟩
    go_wp2_with fail
    refine (HLM.out _ _ _ hc3 ho3 hb3).mono ?_
    rintro e w4 ⟨a4, c4, rfl, hc4, ho4, hb4⟩
    have HC4 := Lib.hid hc4
    have HO4 := Lib.hid ho4
    clear hc3 ho3 hc4 ho4
    obtain ⟨q1, q2, q3, q4⟩ := SR.out _ hb4
    have hsz : w.heap.size + 1 + 1 < w4.heap.size := by have := hb4.size; have := P4.out; omega
    go_wp2_with fail
    refine bodyPost_ret (v := .tuple #[.agg #[.int .i64 r1, .slice a4 r2.length c4], .int .i64 r3]) (by simp [results, Try.results36, go_sem, *]) rfl ?_
    exact (retWC_end (r := (r1, r2, r3)) P3.out P4.out hb4 _ _ HO4.out HC4.out).alloc _
  · rw [binR_no hw]
    rw [bothR_no hw] at HBO
    clear p1 p2 p3 p4 p5 hx hy hW0 hB hC hl hl' IX hw hc1 hc2
    go_enter Try.func36, Try.ntmps36
    go_wp2_with fail
    rw [HW0.out]
    refine (HBO.out _ hT).mono ?_
    rintro e w1 ⟨rfl, hb⟩
    obtain ⟨k1, k2, k3, k4⟩ := SS.out _ hb
    obtain ⟨q1, q2, q3, q4⟩ := SR.out _ hb
    go_wp2_with fail
    refine bodyPost_ret (v := .tuple #[.agg #[.int .i64 0, .slice none 0 0], .int .i64 1]) (by simp [results, Try.results36, go_sem, *]) rfl ?_
    exact retWC_zero 1 P3.out P4.out hb _ _

set_option maxHeartbeats 2000000 in
theorem sSubtractWholes (s t : Int) (a b : Option Addr) (xs ys : List Int) (c1 c2 : Nat) (w : World) (B C : Nat) (hB : B ≤ w.heap.size) (hC : C ≤ w.heap.size) (hx : Ints w B a xs) (hy : Ints w C b ys) (hl : xs.length ≤ 9223372036854775807) (hl' : ys.length ≤ 9223372036854775807) (hc1 : xs.length ≤ c1) (hc2 : ys.length ≤ c2) :
    Calls Try.prog 38 #[.agg #[.int .i64 s, .slice a xs.length c1], .agg #[.int .i64 t, .slice b ys.length c2]] w (RetWC (binR (fun x y => x - y) s xs t ys) w.heap.size w) := by

  obtain ⟨W0, hW0⟩ : ∃ W0 : World, ((w.alloc (.cells #[.int .i64 s, .slice a xs.length c1] 43)).alloc (.cells #[.int .i64 t, .slice b ys.length c2] 43)).alloc (.cells #[.int .i64 0, .slice none 0 0] 43) = W0 := ⟨_, rfl⟩
  obtain ⟨p1, p2, p5, p3, p4⟩ := three_box w 43 #[.int .i64 s, .slice a xs.length c1] #[.int .i64 t, .slice b ys.length c2] #[.int .i64 0, .slice none 0 0]
  rw [hW0] at p1 p2 p3 p4 p5
  have HW0 := Lib.hid hW0
  have P3 := Lib.hid p3
  have P4 := Lib.hid p4
  have SS := Lib.hid (show ∀ W, Below W0.heap.size W0 W → (W.cell? ⟨w.heap.size, 0, none⟩ = some (.int .i64 s) ∧ W.cell? ⟨w.heap.size, 1, none⟩ = some (.slice a xs.length c1) ∧ W.cell? ⟨w.heap.size + 1, 0, none⟩ = some (.int .i64 t) ∧ W.cell? ⟨w.heap.size + 1, 1, none⟩ = some (.slice b ys.length c2)) from
    fun W hW => ⟨(p1.below hW).cell 0, (p1.below hW).cell 1, (p2.below hW).cell 0, (p2.below hW).cell 1⟩)
  have SR := Lib.hid (show ∀ W, Below W0.heap.size W0 W → (W.cell? ⟨w.heap.size + 1 + 1, 0, none⟩ = some (.int .i64 0) ∧ W.cell? ⟨w.heap.size + 1 + 1, 1, none⟩ = some (.slice none 0 0) ∧ W.frozen? ⟨w.heap.size + 1 + 1, 0, none⟩ = false ∧ W.frozen? ⟨w.heap.size + 1 + 1, 1, none⟩ = false) from
    fun W hW => (p5.below hW).two)
  have ST := Lib.hid (show ∀ W u v, Below W0.heap.size W0 W → (fun W : World => W.cell? ⟨w.heap.size, 0, none⟩ = some (.int .i64 s) ∧ W.cell? ⟨w.heap.size, 1, none⟩ = some (.slice a xs.length c1) ∧ W.cell? ⟨w.heap.size + 1, 0, none⟩ = some (.int .i64 t) ∧ W.cell? ⟨w.heap.size + 1, 1, none⟩ = some (.slice b ys.length c2)) ((W.setCell ⟨w.heap.size + 1 + 1, 0, none⟩ u).setCell ⟨w.heap.size + 1 + 1, 1, none⟩ v) from fun W u v hW =>
    ⟨(((p1.below hW).far (by simp <;> omega) _).far (by simp <;> omega) _).cell 0, (((p1.below hW).far (by simp <;> omega) _).far (by simp <;> omega) _).cell 1, (((p2.below hW).far (by simp <;> omega) _).far (by simp <;> omega) _).cell 0, (((p2.below hW).far (by simp <;> omega) _).far (by simp <;> omega) _).cell 1⟩)
  have hT : Below W0.heap.size W0 W0 := Below.refl _ _
  have hT' : Below W0.heap.size W0 W0.drew := hT.drew
  have IX := Lib.hid (show ∀ W, Below W0.heap.size W0 W → Ints W B a xs ∧ Ints W C b ys ∧ B ≤ W.heap.size ∧ C ≤ W.heap.size from fun W hW => ⟨hx.below ((p3.mono hB).trans (hW.mono (by omega))), hy.below ((p3.mono hC).trans (hW.mono (by omega))), by have := hW.size; omega, by have := hW.size; omega⟩)
  have HBO := Lib.hid (show ∀ W, Below W0.heap.size W0 W → Calls Try.prog 71 #[.agg #[.int .i64 s, .slice a xs.length c1], .agg #[.int .i64 t, .slice b ys.length c2]] W fun e w' => e = .returned (.int .i64 (bothR s xs t ys)) ∧ Below W0.heap.size W0 w' from
    fun W hW => (sBoth s t a b xs ys c1 c2 W B C (IX.out W hW).2.2.1 (IX.out W hW).2.2.2 (IX.out W hW).1 (IX.out W hW).2.1 hl hl').mono fun e w' ⟨he, hb⟩ => ⟨he, hW.trans (hb.mono hW.size)⟩)
  by_cases hw : IsWh s xs ∧ IsWh t ys
  · obtain ⟨e1, e2⟩ := hw
    rw [bothR_yes e1 e2] at HBO
    rw [binR_yes e1 e2]
    obtain ⟨m, rfl, hm, sm⟩ := isWh_of e1
    obtain ⟨n, rfl, hn, sn⟩ := isWh_of e2
    rw [wv_lim, wv_lim]
    obtain ⟨z, hz⟩ : ∃ z : Int, z = (s * (m : Int)) - (t * (n : Int)) := ⟨_, rfl⟩
    rw [← hz]
    have HP := Lib.hid (show ∀ W, Below W0.heap.size W0 W → Calls Try.prog 82 #[.agg #[.int .i64 s, .slice a (lim m).length c1], .agg #[.int .i64 t, .slice b (lim n).length c2]] W fun e w' => ∃ a c, e = .returned (.agg #[.int .i64 z.sign, .slice a (lim z.natAbs).length c]) ∧ (lim z.natAbs).length ≤ c ∧ Own w' W0.heap.size a (lim z.natAbs) ∧ Below W0.heap.size W0 w' from
      fun W hW => by
        have := sSub s t a b m n c1 c2 W B C (IX.out W hW).2.2.1 (IX.out W hW).2.2.2 (IX.out W hW).1 (IX.out W hW).2.1 sm sn (by omega) (by omega) hc1 hc2
        rw [show _ = z from hz.symm] at this
        exact this.mono fun e w' ⟨a, c, he, hc, ho, hb⟩ => ⟨a, c, he, hc, ho.mono hW.size, hW.trans (hb.mono hW.size)⟩)
    have hzl := len_sub sm sn hm hn
    rw [← hz] at hzl
    have HLM := Lib.hid (show ∀ (a : Option Addr) (c : Nat) W, (lim z.natAbs).length ≤ c → Own W W0.heap.size a (lim z.natAbs) → Below W0.heap.size W0 W → Calls Try.prog 79 #[.agg #[.int .i64 z.sign, .slice a (lim z.natAbs).length c]] W fun e w' => ∃ a c, e = .returned (.tuple #[.agg #[.int .i64 (fitZ z).1, .slice a (fitZ z).2.1.length c], .int .i64 (fitZ z).2.2]) ∧ (fitZ z).2.1.length ≤ c ∧ Own w' W0.heap.size a (fitZ z).2.1 ∧ Below W0.heap.size W0 w' from
      fun a c W hc ho hW => (sFit z.sign z.natAbs a c W W0.heap.size (Sg.of z) (by omega) hc ho).mono fun e w' ⟨a, c, he, hc, ho, hb⟩ => ⟨a, c, he, hc, ho, hW.trans (hb.mono hW.size)⟩)
    obtain ⟨zs, hzs⟩ : ∃ r, r = z.sign := ⟨_, rfl⟩
    obtain ⟨zn, hzn⟩ : ∃ r, r = z.natAbs := ⟨_, rfl⟩
    obtain ⟨⟨r1, r2, r3⟩, hr⟩ : ∃ r, r = fitZ z := ⟨_, rfl⟩
    rw [← hr] at HLM ⊢
    rw [← hzs, ← hzn] at HP HLM
    clear p1 p2 p3 p4 p5 hx hy hW0 hB hC hl hl' IX hz hzs hzn hr sm sn hm hn e1 e2 hc1 hc2 hzl
    go_enter Try.func38, Try.ntmps38
    go_wp2_with fail
    rw [HW0.out]
    refine (HBO.out _ hT).mono ?_
    rintro e w1 ⟨rfl, hb⟩
    obtain ⟨k1, k2, k3, k4⟩ := SS.out _ hb
    go_wp2_with fail
    refine (HP.out _ hb).mono ?_
    rintro e w3 ⟨a3, c3, rfl, hc3, ho3, hb3⟩
    go_wp2_with fail
    refine (HLM.out _ _ _ hc3 ho3 hb3).mono ?_
    rintro e w4 ⟨a4, c4, rfl, hc4, ho4, hb4⟩
    have HC4 := Lib.hid hc4
    have HO4 := Lib.hid ho4
    clear hc3 ho3 hc4 ho4
    obtain ⟨q1, q2, q3, q4⟩ := SR.out _ hb4
    have hsz : w.heap.size + 1 + 1 < w4.heap.size := by have := hb4.size; have := P4.out; omega
    go_wp2_with fail
    refine bodyPost_ret (v := .tuple #[.agg #[.int .i64 r1, .slice a4 r2.length c4], .int .i64 r3]) (by simp [results, Try.results38, go_sem, *]) rfl ?_
    exact (retWC_end (r := (r1, r2, r3)) P3.out P4.out hb4 _ _ HO4.out HC4.out).alloc _
  · rw [binR_no hw]
    rw [bothR_no hw] at HBO
    clear p1 p2 p3 p4 p5 hx hy hW0 hB hC hl hl' IX hw hc1 hc2
    go_enter Try.func38, Try.ntmps38
    go_wp2_with fail
    rw [HW0.out]
    refine (HBO.out _ hT).mono ?_
    rintro e w1 ⟨rfl, hb⟩
    obtain ⟨k1, k2, k3, k4⟩ := SS.out _ hb
    obtain ⟨q1, q2, q3, q4⟩ := SR.out _ hb
    go_wp2_with fail
    refine bodyPost_ret (v := .tuple #[.agg #[.int .i64 0, .slice none 0 0], .int .i64 1]) (by simp [results, Try.results38, go_sem, *]) rfl ?_
    exact retWC_zero 1 P3.out P4.out hb _ _
end Go.Proofs.Ytpchcigpppdfiaa
