/-
  Contract of the model: CommonOfWholes. Conditions: the limbs can be read.
-/
import Derived.Test.YtjfpjgnlgnibiaaWq
namespace Go.Proofs.Ytjfpjgnlgnibiaa
set_option linter.unusedVariables false
open Go Go.RowKit

set_option maxHeartbeats 2000000 in
theorem sCommonOfWholes (s t : Int) (a b : Option Addr) (xs ys : List Int) (c1 c2 : Nat) (w : World) (B C : Nat) (hB : B ≤ w.heap.size) (hC : C ≤ w.heap.size) (hx : Ints w B a xs) (hy : Ints w C b ys) (hl : xs.length ≤ 9223372036854775807) (hl' : ys.length ≤ 9223372036854775807) (hc1 : xs.length ≤ c1) (hc2 : ys.length ≤ c2) :
    Calls Try.prog 32 #[.agg #[.int .i64 s, .slice a xs.length c1], .agg #[.int .i64 t, .slice b ys.length c2]] w (RetWC (binR gcdZ s xs t ys) w.heap.size w) := by

  obtain ⟨W0, hW0⟩ : ∃ W0 : World, ((w.alloc (.cells #[.int .i64 s, .slice a xs.length c1] 26)).alloc (.cells #[.int .i64 t, .slice b ys.length c2] 26)).alloc (.cells #[.int .i64 0, .slice none 0 0] 26) = W0 := ⟨_, rfl⟩
  obtain ⟨p1, p2, p5, p3, p4⟩ := three_box w 26 #[.int .i64 s, .slice a xs.length c1] #[.int .i64 t, .slice b ys.length c2] #[.int .i64 0, .slice none 0 0]
  rw [hW0] at p1 p2 p3 p4 p5
  have HW0 := Lib.hid hW0
  have P3 := Lib.hid p3
  have P4 := Lib.hid p4
  have SS := Lib.hid (show ∀ W, Below W0.heap.size W0 W → (W.cell? ⟨w.heap.size, 0, none⟩ = some (.int .i64 s) ∧ W.cell? ⟨w.heap.size, 1, none⟩ = some (.slice a xs.length c1) ∧ W.cell? ⟨w.heap.size + 1, 0, none⟩ = some (.int .i64 t) ∧ W.cell? ⟨w.heap.size + 1, 1, none⟩ = some (.slice b ys.length c2)) from
    fun W hW => ⟨(p1.below hW).cell 0, (p1.below hW).cell 1, (p2.below hW).cell 0, (p2.below hW).cell 1⟩)
  have SR := Lib.hid (show ∀ W, Below W0.heap.size W0 W → (W.cell? ⟨w.heap.size + 1 + 1, 0, none⟩ = some (.int .i64 0) ∧ W.cell? ⟨w.heap.size + 1 + 1, 1, none⟩ = some (.slice none 0 0) ∧ W.frozen? ⟨w.heap.size + 1 + 1, 0, none⟩ = false ∧ W.frozen? ⟨w.heap.size + 1 + 1, 1, none⟩ = false) from
    fun W hW => (p5.below hW).two)
  have ST := Lib.hid (show ∀ W u v, Below W0.heap.size W0 W → (fun W : World => W.cell? ⟨w.heap.size, 0, none⟩ = some (.int .i64 s) ∧ W.cell? ⟨w.heap.size, 1, none⟩ = some (.slice a xs.length c1) ∧ W.cell? ⟨w.heap.size + 1, 0, none⟩ = some (.int .i64 t) ∧ W.cell? ⟨w.heap.size + 1, 1, none⟩ = some (.slice b ys.length c2)) ((W.setCell ⟨w.heap.size + 1 + 1, 0, none⟩ u).setCell ⟨w.heap.size + 1 + 1, 1, none⟩ v) from fun W u v hW =>
    ⟨(((p1.below hW).far (by simp <;> omega) _).far (by simp <;> omega) _).cell 0, (((p1.below hW).far (by simp <;> omega) _).far (by simp <;> omega) _).cell 1, (((p2.below hW).far (by simp <;> omega) _).far (by simp <;> omega) _).cell 0, (((p2.below hW).far (by simp <;> omega) _).far (by simp <;> omega) _).cell 1⟩)
  have hT : Below W0.heap.size W0 W0 := Below.refl _ _
  have hT' : Below W0.heap.size W0 W0.drew := hT.drew
  have IX := Lib.hid (show ∀ W, Below W0.heap.size W0 W → Ints W B a xs ∧ Ints W C b ys ∧ B ≤ W.heap.size ∧ C ≤ W.heap.size from fun W hW => ⟨hx.below ((p3.mono hB).trans (hW.mono (by omega))), hy.below ((p3.mono hC).trans (hW.mono (by omega))), by have := hW.size; omega, by have := hW.size; omega⟩)
  have HBO := Lib.hid (show ∀ W, Below W0.heap.size W0 W → Calls Try.prog 45 #[.agg #[.int .i64 s, .slice a xs.length c1], .agg #[.int .i64 t, .slice b ys.length c2]] W fun e w' => e = .returned (.int .i64 (bothR s xs t ys)) ∧ Below W0.heap.size W0 w' from
    fun W hW => (sBoth s t a b xs ys c1 c2 W B C (IX.out W hW).2.2.1 (IX.out W hW).2.2.2 (IX.out W hW).1 (IX.out W hW).2.1 hl hl').mono fun e w' ⟨he, hb⟩ => ⟨he, hW.trans (hb.mono hW.size)⟩)
  by_cases hw : IsWh s xs ∧ IsWh t ys
  · obtain ⟨e1, e2⟩ := hw
    rw [bothR_yes e1 e2] at HBO
    rw [binR_yes e1 e2]
    obtain ⟨m, rfl, hm, sm⟩ := isWh_of e1
    obtain ⟨n, rfl, hn, sn⟩ := isWh_of e2
    rw [wv_lim, wv_lim]
    have hgl : (lim (Nat.gcd m n)).length ≤ 200 := gcd_len hm hn
    rw [gcdZ_lim sm sn, fitZ_lim hgl]
    obtain ⟨g, hg⟩ : ∃ g, g = Nat.gcd m n := ⟨_, rfl⟩
    have HP := Lib.hid (show ∀ W, Below W0.heap.size W0 W → Calls Try.prog 71 #[.agg #[.int .i64 s, .slice a (lim m).length c1], .agg #[.int .i64 t, .slice b (lim n).length c2]] W fun e w' => ∃ a c, e = .returned (.agg #[.int .i64 (sgnOf 1 g), .slice a (lim g).length c]) ∧ (lim g).length ≤ c ∧ Own w' W0.heap.size a (lim g) ∧ Below W0.heap.size W0 w' from
      fun W hW => by
        have := sCommon s t a b m n c1 c2 W B C (IX.out W hW).2.2.1 (IX.out W hW).2.2.2 (IX.out W hW).1 (IX.out W hW).2.1 sm sn hm hn hc1 hc2
        rw [← hg] at this
        exact this.mono fun e w' ⟨a, c, he, hc, ho, hb⟩ => ⟨a, c, he, hc, ho.mono hW.size, hW.trans (hb.mono hW.size)⟩)
    rw [← hg]
    clear hg hgl
    clear p1 p2 p3 p4 p5 hx hy hW0 hB hC hl hl' IX sm sn hm hn e1 e2 hc1 hc2
    go_enter Try.func32, Try.ntmps32
    go_wp2_with fail
    rw [HW0.out]
    refine (HBO.out _ hT).mono ?_
    rintro e w1 ⟨rfl, hb⟩
    obtain ⟨k1, k2, k3, k4⟩ := SS.out _ hb
    go_wp2_with fail
    refine (HP.out _ hb).mono ?_
    rintro e w4 ⟨a4, c4, rfl, hc4, ho4, hb4⟩
    have HC4 := Lib.hid hc4
    have HO4 := Lib.hid ho4
    clear hc4 ho4
    obtain ⟨q1, q2, q3, q4⟩ := SR.out _ hb4
    go_wp2_with fail
    refine bodyPost_ret (v := .tuple #[.agg #[.int .i64 (sgnOf 1 g), .slice a4 (lim g).length c4], .int .i64 0]) (by simp [results, Try.results32, go_sem, *]) rfl ?_
    exact retWC_end (r := (sgnOf 1 g, lim g, 0)) P3.out P4.out hb4 _ _ HO4.out HC4.out
  · rw [binR_no hw]
    rw [bothR_no hw] at HBO
    clear p1 p2 p3 p4 p5 hx hy hW0 hB hC hl hl' IX hw hc1 hc2
    go_enter Try.func32, Try.ntmps32
    go_wp2_with fail
    rw [HW0.out]
    refine (HBO.out _ hT).mono ?_
    rintro e w1 ⟨rfl, hb⟩
    obtain ⟨k1, k2, k3, k4⟩ := SS.out _ hb
    obtain ⟨q1, q2, q3, q4⟩ := SR.out _ hb
    go_wp2_with fail
    refine bodyPost_ret (v := .tuple #[.agg #[.int .i64 0, .slice none 0 0], .int .i64 1]) (by simp [results, Try.results32, go_sem, *]) rfl ?_
    exact retWC_zero 1 P3.out P4.out hb _ _
end Go.Proofs.Ytjfpjgnlgnibiaa
