/-
  Contract: CommonOfWholes of the program. Conditions: the limbs can be read.
-/
import Derived.Test.YtnnbfoemmgddeaaRa
import Derived.Test.YtnnbfoemmgddeaaUc
namespace Go.Proofs.Ytnnbfoemmgddeaa
set_option linter.unusedVariables false
open Go Go.RowKit

/-- The greatest common divisor of two whole numbers. -/
def gcdZ (x y : Int) : Int := ((Nat.gcd x.natAbs y.natAbs : Nat) : Int)
theorem sg_abs {s : Int} {m : Nat} (h : Sg s m) : (s * (m : Int)).natAbs = m := by
  unfold Sg at h
  rcases h with ⟨rfl, rfl⟩ | ⟨_, rfl | rfl⟩ <;> simp
theorem gcdZ_lim {s t : Int} {m n : Nat} (hs : Sg s m) (ht : Sg t n) : gcdZ (s * (m : Int)) (t * (n : Int)) = ((Nat.gcd m n : Nat) : Int) := by
  unfold gcdZ
  rw [sg_abs hs, sg_abs ht]
theorem gcd_len {m n k : Nat} (hm : (lim m).length ≤ k) (hn : (lim n).length ≤ k) : (lim (Nat.gcd m n)).length ≤ k := by
  rcases Nat.eq_zero_or_pos m with rfl | h
  · rwa [Nat.gcd_zero_left]
  · exact Nat.le_trans (lim_le_of_le (Nat.gcd_le_left n h)) hm
theorem fitZ_lim {g : Nat} (h : (lim g).length ≤ 200) : fitZ (g : Int) = (sgnOf 1 g, lim g, 0) := by
  have e : (g : Int).natAbs = g := Int.natAbs_natCast g
  unfold fitZ fitW
  rw [e]
  simp only [h]
  unfold sgnOf
  rcases Nat.eq_zero_or_pos g with rfl | hg
  · simp
  · simp [show ¬ g = 0 by omega, Int.sign_eq_one_of_pos (show (0 : Int) < (g : Int) by omega)]

set_option maxHeartbeats 2000000 in
theorem iCommonOfWholes (s t : Int) (a b : Option Addr) (xs ys : List Int) (c1 c2 : Nat) (w : World) (B C : Nat) (hB : B ≤ w.heap.size) (hC : C ≤ w.heap.size) (hx : Ints w B a xs) (hy : Ints w C b ys) (hl : xs.length ≤ 9223372036854775807) (hl' : ys.length ≤ 9223372036854775807) :
    Calls Try.prog 58 #[.agg #[.int .i64 s, .slice a xs.length c1], .agg #[.int .i64 t, .slice b ys.length c2]] w (RetWC (binR gcdZ s xs t ys) w.heap.size w) := by

  obtain ⟨W0, hW0⟩ : ∃ W0 : World, ((w.alloc (.cells #[.int .i64 s, .slice a xs.length c1] 58)).alloc (.cells #[.int .i64 t, .slice b ys.length c2] 58)).alloc (.cells #[.int .i64 0, .slice none 0 0] 58) = W0 := ⟨_, rfl⟩
  obtain ⟨p1, p2, p5, p3, p4⟩ := three_box w 58 #[.int .i64 s, .slice a xs.length c1] #[.int .i64 t, .slice b ys.length c2] #[.int .i64 0, .slice none 0 0]
  rw [hW0] at p1 p2 p3 p4 p5
  have HW0 := Lib.hid hW0
  have P3 := Lib.hid p3
  have P4 := Lib.hid p4
  have SS := Lib.hid (show ∀ W, Below W0.heap.size W0 W → (W.cell? ⟨w.heap.size, 0, none⟩ = some (.int .i64 s) ∧ W.cell? ⟨w.heap.size, 1, none⟩ = some (.slice a xs.length c1) ∧ W.cell? ⟨w.heap.size + 1, 0, none⟩ = some (.int .i64 t) ∧ W.cell? ⟨w.heap.size + 1, 1, none⟩ = some (.slice b ys.length c2)) from
    fun W hW => ⟨(p1.below hW).cell 0, (p1.below hW).cell 1, (p2.below hW).cell 0, (p2.below hW).cell 1⟩)
  have SR := Lib.hid (show ∀ W, Below W0.heap.size W0 W → (W.cell? ⟨w.heap.size + 1 + 1, 0, none⟩ = some (.int .i64 0) ∧ W.cell? ⟨w.heap.size + 1 + 1, 1, none⟩ = some (.slice none 0 0) ∧ W.frozen? ⟨w.heap.size + 1 + 1, 0, none⟩ = false ∧ W.frozen? ⟨w.heap.size + 1 + 1, 1, none⟩ = false) from
    fun W hW => (p5.below hW).two)
  have ST := Lib.hid (show ∀ W u v, Below W0.heap.size W0 W → (fun W : World => W.cell? ⟨w.heap.size, 0, none⟩ = some (.int .i64 s) ∧ W.cell? ⟨w.heap.size, 1, none⟩ = some (.slice a xs.length c1) ∧ W.cell? ⟨w.heap.size + 1, 0, none⟩ = some (.int .i64 t) ∧ W.cell? ⟨w.heap.size + 1, 1, none⟩ = some (.slice b ys.length c2)) ((W.setCell ⟨w.heap.size + 1 + 1, 0, none⟩ u).setCell ⟨w.heap.size + 1 + 1, 1, none⟩ v) from fun W u v hW =>
    ⟨(((p1.below hW).far (by simp <;> omega) _).far (by simp <;> omega) _).cell 0, (((p1.below hW).far (by simp <;> omega) _).far (by simp <;> omega) _).cell 1, (((p2.below hW).far (by simp <;> omega) _).far (by simp <;> omega) _).cell 0, (((p2.below hW).far (by simp <;> omega) _).far (by simp <;> omega) _).cell 1⟩)
  have hT : Below W0.heap.size W0 W0 := Below.refl _ _
  have hT' : Below W0.heap.size W0 W0.drew := hT.drew
  have IX := Lib.hid (show ∀ W, Below W0.heap.size W0 W → Ints W B a xs ∧ Ints W C b ys ∧ B ≤ W.heap.size ∧ C ≤ W.heap.size from fun W hW => ⟨hx.below ((p3.mono hB).trans (hW.mono (by omega))), hy.below ((p3.mono hC).trans (hW.mono (by omega))), by have := hW.size; omega, by have := hW.size; omega⟩)
  have HI1 := Lib.hid (show ∀ W, Below W0.heap.size W0 W → Calls Try.prog 124 #[.agg #[.int .i64 s, .slice a xs.length c1]] W fun e w' => e = .returned (.bool (whB s xs)) ∧ Below W0.heap.size W0 w' from
    fun W hW => (iIsWhole s a xs c1 W B (IX.out W hW).2.2.1 hl (IX.out W hW).1).mono fun e w' ⟨he, hb⟩ => ⟨he, hW.trans (hb.mono hW.size)⟩)
  have HI2 := Lib.hid (show ∀ W, Below W0.heap.size W0 W → Calls Try.prog 124 #[.agg #[.int .i64 t, .slice b ys.length c2]] W fun e w' => e = .returned (.bool (whB t ys)) ∧ Below W0.heap.size W0 w' from
    fun W hW => (iIsWhole t b ys c2 W C (IX.out W hW).2.2.2 hl' (IX.out W hW).2.1).mono fun e w' ⟨he, hb⟩ => ⟨he, hW.trans (hb.mono hW.size)⟩)
  cases h1 : whB s xs
  · rw [binR_no (fun h => by rw [whB_iff.2 h.1] at h1; cases h1)]
    rw [h1] at HI1
    clear p1 p2 p3 p4 p5 hx hy hW0 hB hC h1 hl hl' IX
    go_enter Try.func58, Try.ntmps58
    go_wp2_with fail
    rw [HW0.out]
    refine (HI1.out _ hT).mono ?_
    rintro e w1 ⟨rfl, hb⟩
    obtain ⟨k1, k2, k3, k4⟩ := SS.out _ hb
    obtain ⟨q1, q2, q3, q4⟩ := SR.out _ hb
    go_wp2_with fail
    refine bodyPost_ret (v := .tuple #[.agg #[.int .i64 0, .slice none 0 0], .int .i64 1]) (by simp [results, Try.results58, go_sem, *]) rfl ?_
    exact retWC_zero 1 P3.out P4.out hb _ _
  · have e1 := Lib.hid (whB_iff.1 h1)
    rw [h1] at HI1
    cases h2 : whB t ys
    · rw [binR_no (fun h => by rw [whB_iff.2 h.2] at h2; cases h2)]
      rw [h2] at HI2
      clear p1 p2 p3 p4 p5 hx hy hW0 hB hC h1 h2 hl hl' IX
      go_enter Try.func58, Try.ntmps58
      go_wp2_with fail
      rw [HW0.out]
      refine (HI1.out _ hT).mono ?_
      rintro e w1 ⟨rfl, hb⟩
      obtain ⟨k1, k2, k3, k4⟩ := SS.out _ hb
      go_wp2_with fail
      refine (HI2.out _ hb).mono ?_
      rintro e w2 ⟨rfl, hb2⟩
      clear k1 k2 k3 k4
      obtain ⟨k1, k2, k3, k4⟩ := SS.out _ hb2
      obtain ⟨q1, q2, q3, q4⟩ := SR.out _ hb2
      go_wp2_with fail
      refine bodyPost_ret (v := .tuple #[.agg #[.int .i64 0, .slice none 0 0], .int .i64 1]) (by simp [results, Try.results58, go_sem, *]) rfl ?_
      exact retWC_zero 1 P3.out P4.out hb2 _ _
    · have e2 := Lib.hid (whB_iff.1 h2)
      rw [h2] at HI2
      clear h1 h2
      rw [binR_yes e1.out e2.out]
      obtain ⟨m, rfl, hm, sm⟩ := isWh_of e1.out
      obtain ⟨n, rfl, hn, sn⟩ := isWh_of e2.out
      rw [wv_lim, wv_lim]
      have hgl : (lim (Nat.gcd m n)).length ≤ 200 := gcd_len hm hn
      rw [gcdZ_lim sm sn, fitZ_lim hgl]
      obtain ⟨g, hg⟩ : ∃ g, g = Nat.gcd m n := ⟨_, rfl⟩
      have HS := Lib.hid (show ∀ (s : Int) (a : Option Addr) (n c : Nat) W, Below W0.heap.size W0 W → Calls Try.prog 126 #[.agg #[.int .i64 s, .slice a n c]] W fun e w' => e = .returned (.slice a n c) ∧ Below W0.heap.size W0 w' from
        fun s a n c W hW => (iSize s a n c W).mono fun e w' ⟨he, hb⟩ => ⟨he, hW.trans (hb.mono hW.size)⟩)
      have HG := Lib.hid (show ∀ (s : Int) (k : Nat) (a : Option Addr) (c : Nat) W, (lim k).length ≤ c → Own W W0.heap.size a (lim k) → Below W0.heap.size W0 W → Calls Try.prog 125 #[.int .i64 s, .slice a (lim k).length c] W fun e w' => ∃ a c, e = .returned (.agg #[.int .i64 (sgnOf s k), .slice a (lim k).length c]) ∧ (lim k).length ≤ c ∧ Own w' W0.heap.size a (lim k) ∧ Below W0.heap.size W0 w' from
        fun s k a c W h1 h2 hW => (iSigned s k a c W W0.heap.size h1 h2).mono fun e w' ⟨a, c, he, hc, ho, hb⟩ => ⟨a, c, he, hc, ho, hW.trans (hb.mono hW.size)⟩)
      have HPL := Lib.hid (show ∀ W, Below W0.heap.size W0 W → Calls Try.prog 127 #[.slice a (lim m).length c1, .slice b (lim n).length c2] W fun e w' => ∃ a c, e = .returned (.slice a (lim g).length c) ∧ (lim g).length ≤ c ∧ Own w' W0.heap.size a (lim g) ∧ Below W0.heap.size W0 w' from
        fun W hW => by
          have := iCommon a b m n c1 c2 W B C (IX.out W hW).2.2.1 (IX.out W hW).2.2.2 (IX.out W hW).1 (IX.out W hW).2.1 (by omega) (by omega)
          rw [← hg] at this
          exact this.mono fun e w' ⟨a, c, he, hc, ho, hb⟩ => ⟨a, c, he, hc, ho.mono hW.size, hW.trans (hb.mono hW.size)⟩)
      rw [← hg]
      clear hg hgl
      clear p1 p2 p3 p4 p5 hx hy hW0 hB hC hl hl' IX sm sn hm hn e1 e2
      go_enter Try.func58, Try.ntmps58
      go_wp2_with fail
      rw [HW0.out]
      refine (HI1.out _ hT).mono ?_
      rintro e w1 ⟨rfl, hb⟩
      obtain ⟨k1, k2, k3, k4⟩ := SS.out _ hb
      go_wp2_with fail
      refine (HI2.out _ hb).mono ?_
      rintro e w2 ⟨rfl, hb2⟩
      clear k1 k2 k3 k4
      obtain ⟨k1, k2, k3, k4⟩ := SS.out _ hb2
      go_wp2_with fail
      have hb2' := hb2.drew
      go_region_held3 (fun W => W.cell? ⟨w.heap.size, 0, none⟩ = some (.int .i64 s) ∧ W.cell? ⟨w.heap.size, 1, none⟩ = some (.slice a (lim m).length c1) ∧ W.cell? ⟨w.heap.size + 1, 0, none⟩ = some (.int .i64 t) ∧ W.cell? ⟨w.heap.size + 1, 1, none⟩ = some (.slice b (lim n).length c2))
        (first | exact SS.out _ (by assumption) | exact ST.out _ _ _ (by assumption))
        (first
        | (go_at_call 126; refine (HS.out _ _ _ _ _ (by assumption)).mono ?_; rintro e w' ⟨rfl, hb⟩)
        | (go_at_call 127; refine (HPL.out _ (by assumption)).mono ?_; rintro e w' ⟨a', c', rfl, hc', ho', hb⟩)
        | (go_at_call 125; refine (HG.out _ _ _ _ _ (by assumption) (by assumption) (by assumption)).mono ?_; rintro e w' ⟨a', c', rfl, hc', ho', hb⟩; obtain ⟨q1, q2, q3, q4⟩ := SR.out _ hb))
      go_wp2_with fail
      refine bodyPost_ret (v := .tuple #[.agg #[.int .i64 (sgnOf 1 g), .slice a' (lim g).length c'], .int .i64 0]) (by simp [results, Try.results58, go_sem, *]) rfl ?_
      exact retWC_end (r := (sgnOf 1 g, lim g, 0)) P3.out P4.out (by assumption) _ _ (by assumption) (by assumption)
end Go.Proofs.Ytnnbfoemmgddeaa
