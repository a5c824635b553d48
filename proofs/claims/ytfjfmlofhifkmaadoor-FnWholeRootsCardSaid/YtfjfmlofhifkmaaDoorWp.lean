/-
  Contract: RootOfWhole of the model. Conditions: the limbs can be read.
-/
import Derived.Test.YtfjfmlofhifkmaaDoorRb
import Derived.Test.YtfjfmlofhifkmaaDoorMf
namespace Go.Proofs.YtfjfmlofhifkmaaDoor
set_option linter.unusedVariables false
open Go Go.RowKit

set_option maxRecDepth 100000 in
set_option maxHeartbeats 4000000 in
theorem sRootOfWhole (s : Int) (a : Option Addr) (xs : List Int) (c1 : Nat) (w : World) (B : Nat) (hB : B ≤ w.heap.size) (hx : Ints w B a xs) (hl : xs.length ≤ 9223372036854775807) :
    Calls Tryd.prog 12 #[.agg #[.int .i64 s, .slice a xs.length c1]] w (RetWC (rootR s xs) w.heap.size w) := by
  obtain ⟨W0, hW0⟩ : ∃ W0 : World, (w.alloc (.cells #[.int .i64 s, .slice a xs.length c1] 26)).alloc (.cells #[.int .i64 0, .slice none 0 0] 26) = W0 := ⟨_, rfl⟩
  obtain ⟨p1, p2, p3, p4⟩ := two_box w 26 #[.int .i64 s, .slice a xs.length c1] #[.int .i64 0, .slice none 0 0]
  rw [hW0] at p1 p2 p3 p4
  have HW0 := Lib.hid hW0
  have P3 := Lib.hid p3
  have P4 := Lib.hid p4
  have SS := Lib.hid (show ∀ W, Below W0.heap.size W0 W → (W.cell? ⟨w.heap.size, 0, none⟩ = some (.int .i64 s) ∧ W.cell? ⟨w.heap.size, 1, none⟩ = some (.slice a xs.length c1)) from
    fun W hW => ⟨(p1.below hW).cell 0, (p1.below hW).cell 1⟩)
  have SR := Lib.hid (show ∀ W, Below W0.heap.size W0 W → (W.cell? ⟨w.heap.size + 1, 0, none⟩ = some (.int .i64 0) ∧ W.cell? ⟨w.heap.size + 1, 1, none⟩ = some (.slice none 0 0) ∧ W.frozen? ⟨w.heap.size + 1, 0, none⟩ = false ∧ W.frozen? ⟨w.heap.size + 1, 1, none⟩ = false) from
    fun W hW => (p2.below hW).two)
  have hT : Below W0.heap.size W0 W0 := Below.refl _ _
  have IX := Lib.hid (show ∀ W, Below W0.heap.size W0 W → Ints W B a xs ∧ B ≤ W.heap.size from fun W hW => ⟨hx.below ((p3.mono hB).trans (hW.mono (by omega))), by have := hW.size; omega⟩)
  have HI := Lib.hid (show ∀ W, Below W0.heap.size W0 W → Calls Tryd.prog 50 #[.agg #[.int .i64 s, .slice a xs.length c1]] W fun e w' => e = .returned (.bool (whB s xs)) ∧ Below W0.heap.size W0 w' from
    fun W hW => (sIs s a xs c1 W B (IX.out W hW).2 hl (IX.out W hW).1).mono fun e w' ⟨he, hb⟩ => ⟨he, hW.trans (hb.mono hW.size)⟩)
  cases h1 : whB s xs
  · rw [rootR_no (fun h => by rw [whB_iff.2 h] at h1; cases h1)]
    rw [h1] at HI
    clear p1 p2 p3 p4 hx hW0 hB h1 hl IX
    go_enter Tryd.func12, Tryd.ntmps12
    go_wp2_with fail
    rw [HW0.out]
    refine (HI.out _ hT).mono ?_
    rintro e w1 ⟨rfl, hb⟩
    obtain ⟨k1, k2⟩ := SS.out _ hb
    obtain ⟨q1, q2, q3, q4⟩ := SR.out _ hb
    go_wp2_with fail
    refine bodyPost_ret (v := .tuple #[.agg #[.int .i64 0, .slice none 0 0], .int .i64 1]) (by simp [results, Tryd.results12, go_sem, *]) rfl ?_
    exact retWC_zeroC 1 P3.out P4.out hb _ _
  · have e1 := Lib.hid (whB_iff.1 h1)
    rw [h1] at HI
    clear h1
    by_cases hk : s < 0
    · rw [rootR_neg e1.out hk]
      have hkd : decide (s < 0) = true := decide_eq_true hk
      clear p1 p2 p3 p4 hx hW0 hB hl IX e1 hk
      go_enter Tryd.func12, Tryd.ntmps12
      go_wp2_with fail
      rw [HW0.out]
      refine (HI.out _ hT).mono ?_
      rintro e w1 ⟨rfl, hb⟩
      obtain ⟨k1, k2⟩ := SS.out _ hb
      obtain ⟨q1, q2, q3, q4⟩ := SR.out _ hb
      go_wp2_with fail
      refine bodyPost_ret (v := .tuple #[.agg #[.int .i64 0, .slice none 0 0], .int .i64 5]) (by simp [results, Tryd.results12, go_sem, *]) rfl ?_
      exact retWC_zeroC 5 P3.out P4.out hb _ _
    · rw [rootR_yes e1.out hk]
      have hkd : decide (s < 0) = false := decide_eq_false hk
      obtain ⟨m, rfl, hm, sm⟩ := isWh_of e1.out
      rw [val_lim]
      have hsp := rootN_spec m
      have hrl : (lim (rootN m)).length ≤ 200 := Nat.le_trans (lim_le_of_le (rootN_le m)) hm
      obtain ⟨r, hr⟩ : ∃ r, r = rootN m := ⟨_, rfl⟩
      rw [← hr] at hsp hrl ⊢
      have HP := Lib.hid (show ∀ W, Below W0.heap.size W0 W → Calls Tryd.prog 59 #[.agg #[.int .i64 s, .slice a (lim m).length c1]] W fun e w' => ∃ a c, e = .returned (.agg #[.int .i64 (sgnOf 1 r), .slice a (lim r).length c]) ∧ (lim r).length ≤ c ∧ Own w' W0.heap.size a (lim r) ∧ Below W0.heap.size W0 w' from
        fun W hW => (sRoot s a m c1 r W B (IX.out W hW).2 (IX.out W hW).1 sm (by omega) hm hsp.1 hsp.2).mono fun e w' ⟨a, c, he, hc, ho, hb⟩ => ⟨a, c, he, hc, ho.mono hW.size, hW.trans (hb.mono hW.size)⟩)
      clear p1 p2 p3 p4 hx hW0 hB hl IX e1 hk hm sm hsp hrl hr
      go_enter Tryd.func12, Tryd.ntmps12
      go_wp2_with fail
      rw [HW0.out]
      refine (HI.out _ hT).mono ?_
      rintro e w1 ⟨rfl, hb⟩
      obtain ⟨k1, k2⟩ := SS.out _ hb
      go_wp2_with fail
      refine (HP.out _ hb).mono ?_
      rintro e w4 ⟨a4, c4, rfl, hc4, ho4, hb4⟩
      have HC4 := Lib.hid hc4
      have HO4 := Lib.hid ho4
      clear hc4 ho4
      obtain ⟨q1, q2, q3, q4⟩ := SR.out _ hb4
      go_wp2_with fail
      refine bodyPost_ret (v := .tuple #[.agg #[.int .i64 (sgnOf 1 r), .slice a4 (lim r).length c4], .int .i64 0]) (by simp [results, Tryd.results12, go_sem, *]) rfl ?_
      exact retWC_endC (r := (sgnOf 1 r, lim r, 0)) P3.out P4.out hb4 _ _ HO4.out HC4.out
end Go.Proofs.YtfjfmlofhifkmaaDoor
