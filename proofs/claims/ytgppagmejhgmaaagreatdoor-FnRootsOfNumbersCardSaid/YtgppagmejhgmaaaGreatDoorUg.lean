/-
  Contracts: WholeOf, of the program and of the model. No conditions.
-/
import Derived.Test.YtgppagmejhgmaaaGreatDoorUf
namespace Go.Proofs.YtgppagmejhgmaaaGreatDoor
set_option linter.unusedVariables false
open Go Go.RowKit

theorem sgnOf_one (N : Nat) : sgnOf 1 N = (N : Int).sign := by
  unfold sgnOf
  split
  · rename_i h; subst h; rfl
  · exact (Int.sign_eq_one_of_pos (by omega)).symm
theorem sgnOf_neg (N : Nat) : sgnOf (-1) N = (-(N : Int)).sign := by
  unfold sgnOf
  split
  · rename_i h; subst h; rfl
  · exact (Int.sign_eq_neg_one_of_neg (by omega)).symm

theorem sOf (n : Int) (bl : -9223372036854775808 ≤ n) (bh : n ≤ 9223372036854775807) (w : World) : Calls Tryz.prog 84 #[.int .i64 n] w (RetN n.sign n.natAbs w) := by
  by_cases h : 0 ≤ n
  · obtain ⟨N, rfl⟩ := Int.eq_ofNat_of_zero_le h
    have := sOfP N (by omega) w
    rw [sgnOf_one] at this
    exact this
  · obtain ⟨N, hN⟩ := Int.eq_ofNat_of_zero_le (show 0 ≤ -n by omega)
    obtain rfl : n = -(N : Int) := by omega
    have := sOfM N (by omega) (by omega) w
    rw [sgnOf_neg] at this
    rw [Int.natAbs_neg]
    exact this

set_option maxHeartbeats 1000000 in
theorem iWholeOfP (N : Nat) (hN : N ≤ 9223372036854775807) (w : World) : Calls Tryz.prog 111 #[.int .i64 (N : Int)] w (RetWC (sgnOf 1 N, lim N, 0) w.heap.size w) := by
  obtain ⟨W0, hW0⟩ : ∃ W0 : World, w.alloc (.cells #[.int .i64 0, .slice none 0 0] 60) = W0 := ⟨_, rfl⟩
  obtain ⟨p0, p8, p9⟩ := one_box w 60 #[.int .i64 0, .slice none 0 0]
  rw [hW0] at p0 p8 p9
  have HW0 := Lib.hid hW0
  have P0 := Lib.hid p0
  have P3 := Lib.hid p8
  have P4 := Lib.hid p9
  have SR := Lib.hid (show ∀ W, Below W0.heap.size W0 W → (W.cell? ⟨w.heap.size, 0, none⟩ = some (.int .i64 0) ∧ W.cell? ⟨w.heap.size, 1, none⟩ = some (.slice none 0 0) ∧ W.frozen? ⟨w.heap.size, 0, none⟩ = false ∧ W.frozen? ⟨w.heap.size, 1, none⟩ = false) from
    fun W hW => (p0.below hW).two)
  have HMA := Lib.hid (show Calls Tryz.prog 135 #[.int .u64 (N : Int)] W0 (RetL (lim N) W0) from iMagOf N (by omega) W0)
  have hlt : decide ((N : Int) < 0) = false := decide_eq_false (by omega)
  have hNb : (N : Int) ≤ 9223372036854775807 := by omega
  clear p0 p8 p9 hW0 hN
  go_enter Tryz.func111, Tryz.ntmps111
  go_wp2_with fail
  (try rw [HW0.out])
  refine HMA.out.mono ?_
  rintro e w1 ⟨a1, c1, rfl, hc1, ho1, hb1⟩
  have HSG := Lib.hid (iSigned 1 N a1 c1 w1 W0.heap.size hc1 ho1)
  have HB1 := Lib.hid hb1
  clear hc1 ho1 hb1
  go_wp2_with fail
  refine HSG.out.mono ?_
  rintro e w2 ⟨a2, c2, rfl, hc2, ho2, hb2⟩
  have HC2 := Lib.hid hc2
  have HO2 := Lib.hid ho2
  have HB2 := Lib.hid (HB1.out.trans (hb2.mono HB1.out.size))
  have hs2 := HB2.out.size
  obtain ⟨q1, q2, q3, q4⟩ := SR.out _ HB2.out
  have hlo : w.heap.size < W0.heap.size := by have := P4.out; omega
  clear hc2 ho2 hb2
  obtain ⟨z, hz⟩ : ∃ z, z = sgnOf 1 N := ⟨_, rfl⟩
  rw [← hz]
  have HZ := Lib.hid hz
  clear hz
  go_wp2_with fail
  refine bodyPost_ret (v := .tuple #[.agg #[.int .i64 z, .slice a2 (lim N).length c2], .int .i64 0]) (by simp [results, Tryz.results111, go_sem, *]) rfl ⟨a2, c2, by rw [HZ.out], HC2.out, ((HO2.out.setFar (by simp; omega) _).setFar (by simp; omega) _).mono (by omega), (((P3.out).trans (HB2.out.mono (by have := P4.out; omega))).setCell (by simp) _).setCell (by simp) _⟩

set_option maxHeartbeats 1000000 in
theorem iWholeOfM (N : Nat) (hN : N ≤ 9223372036854775808) (hpos : 0 < N) (w : World) : Calls Tryz.prog 111 #[.int .i64 (-(N : Int))] w (RetWC (sgnOf (-1) N, lim N, 0) w.heap.size w) := by
  obtain ⟨W0, hW0⟩ : ∃ W0 : World, w.alloc (.cells #[.int .i64 0, .slice none 0 0] 60) = W0 := ⟨_, rfl⟩
  obtain ⟨p0, p8, p9⟩ := one_box w 60 #[.int .i64 0, .slice none 0 0]
  rw [hW0] at p0 p8 p9
  have HW0 := Lib.hid hW0
  have P0 := Lib.hid p0
  have P3 := Lib.hid p8
  have P4 := Lib.hid p9
  have SR := Lib.hid (show ∀ W, Below W0.heap.size W0 W → (W.cell? ⟨w.heap.size, 0, none⟩ = some (.int .i64 0) ∧ W.cell? ⟨w.heap.size, 1, none⟩ = some (.slice none 0 0) ∧ W.frozen? ⟨w.heap.size, 0, none⟩ = false ∧ W.frozen? ⟨w.heap.size, 1, none⟩ = false) from
    fun W hW => (p0.below hW).two)
  have HMA := Lib.hid (show Calls Tryz.prog 135 #[.int .u64 (N : Int)] W0 (RetL (lim N) W0) from iMagOf N (by omega) W0)
  have hlt : 0 < N := hpos
  have hw1 : IntKind.u64.wrap (-(N : Int)) = 18446744073709551616 - (N : Int) := by rw [IntKind.wrap_u64]; omega
  have hw2 : IntKind.u64.wrap (-(18446744073709551616 - (N : Int))) = (N : Int) := by rw [IntKind.wrap_u64]; omega
  have hw3 : IntKind.u64.wrap ((N : Int) - 18446744073709551616) = (N : Int) := by rw [IntKind.wrap_u64]; omega
  clear p0 p8 p9 hW0 hN hpos
  go_enter Tryz.func111, Tryz.ntmps111
  go_wp2_with fail
  (try rw [HW0.out])
  refine HMA.out.mono ?_
  rintro e w1 ⟨a1, c1, rfl, hc1, ho1, hb1⟩
  have HSG := Lib.hid (iSigned (-1) N a1 c1 w1 W0.heap.size hc1 ho1)
  have HB1 := Lib.hid hb1
  clear hc1 ho1 hb1 hw1 hw2 hw3
  go_wp2_with fail
  refine HSG.out.mono ?_
  rintro e w2 ⟨a2, c2, rfl, hc2, ho2, hb2⟩
  have HC2 := Lib.hid hc2
  have HO2 := Lib.hid ho2
  have HB2 := Lib.hid (HB1.out.trans (hb2.mono HB1.out.size))
  have hs2 := HB2.out.size
  obtain ⟨q1, q2, q3, q4⟩ := SR.out _ HB2.out
  have hlo : w.heap.size < W0.heap.size := by have := P4.out; omega
  clear hc2 ho2 hb2
  obtain ⟨z, hz⟩ : ∃ z, z = sgnOf (-1) N := ⟨_, rfl⟩
  rw [← hz]
  have HZ := Lib.hid hz
  clear hz
  go_wp2_with fail
  refine bodyPost_ret (v := .tuple #[.agg #[.int .i64 z, .slice a2 (lim N).length c2], .int .i64 0]) (by simp [results, Tryz.results111, go_sem, *]) rfl ⟨a2, c2, by rw [HZ.out], HC2.out, ((HO2.out.setFar (by simp; omega) _).setFar (by simp; omega) _).mono (by omega), (((P3.out).trans (HB2.out.mono (by have := P4.out; omega))).setCell (by simp) _).setCell (by simp) _⟩

theorem iWholeOf (n : Int) (bl : -9223372036854775808 ≤ n) (bh : n ≤ 9223372036854775807) (w : World) : Calls Tryz.prog 111 #[.int .i64 n] w (RetWC (n.sign, lim n.natAbs, 0) w.heap.size w) := by
  by_cases h : 0 ≤ n
  · obtain ⟨N, rfl⟩ := Int.eq_ofNat_of_zero_le h
    have := iWholeOfP N (by omega) w
    rw [sgnOf_one] at this
    exact this
  · obtain ⟨N, hN⟩ := Int.eq_ofNat_of_zero_le (show 0 ≤ -n by omega)
    obtain rfl : n = -(N : Int) := by omega
    have := iWholeOfM N (by omega) (by omega) w
    rw [sgnOf_neg] at this
    rw [Int.natAbs_neg]
    exact this
end Go.Proofs.YtgppagmejhgmaaaGreatDoor
