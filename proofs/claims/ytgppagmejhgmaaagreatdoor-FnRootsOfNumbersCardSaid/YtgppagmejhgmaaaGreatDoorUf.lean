/-
  Contracts of the model: whole numbers of integers. No conditions.
-/
import Derived.Test.YtgppagmejhgmaaaGreatDoorUe
import Derived.Test.YtgppagmejhgmaaaGreatDoorTf
namespace Go.Proofs.YtgppagmejhgmaaaGreatDoor
set_option linter.unusedVariables false
open Go Go.RowKit

set_option maxRecDepth 100000 in
set_option maxHeartbeats 2000000 in
theorem sOfP (N : Nat) (hN : N ≤ 9223372036854775807) (w : World) : Calls Tryz.prog 84 #[.int .i64 (N : Int)] w (RetN (sgnOf 1 N) N w) := by
  have HN := Lib.hid (show N < 18446744073709551616 by omega)
  obtain ⟨W0, hW0⟩ : ∃ W0 : World, w.alloc (.cells #[.int .i64 0, .slice none 0 0] 60) = W0 := ⟨_, rfl⟩
  obtain ⟨p0, p8, p9⟩ := one_box w 60 #[.int .i64 0, .slice none 0 0]
  rw [hW0] at p0 p8 p9
  have HW0 := Lib.hid hW0
  have P0 := Lib.hid p0
  have P3 := Lib.hid p8
  have P4 := Lib.hid p9
  have SR := Lib.hid (show ∀ W, Below W0.heap.size W0 W → (W.cell? ⟨w.heap.size, 0, none⟩ = some (.int .i64 0) ∧ W.cell? ⟨w.heap.size, 1, none⟩ = some (.slice none 0 0) ∧ W.frozen? ⟨w.heap.size, 0, none⟩ = false ∧ W.frozen? ⟨w.heap.size, 1, none⟩ = false) from
    fun W hW => (p0.below hW).two)
  have hlt : decide ((N : Int) < 0) = false := decide_eq_false (by omega)
  have hNb : (N : Int) ≤ 9223372036854775807 := by omega
  clear p0 p8 p9 hW0 hN
  go_enter Tryz.func84, Tryz.ntmps84
  go_wp2
  rw [HW0.out]
  clear hlt
  go_loopw [0, 4] (fun q v wr => ∃ (r : Nat) (L : List Nat), q = .int .i64 (r : Int) ∧ Hid (dig N = L ++ dig r) ∧ r ≤ N ∧ OwnV wr W0.heap.size v (ofN L) ∧ Below W0.heap.size W0 wr) (fun q _ _ => (intOf q).natAbs)
  case atStart => exact ⟨N, [], rfl, rfl, Nat.le_refl _, (by have h := OwnV.empty W0 W0.heap.size (Nat.le_refl _); have e := P4.out; simp only [e] at h ⊢; exact h), (Below.refl _ _).alloc (Nat.le_refl _) _⟩
  case round =>
    obtain ⟨r, L, rfl, hd, hr, hown, hbel⟩ := hrel
    have OW := Lib.hid hown
    have HB := Lib.hid hbel
    have HR := Lib.hid hr
    have hsz : W0.heap.size ≤ wr.heap.size := hbel.size
    by_cases h0 : r = 0
    · subst h0
      obtain ⟨a', c', rfl, hc', _, ho⟩ := OW.out.parts
      have e : L = dig N := by have := hd.out; rw [dig_zero, List.append_nil] at this; exact this.symm
      rw [e] at ho hc'
      have hmk := sMake 1 a' (dig N) c' wr wr.heap.size (Nat.le_refl _) ho.ints (small_dig N) (by rw [ofN_length] at hc'; exact hc') (by have := dig_small HN.out; omega)
      rw [val_dig, ← lim_length] at hmk
      have HMK := Lib.hid hmk
      have e2 : (ofN L).length = (lim N).length := by rw [e]; rfl
      clear ho hc' OW hmk hown hbel hr e
      go_wp2_with fail
      rw [e2]
      refine HMK.out.mono ?_
      rintro e w1 ⟨a1, c1, rfl, hc1, ho1, hb1⟩
      have HC1 := Lib.hid hc1
      have HO1 := Lib.hid ho1
      have HB1 := Lib.hid (HB.out.trans (hb1.mono HB.out.size))
      have hs1 := HB1.out.size
      obtain ⟨q1, q2, q3, q4⟩ := SR.out _ HB1.out
      clear hc1 ho1 hb1
      have hlo : w.heap.size < wr.heap.size := by have := P4.out; omega
      go_wp2_with fail
      refine bodyPost_ret (v := .agg #[.int .i64 (sgnOf 1 N), .slice a1 (lim N).length c1]) (by simp [results, Tryz.results84, go_sem, *]) rfl ⟨a1, c1, rfl, HC1.out, ((HO1.out.setFar (by simp; omega) _).setFar (by simp; omega) _).mono (by omega), (((P3.out).trans (HB1.out.mono (by have := P4.out; omega))).setCell (by simp) _).setCell (by simp) _⟩
    · have hne : ((r : Int) == 0) = false := by simp; omega
      have hne2 : ((r : Int) != 0) = true := by simp; omega
      have hm : Int.tmod (r : Int) 16777216 = ((r % 16777216 : Nat) : Int) := by simp [Int.tmod_eq_emod_of_nonneg]
      have hv : Int.tdiv (r : Int) 16777216 = ((r / 16777216 : Nat) : Int) := by simp [Int.tdiv_eq_ediv_of_nonneg]
      have hlen : L.length ≤ 3 := by
        have h1 := dig_small HN.out
        rw [hd.out, List.length_append] at h1
        omega
      have HLN := Lib.hid hlen
      have hd2 : dig N = (L ++ [r % 16777216]) ++ dig (r / 16777216) := by
        rw [hd.out, dig_pos h0, List.append_assoc]; rfl
      have HD2 := Lib.hid hd2
      have hb1 : r % 16777216 ≤ 9223372036854775807 := by omega
      have hb2 : r / 16777216 ≤ 549755813888 := by omega
      have HY2 := Lib.hid (show r / 16777216 < r by omega)
      have HY3 := Lib.hid (show r / 16777216 ≤ N by omega)
      have hrb : (r : Int) ≤ 9223372036854775807 := by omega
      clear hlen hd2 hown hbel hr
      obtain ⟨x, hx⟩ : ∃ x : Nat, x = r % 16777216 := ⟨_, rfl⟩
      obtain ⟨y, hy⟩ : ∃ y : Nat, y = r / 16777216 := ⟨_, rfl⟩
      rw [← hx] at hm HD2 hb1
      rw [← hy] at hv HD2 hb2 HY2 HY3
      have hb1I : (x : Int) ≤ 9223372036854775807 := by omega
      have hb2I : (y : Int) ≤ 549755813888 := by omega
      clear hx hy hb1 hb2
      have hl0 : decide ((x : Int) < 0) = false := decide_eq_false (by omega)
      go_wp2_with (at_builtin; refine wp_app1 rfl _ _ 58 rfl Tryz.underlying58 wr (x : Int) (by simp) W0.heap.size _ (ofN L) OW.out rfl rfl (by rw [ofN_length]; have := HLN.out; omega) (by omega) ?_; intro v' w' hown hb hs; have OW2 := Lib.hid hown; have HB2 := Lib.hid (hb W0.heap.size (by omega) (Nat.le_refl _)); clear hown hb)
      go_roundw
      case rel =>
        refine ⟨y, L ++ [x], rfl, HD2.out, HY3.out, ?_, HB.out.trans HB2.out⟩
        rw [ofN_append]
        exact OW2.out
      case measure => have := HY2.out; simp [intOf]; omega

set_option maxRecDepth 100000 in
set_option maxHeartbeats 2000000 in
theorem sOfM (N : Nat) (hN : N ≤ 9223372036854775808) (hpos : 0 < N) (w : World) : Calls Tryz.prog 84 #[.int .i64 (-(N : Int))] w (RetN (sgnOf (-1) N) N w) := by
  have HN := Lib.hid (show N < 18446744073709551616 by omega)
  obtain ⟨W0, hW0⟩ : ∃ W0 : World, w.alloc (.cells #[.int .i64 0, .slice none 0 0] 60) = W0 := ⟨_, rfl⟩
  obtain ⟨p0, p8, p9⟩ := one_box w 60 #[.int .i64 0, .slice none 0 0]
  rw [hW0] at p0 p8 p9
  have HW0 := Lib.hid hW0
  have P0 := Lib.hid p0
  have P3 := Lib.hid p8
  have P4 := Lib.hid p9
  have SR := Lib.hid (show ∀ W, Below W0.heap.size W0 W → (W.cell? ⟨w.heap.size, 0, none⟩ = some (.int .i64 0) ∧ W.cell? ⟨w.heap.size, 1, none⟩ = some (.slice none 0 0) ∧ W.frozen? ⟨w.heap.size, 0, none⟩ = false ∧ W.frozen? ⟨w.heap.size, 1, none⟩ = false) from
    fun W hW => (p0.below hW).two)
  have hlt : 0 < N := hpos
  have hNb : (N : Int) ≤ 9223372036854775808 := by omega
  clear p0 p8 p9 hW0 hN hpos
  go_enter Tryz.func84, Tryz.ntmps84
  go_wp2
  rw [HW0.out]
  clear hlt
  go_loopw [0, 4] (fun q v wr => ∃ (r : Nat) (L : List Nat), q = .int .i64 (-(r : Int)) ∧ Hid (dig N = L ++ dig r) ∧ r ≤ N ∧ OwnV wr W0.heap.size v (ofN L) ∧ Below W0.heap.size W0 wr) (fun q _ _ => (intOf q).natAbs)
  case atStart => exact ⟨N, [], rfl, rfl, Nat.le_refl _, (by have h := OwnV.empty W0 W0.heap.size (Nat.le_refl _); have e := P4.out; simp only [e] at h ⊢; exact h), (Below.refl _ _).alloc (Nat.le_refl _) _⟩
  case round =>
    obtain ⟨r, L, rfl, hd, hr, hown, hbel⟩ := hrel
    have OW := Lib.hid hown
    have HB := Lib.hid hbel
    have HR := Lib.hid hr
    have hsz : W0.heap.size ≤ wr.heap.size := hbel.size
    by_cases h0 : r = 0
    · subst h0
      obtain ⟨a', c', rfl, hc', _, ho⟩ := OW.out.parts
      have e : L = dig N := by have := hd.out; rw [dig_zero, List.append_nil] at this; exact this.symm
      rw [e] at ho hc'
      have hmk := sMake (-1) a' (dig N) c' wr wr.heap.size (Nat.le_refl _) ho.ints (small_dig N) (by rw [ofN_length] at hc'; exact hc') (by have := dig_small HN.out; omega)
      rw [val_dig, ← lim_length] at hmk
      have HMK := Lib.hid hmk
      have e2 : (ofN L).length = (lim N).length := by rw [e]; rfl
      clear ho hc' OW hmk hown hbel hr e
      go_wp2_with fail
      rw [e2]
      refine HMK.out.mono ?_
      rintro e w1 ⟨a1, c1, rfl, hc1, ho1, hb1⟩
      have HC1 := Lib.hid hc1
      have HO1 := Lib.hid ho1
      have HB1 := Lib.hid (HB.out.trans (hb1.mono HB.out.size))
      have hs1 := HB1.out.size
      obtain ⟨q1, q2, q3, q4⟩ := SR.out _ HB1.out
      clear hc1 ho1 hb1
      have hlo : w.heap.size < wr.heap.size := by have := P4.out; omega
      go_wp2_with fail
      refine bodyPost_ret (v := .agg #[.int .i64 (sgnOf (-1) N), .slice a1 (lim N).length c1]) (by simp [results, Tryz.results84, go_sem, *]) rfl ⟨a1, c1, rfl, HC1.out, ((HO1.out.setFar (by simp; omega) _).setFar (by simp; omega) _).mono (by omega), (((P3.out).trans (HB1.out.mono (by have := P4.out; omega))).setCell (by simp) _).setCell (by simp) _⟩
    · have hne : ((-(r : Int)) == 0) = false := by simp; omega
      have hne2 : ((-(r : Int)) != 0) = true := by simp; omega
      have hm : Int.tmod (-(r : Int)) 16777216 = -((r % 16777216 : Nat) : Int) := by rw [Int.neg_tmod]; simp [Int.tmod_eq_emod_of_nonneg]
      have hv : Int.tdiv (-(r : Int)) 16777216 = -((r / 16777216 : Nat) : Int) := by rw [Int.neg_tdiv]; simp [Int.tdiv_eq_ediv_of_nonneg]
      have hlen : L.length ≤ 3 := by
        have h1 := dig_small HN.out
        rw [hd.out, List.length_append] at h1
        omega
      have HLN := Lib.hid hlen
      have hd2 : dig N = (L ++ [r % 16777216]) ++ dig (r / 16777216) := by
        rw [hd.out, dig_pos h0, List.append_assoc]; rfl
      have HD2 := Lib.hid hd2
      have hb1 : r % 16777216 ≤ 9223372036854775807 := by omega
      have hb2 : r / 16777216 ≤ 549755813888 := by omega
      have HY2 := Lib.hid (show r / 16777216 < r by omega)
      have HY3 := Lib.hid (show r / 16777216 ≤ N by omega)
      have hrb : (r : Int) ≤ 9223372036854775808 := by omega
      clear hlen hd2 hown hbel hr
      obtain ⟨x, hx⟩ : ∃ x : Nat, x = r % 16777216 := ⟨_, rfl⟩
      obtain ⟨y, hy⟩ : ∃ y : Nat, y = r / 16777216 := ⟨_, rfl⟩
      rw [← hx] at hm HD2 hb1
      rw [← hy] at hv HD2 hb2 HY2 HY3
      have hb1I : (x : Int) ≤ 9223372036854775807 := by omega
      have hb2I : (y : Int) ≤ 549755813888 := by omega
      clear hx hy hb1 hb2
      by_cases hx0 : x = 0
      · subst hx0
        go_wp2_with (at_builtin; refine wp_app1 rfl _ _ 58 rfl Tryz.underlying58 wr (0 : Int) (by simp) W0.heap.size _ (ofN L) OW.out rfl rfl (by rw [ofN_length]; have := HLN.out; omega) (by omega) ?_; intro v' w' hown hb hs; have OW2 := Lib.hid hown; have HB2 := Lib.hid (hb W0.heap.size (by omega) (Nat.le_refl _)); clear hown hb)
        go_roundw
        case rel =>
          refine ⟨y, L ++ [0], rfl, HD2.out, HY3.out, ?_, HB.out.trans HB2.out⟩
          rw [ofN_append]
          exact OW2.out
        case measure => have := HY2.out; simp [intOf]; omega
      · have hl0 : 0 < x := by omega
        go_wp2_with (at_builtin; refine wp_app1 rfl _ _ 58 rfl Tryz.underlying58 wr (x : Int) (by simp) W0.heap.size _ (ofN L) OW.out rfl rfl (by rw [ofN_length]; have := HLN.out; omega) (by omega) ?_; intro v' w' hown hb hs; have OW2 := Lib.hid hown; have HB2 := Lib.hid (hb W0.heap.size (by omega) (Nat.le_refl _)); clear hown hb)
        go_roundw
        case rel =>
          refine ⟨y, L ++ [x], rfl, HD2.out, HY3.out, ?_, HB.out.trans HB2.out⟩
          rw [ofN_append]
          exact OW2.out
        case measure => have := HY2.out; simp [intOf]; omega
end Go.Proofs.YtgppagmejhgmaaaGreatDoor
