/-
  Contract of the model: whole numbers without their last bits. Conditions: the limbs can be read.
-/
import Derived.Test.YtfjfmlofhifkmaaDoorVj
import Derived.Test.YtfjfmlofhifkmaaDoorTf
namespace Go.Proofs.YtfjfmlofhifkmaaDoor
set_option linter.unusedVariables false
open Go Go.RowKit

theorem cut_parts {x y r s : Nat} (h : r + s = 24) : x / 2 ^ r + y * 2 ^ s = (x + 16777216 * y) / 2 ^ r := by
  have e : (16777216 : Nat) = 2 ^ r * 2 ^ s := by rw [← Nat.pow_add, h]
  have e2 : x + 16777216 * y = x + 2 ^ r * (2 ^ s * y) := by
    conv => lhs; rw [e]
    rw [Nat.mul_assoc]
  rw [e2, Nat.add_mul_div_left _ _ (Nat.pow_pos (by omega)), Nat.mul_comm (2 ^ s)]
theorem cut_bounds {x y r s : Nat} (hx : x < 16777216) (hy : y < 16777216) (h : r + s = 24) : x / 2 ^ r ≤ 16777215 ∧ y * 2 ^ s ≤ 281474976710656 := by
  have h1 := Nat.div_le_self x (2 ^ r)
  have h2 : 2 ^ s ≤ 16777216 := Nat.le_trans (Nat.pow_le_pow_right (by omega) (show s ≤ 24 by omega)) (by decide)
  have h3 : y * 2 ^ s ≤ 16777215 * 16777216 := Nat.mul_le_mul (by omega) h2
  omega
theorem cut_total {n q r K0 : Nat} (hq : q = K0 / 24) (hr : r = K0 % 24) : val (cutL r ((dig n).drop q)) = n / 2 ^ K0 := by
  subst hq hr
  by_cases h : K0 / 24 ≤ (dig n).length
  · have := cut_val (small_dig n) h
    rwa [val_dig] at this
  · have := cut_big (small_dig n) (k := K0) (by omega)
    rw [val_dig] at this
    rw [this, List.drop_of_length_le (by omega)]
    rfl

theorem tdiv_add (u v : Nat) : Int.tdiv ((u : Int) + (v : Int)) 16777216 = (((u + v) / 16777216 : Nat) : Int) := by
  rw [Int.tdiv_eq_ediv_of_nonneg (by omega)]
  rfl
theorem left_bounds {c y P : Nat} (h1 : c < P) (h2 : c + y < 16777216 * P) (h3 : P ≤ 8388608) : c ≤ 2305843009213693952 ∧ y ≤ 2305843009213693952 := by omega
theorem tmod_add (u v : Nat) : Int.tmod ((u : Int) + (v : Int)) 16777216 = (((u + v) % 16777216 : Nat) : Int) := by
  rw [Int.tmod_eq_emod_of_nonneg (by omega)]
  rfl

set_option maxRecDepth 100000 in
set_option maxHeartbeats 4000000 in
theorem sCut (s : Int) (a : Option Addr) (n c1 K0 : Nat) (w : World) (B : Nat) (hB : B ≤ w.heap.size) (hx : Ints w B a (lim n)) (hl : (lim n).length ≤ 1048576) (hk : K0 ≤ 1073741824) :
    Calls Tryd.prog 112 #[.agg #[.int .i64 s, .slice a (lim n).length c1], .int .i64 (K0 : Int)] w (RetN (sgnOf s (n / 2 ^ K0)) (n / 2 ^ K0) w) := by
  have HX := Lib.hid hx
  have hd : Int.tdiv (K0 : Int) 24 = ((K0 / 24 : Nat) : Int) := by simp [Int.tdiv_eq_ediv_of_nonneg]
  have hm : Int.tmod (K0 : Int) 24 = ((K0 % 24 : Nat) : Int) := by simp [Int.tmod_eq_emod_of_nonneg]
  have hr := Nat.mod_lt K0 (show 0 < 24 by omega)
  obtain ⟨q, hq⟩ : ∃ q, q = K0 / 24 := ⟨_, rfl⟩
  obtain ⟨r, hr'⟩ : ∃ r, r = K0 % 24 := ⟨_, rfl⟩
  have hcv := cut_total (n := n) hq hr'
  rw [← hq] at hd
  rw [← hr'] at hm hr
  obtain ⟨sN, hsN⟩ : ∃ sN, r + sN = 24 := ⟨24 - r, by omega⟩
  obtain ⟨lm, hlm⟩ : ∃ lm, lm = (dig n).length := ⟨_, rfl⟩
  have hll : (lim n).length = lm := by rw [lim_length, hlm]
  obtain ⟨C, hC⟩ : ∃ C, C = cutL r ((dig n).drop q) := ⟨_, rfl⟩
  have hcs := cutL_small r ((dig n).drop q)
  rw [← hC] at hcv hcs
  have hCl : C.length = lm - q := by rw [hC, cutL_length, List.length_drop, ← hlm]
  have HAT := Lib.hid (show ∀ (i : Nat) (h : i < C.length), C[i] = ((dig n).getD (q + i) 0 + 16777216 * (dig n).getD (q + i + 1) 0) / 2 ^ r % 16777216 from fun i h => by
    subst hC
    rw [cutL_at, getD_drop2, getD_drop2]
    rfl)
  rw [hll] at hl ⊢
  obtain ⟨W0, hW0⟩ : ∃ W0 : World, (w.alloc (.cells #[.int .i64 s, .slice a lm c1] 26)).alloc (.cells #[.int .i64 0, .slice none 0 0] 26) = W0 := ⟨_, rfl⟩
  obtain ⟨p0, p1, p8, p9⟩ := two_box w 26 #[.int .i64 s, .slice a lm c1] #[.int .i64 0, .slice none 0 0]
  rw [hW0] at p0 p1 p8 p9
  have HW0 := Lib.hid hW0
  have P3 := Lib.hid p8
  have P4 := Lib.hid p9
  have SS := Lib.hid (show ∀ W, Below W0.heap.size W0 W → (W.cell? ⟨w.heap.size, 0, none⟩ = some (.int .i64 s) ∧ W.cell? ⟨w.heap.size, 1, none⟩ = some (.slice a lm c1)) from fun W hW => ⟨(p0.below hW).cell 0, (p0.below hW).cell 1⟩)
  have SR := Lib.hid (show ∀ W, Below W0.heap.size W0 W → (W.cell? ⟨w.heap.size + 1, 0, none⟩ = some (.int .i64 0) ∧ W.cell? ⟨w.heap.size + 1, 1, none⟩ = some (.slice none 0 0) ∧ W.frozen? ⟨w.heap.size + 1, 0, none⟩ = false ∧ W.frozen? ⟨w.heap.size + 1, 1, none⟩ = false) from
    fun W hW => (p1.below hW).two)
  have IX := Lib.hid (show ∀ W, Below W0.heap.size W0 W → Ints W B a (lim n) from fun W hW => hx.below ((p8.mono hB).trans (hW.mono (by omega))))
  have HCV := Lib.hid hcv
  have HCS := Lib.hid hcs
  have HCL := Lib.hid hCl
  have HLM := Lib.hid hlm
  have HLL := Lib.hid hll
  have HSN := Lib.hid hsN
  have h24 : (24 : Int) - (r : Int) = (sN : Int) := by omega
  have hrI : (r : Int) ≤ 23 := by omega
  have hsI : (sN : Int) ≤ 24 := by omega
  have hqI : (q : Int) ≤ 44739243 := by omega
  have hlI : (lm : Int) ≤ 1048576 := by omega
  clear hx hl hcv hq hr' hr hC hCl hcs hlm hll p0 p1 p8 p9 hW0 hk hsN
  go_enter Tryd.func112, Tryd.ntmps112
  go_wp2
  rw [HW0.out]
  go_loopw [6, 5] (fun i v wr => ∃ k : Nat, k ≤ lm - q ∧ i = .int .i64 ((q : Int) + (k : Int)) ∧ OwnV wr W0.heap.size v (ofN (C.take k)) ∧ Below W0.heap.size W0 wr) (fun i _ _ => (lm - (intOf i)).toNat)
  case atStart => exact ⟨0, Nat.zero_le _, by first | rfl | (congr 1; omega) | simp, (by have h := OwnV.empty W0 W0.heap.size (Nat.le_refl _); have e := P4.out; simp only [e] at h ⊢; exact h), (Below.refl _ _).alloc (Nat.le_refl _) _⟩
  case round =>
    obtain ⟨k, hk, rfl, hown, hbel⟩ := hrel
    have OW := Lib.hid hown
    have HB := Lib.hid hbel
    have hsz : W0.heap.size ≤ wr.heap.size := hbel.size
    obtain ⟨k1, k2⟩ := SS.out _ hbel
    clear hown hbel
    by_cases hkn : q + k < lm
    · have hqk : q + k < (dig n).length := by have := HLM.out; omega
      obtain ⟨b, o, ha, hcB, hcell⟩ := IX.out wr HB.out (q + k) (by rw [HLL.out]; exact hkn)
      simp only [lim, ofN_at] at hcell
      have hkC : k < C.length := by have := HCL.out; omega
      have hat := HAT.out k hkC
      have hxb := small_dig n (q + k) hqk
      rw [getD_of_lt hqk] at hat
      have HTK := Lib.hid (show C.take (k + 1) = C.take k ++ [C[k]] from List.take_succ_eq_append_getElem hkC)
      obtain ⟨x, hxk⟩ : ∃ x : Nat, x = (dig n)[q + k] := ⟨_, rfl⟩
      rw [← hxk] at hcell hat hxb
      have hidx : ((q : Int) + (k : Int)).toNat = q + k := by omega
      have hidx0 : (q : Int) + (k : Int) < (lm : Int) := by omega
      have hlen := Lib.hid (show (ofN (C.take k)).length ≤ 8388606 from by rw [ofN_length, List.length_take]; have := HCL.out; omega)
      subst ha
      by_cases hn1 : q + k + 1 < lm
      · have hqk1 : q + k + 1 < (dig n).length := by have := HLM.out; omega
        obtain ⟨b', o', ha', hcB', hcell'⟩ := IX.out wr HB.out (q + k + 1) (by rw [HLL.out]; exact hn1)
        simp at ha'
        obtain ⟨rfl, rfl⟩ := ha'
        simp only [lim, ofN_at] at hcell'
        rw [getD_of_lt hqk1] at hat
        have hyb := small_dig n (q + k + 1) hqk1
        obtain ⟨y, hyk⟩ : ∃ y : Nat, y = (dig n)[q + k + 1] := ⟨_, rfl⟩
        rw [← hyk] at hcell' hat hyb
        obtain ⟨c1', c2'⟩ := cut_bounds hxb hyb HSN.out
        rw [← cut_parts HSN.out] at hat
        have hdv := cut_div x r
        have hyc : ((y : Int) * 2 ^ sN) = ((y * 2 ^ sN : Nat) : Int) := by simp
        obtain ⟨u, hu⟩ : ∃ u, u = x / 2 ^ r := ⟨_, rfl⟩
        obtain ⟨v2, hv2⟩ : ∃ v2, v2 = y * 2 ^ sN := ⟨_, rfl⟩
        rw [← hu] at hdv hat c1'
        rw [← hv2] at hyc hat c2'
        have hv63 := Nat.le_trans c2' (show 281474976710656 ≤ 9223372036854775807 by decide)
        have hw1 := wrap64_nat hyc hv63
        have hw2 := wrapI64_nat hyc hv63
        have hvI : (v2 : Int) ≤ 2305843009213693952 := Int.ofNat_le.2 (Nat.le_trans c2' (by decide))
        have huI2 : (u : Int) ≤ 2305843009213693952 := Int.ofNat_le.2 (Nat.le_trans c1' (by decide))
        have hmod := tmod_add u v2
        obtain ⟨z, hz⟩ : ∃ z, z = (u + v2) % 16777216 := ⟨_, rfl⟩
        rw [← hz] at hmod hat
        have HAK := Lib.hid hat
        have hidx2 : ((q : Int) + (k : Int) + 1).toNat = q + k + 1 := by omega
        have hidx3 : (q : Int) + (k : Int) + 1 < (lm : Int) := by omega
        have hxI : (x : Int) ≤ 9223372036854775807 := Int.ofNat_le.2 (Nat.le_trans (Nat.le_of_lt hxb) (by decide))
        have hyI : (y : Int) ≤ 9223372036854775807 := Int.ofNat_le.2 (Nat.le_trans (Nat.le_of_lt hyb) (by decide))
        have hzI : (z : Int) ≤ 9223372036854775807 := Int.ofNat_le.2 (Nat.le_trans (Nat.le_of_lt (by rw [hz]; exact Nat.mod_lt _ (by decide))) (show 16777216 ≤ 9223372036854775807 by decide))
        clear hyc hv63 hat hxb hyb hxk hyk hu hv2 hz c1' c2' hqk hqk1
        go_wp2_with (at_builtin; refine wp_app1 rfl _ _ 24 rfl Tryd.underlying24 wr (z : Int) (by simp) W0.heap.size _ (ofN (C.take k)) OW.out rfl rfl (by have := hlen.out; omega) (by omega) ?_; intro v' w' hown hb hs; have OW2 := Lib.hid hown; have HB2 := Lib.hid (hb W0.heap.size (by omega) (Nat.le_refl _)); clear hown hb)
        go_roundw
        case rel =>
          refine ⟨k + 1, by omega, by (first | (congr 1; omega) | (simp; omega)), ?_, HB.out.trans HB2.out⟩
          rw [HTK.out, HAK.out, ofN_append]
          exact OW2.out
        case measure => simp [intOf]; omega
      · rw [getD_of_ge (show (dig n).length ≤ q + k + 1 by have := HLM.out; omega), Nat.mul_zero, Nat.add_zero] at hat
        have hdv := cut_div x r
        have hub := Nat.div_le_self x (2 ^ r)
        obtain ⟨u, hu⟩ : ∃ u, u = x / 2 ^ r := ⟨_, rfl⟩
        rw [← hu] at hdv hat hub
        rw [Nat.mod_eq_of_lt (show u < 16777216 by omega)] at hat
        have HAK := Lib.hid hat
        have huI2 : (u : Int) ≤ 2305843009213693952 := Int.ofNat_le.2 (Nat.le_trans hub (Nat.le_trans (Nat.le_of_lt hxb) (by decide)))
        have hxI : (x : Int) ≤ 9223372036854775807 := Int.ofNat_le.2 (Nat.le_trans (Nat.le_of_lt hxb) (by decide))
        have hidx3 : decide ((q : Int) + (k : Int) + 1 < (lm : Int)) = false := decide_eq_false (by omega)
        clear hat hxb hxk hu hub hqk
        go_wp2_with (at_builtin; refine wp_app1 rfl _ _ 24 rfl Tryd.underlying24 wr (u : Int) (by simp) W0.heap.size _ (ofN (C.take k)) OW.out rfl rfl (by have := hlen.out; omega) (by omega) ?_; intro v' w' hown hb hs; have OW2 := Lib.hid hown; have HB2 := Lib.hid (hb W0.heap.size (by omega) (Nat.le_refl _)); clear hown hb)
        go_roundw
        case rel =>
          refine ⟨k + 1, by omega, by (first | (congr 1; omega) | (simp; omega)), ?_, HB.out.trans HB2.out⟩
          rw [HTK.out, HAK.out, ofN_append]
          exact OW2.out
        case measure => simp [intOf]; omega
    · have hCk : C.take k = C := List.take_of_length_le (by have := HCL.out; omega)
      obtain ⟨a', c', rfl, hc', _, ho⟩ := OW.out.parts
      rw [hCk] at ho hc'
      have hmk := sMake s a' C c' wr wr.heap.size (Nat.le_refl _) ho.ints HCS.out (by rw [ofN_length] at hc'; exact hc') (by rw [HCL.out]; omega)
      rw [HCV.out] at hmk
      have HMK := Lib.hid hmk
      have e2 : (ofN (C.take k)).length = C.length := by rw [hCk, ofN_length]
      have hge : decide ((q : Int) + (k : Int) < (lm : Int)) = false := decide_eq_false (by omega)
      obtain ⟨ul, hul⟩ : ∃ u, u = (ofN (C.take k)).length := ⟨_, rfl⟩
      rw [← hul] at e2 ⊢
      rw [← e2] at HMK
      clear ho hc' OW hmk hCk e2 hul hkn
      go_wp2_with fail
      refine HMK.out.mono ?_
      rintro e w1 ⟨a1, d1, rfl, hc1, ho1, hb1⟩
      obtain ⟨N, hN⟩ : ∃ N, N = n / 2 ^ K0 := ⟨_, rfl⟩
      rw [← hN] at hc1 ho1
      have HC1 := Lib.hid hc1
      have HO1 := Lib.hid ho1
      have HB1 := Lib.hid (HB.out.trans (hb1.mono HB.out.size))
      have hs1 := HB1.out.size
      obtain ⟨q1, q2, q3, q4⟩ := SR.out _ HB1.out
      have HN := Lib.hid hN
      have hlo : w.heap.size + 1 < wr.heap.size := by have := P4.out; omega
      clear hc1 ho1 hb1 k1 k2
      go_wp2_with fail
      rw [← HN.out]
      refine bodyPost_ret (v := .agg #[.int .i64 (sgnOf s N), .slice a1 (lim N).length d1]) (by simp [results, Tryd.results112, go_sem, *]) rfl ⟨a1, d1, rfl, HC1.out, ((HO1.out.setFar (by simp; omega) _).setFar (by simp; omega) _).mono (by omega), ((P3.out.trans (HB1.out.mono (by have := P4.out; omega))).setCell (by simp) _).setCell (by simp) _⟩
end Go.Proofs.YtfjfmlofhifkmaaDoor
