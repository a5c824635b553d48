/-
  Contract: shifts of magnitudes down. Conditions: the limbs can be read.
-/
import Derived.Test.YtfjfmlofhifkmaaDoorVf
namespace Go.Proofs.YtfjfmlofhifkmaaDoor
set_option linter.unusedVariables false
open Go Go.RowKit

theorem blen_le {n K : Nat} : blen n ≤ (K : Int) ↔ n < 2 ^ K := by
  by_cases h : n = 0
  · subst h
    have : 0 < 2 ^ K := Nat.pow_pos (by omega)
    simp [blen, this]
  have hp := dig_length_pos h
  obtain ⟨h1, h2⟩ := last_bounds h
  rw [blen_pos h]
  have hlast : (dig n).getD ((dig n).length - 1) 0 < 16777216 := getD_lt (small_dig n) _
  have hne : (dig n).getD ((dig n).length - 1) 0 ≠ 0 := by
    rw [getD_of_lt (by omega : (dig n).length - 1 < (dig n).length)]
    exact (norm_dig n).2 hp
  obtain ⟨b1, b2, b3⟩ := bit_bounds hlast hne
  generalize (dig n).getD ((dig n).length - 1) 0 = d at *
  obtain ⟨q, hq⟩ : ∃ q, q = Lib.bitLen d := ⟨_, rfl⟩
  rw [← hq] at b1 b2 b3 ⊢
  obtain ⟨l, hl⟩ : ∃ l, l = (dig n).length - 1 := ⟨_, rfl⟩
  rw [← hl] at h1 h2
  have e1 : (16777216 : Nat) ^ l = 2 ^ (24 * l) := by rw [Nat.pow_mul]
  rw [e1] at h1 h2
  have el : 24 * (((dig n).length : Int) - 1) + (q : Int) = ((24 * l + q : Nat) : Int) := by omega
  rw [el, Int.ofNat_le]
  constructor
  · intro hle
    have h3 : 2 ^ (24 * l) * (d + 1) ≤ 2 ^ (24 * l) * 2 ^ q := Nat.mul_le_mul_left _ b3
    rw [← Nat.pow_add] at h3
    have h4 : 2 ^ (24 * l + q) ≤ 2 ^ K := Nat.pow_le_pow_right (by omega) hle
    exact Nat.lt_of_lt_of_le h2 (Nat.le_trans h3 h4)
  · intro hlt
    apply Nat.le_of_not_lt
    intro hgt
    have h3 : 2 ^ (24 * l) * 2 ^ (q - 1) ≤ 2 ^ (24 * l) * d := Nat.mul_le_mul_left _ b2
    rw [← Nat.pow_add] at h3
    have h4 : 2 ^ K ≤ 2 ^ (24 * l + (q - 1)) := Nat.pow_le_pow_right (by omega) (by omega)
    exact absurd (Nat.lt_of_lt_of_le hlt (Nat.le_trans h4 (Nat.le_trans h3 h1))) (Nat.lt_irrefl _)
theorem cut_or (x y r : Nat) (hx : x < 16777216) (hy : y < 16777216) : bits .or .i64 (x : Int) ((y : Int) * 16777216) = ((x + 16777216 * y : Nat) : Int) := by
  have h := i64_or_sh x y 24 (by omega) (by omega)
  have e : ((y * 2 ^ 24 : Nat) : Int) = (y : Int) * 16777216 := by omega
  rw [e] at h
  rw [h]
  congr 1
  omega
theorem cut_div (t r : Nat) : (t : Int) / 2 ^ r = ((t / 2 ^ r : Nat) : Int) := by
  rw [show (2 : Int) ^ r = ((2 ^ r : Nat) : Int) by simp]
  generalize 2 ^ r = p
  exact (Int.natCast_ediv t p).symm

set_option maxRecDepth 100000 in
set_option maxHeartbeats 4000000 in
theorem iShiftedDown (a : Option Addr) (n c1 K0 : Nat) (w : World) (B : Nat) (hB : B ≤ w.heap.size) (hx : Ints w B a (lim n)) (hl : (lim n).length ≤ 1048576) (hk : K0 ≤ 1073741824) :
    Calls Tryd.prog 102 #[.slice a (lim n).length c1, .int .i64 (K0 : Int)] w (RetL (lim (n / 2 ^ K0)) w) := by
  have HL := Lib.hid (iMagLength a n c1 w B hx hl)
  obtain ⟨z, hz⟩ : ∃ z, z = blen n := ⟨_, rfl⟩
  have hble := blen_le (n := n) (K := K0)
  rw [← hz] at HL hble
  by_cases hge : z ≤ (K0 : Int)
  · have HE := Lib.hid (show RetL (lim (n / 2 ^ K0)) w (.returned (.slice none 0 0)) w from by
      rw [Nat.div_eq_of_lt (hble.1 hge), lim_zero]
      exact ⟨none, 0, rfl, Nat.le_refl _, Own.nil, Below.refl _ _⟩)
    clear hx hl hz hble hk hB
    go_enter Tryd.func102, Tryd.ntmps102
    go_wp2_with fail
    refine HL.out.mono ?_
    rintro e w' ⟨rfl, rfl⟩
    go_wp2_with fail
    go_ret
    exact HE.out
  · have hd0 : decide (z ≤ (K0 : Int)) = false := decide_eq_false hge
    have HX := Lib.hid hx
    have hd : Int.tdiv (K0 : Int) 24 = ((K0 / 24 : Nat) : Int) := by simp [Int.tdiv_eq_ediv_of_nonneg]
    have hm : Int.tmod (K0 : Int) 24 = ((K0 % 24 : Nat) : Int) := by simp [Int.tmod_eq_emod_of_nonneg]
    have hr := Nat.mod_lt K0 (show 0 < 24 by omega)
    have hqlt : K0 / 24 < (dig n).length := by
      apply Nat.lt_of_not_le
      intro hle
      have h1 := dig_lt n
      rw [two24] at h1
      have h2 : 2 ^ (24 * (dig n).length) ≤ 2 ^ K0 := Nat.pow_le_pow_right (by omega) (by omega)
      exact hge (hble.2 (Nat.lt_of_lt_of_le h1 h2))
    have hcv := cut_val (small_dig n) (k := K0) (by omega)
    rw [val_dig] at hcv
    have HCV := Lib.hid hcv
    have hcs := cutL_small (K0 % 24) ((dig n).drop (K0 / 24))
    obtain ⟨q, hq⟩ : ∃ q, q = K0 / 24 := ⟨_, rfl⟩
    obtain ⟨r, hr'⟩ : ∃ r, r = K0 % 24 := ⟨_, rfl⟩
    rw [← hq] at hd hqlt HCV hcs
    rw [← hr'] at hm hr HCV hcs
    obtain ⟨lm, hlm⟩ : ∃ lm, lm = (dig n).length := ⟨_, rfl⟩
    have hll : (lim n).length = lm := by rw [lim_length, hlm]
    rw [← hlm] at hqlt
    obtain ⟨C, hC⟩ : ∃ C, C = cutL r ((dig n).drop q) := ⟨_, rfl⟩
    rw [← hC] at HCV hcs
    have hCl : C.length = lm - q := by rw [hC, cutL_length, List.length_drop, ← hlm]
    have HAT := Lib.hid (show ∀ (i : Nat) (h : i < C.length), C[i] = ((dig n).getD (q + i) 0 + 16777216 * (dig n).getD (q + i + 1) 0) / 2 ^ r % 16777216 from fun i h => by
      subst hC
      rw [cutL_at, getD_drop2, getD_drop2]
      rfl)
    rw [hll] at HL hl ⊢
    have hmk := mk_mag (lm - q) (by omega)
    have e1 : (((lm - q : Nat)) : Int) = (lm : Int) - (q : Int) := by omega
    rw [e1] at hmk
    have HCS := Lib.hid hcs
    have HCL := Lib.hid hCl
    have HQL := Lib.hid hqlt
    have HLM := Lib.hid hlm
    have HLL := Lib.hid hll
    have hqI : (q : Int) < (lm : Int) := by omega
    have hlI : (lm : Int) ≤ 1048576 := by omega
    have hrI : (r : Int) ≤ 23 := by omega
    have hmask := i64_mask24
    clear hx hl hz hble hk hcv hq hr' hr hC hCl hcs hlm hll e1 hqlt hge
    go_enter Tryd.func102, Tryd.ntmps102
    go_wp2_with fail
    refine HL.out.mono ?_
    rintro e w' ⟨rfl, rfl⟩
    go_wp2
    clear hmk
    have HMK := Lib.hid (show RowI (w.alloc (.cells (madeCells #[.int .i64 0] (lm - q)) 2)) w.heap.size (part (ofN C) 0) from by
      rw [part_zero, ofN_length, HCL.out]
      exact RowI.made w _)
    go_loopw [24] (fun i wr => ∃ k : Nat, k ≤ lm - q ∧ i = .int .i64 (k : Int) ∧ RowI wr w.heap.size (part (ofN C) k) ∧ Below w.heap.size w wr) (fun i _ => lm - q - (intOf i).toNat)
    case atStart => exact ⟨0, Nat.zero_le _, rfl, HMK.out, (Below.refl _ _).alloc (Nat.le_refl _) _⟩
    case round =>
      obtain ⟨k, hk, rfl, hrow, hbel⟩ := hrel
      have HR := Lib.hid hrow
      have HB := Lib.hid hbel
      clear hrow hbel
      by_cases hkn : k < lm - q
      · have hqk : q + k < (dig n).length := by have := HLM.out; omega
        obtain ⟨b, o, ha, hcB, hcell⟩ := HX.out (q + k) (by rw [HLL.out]; omega)
        simp only [lim, ofN_at] at hcell
        have hat := HAT.out k (by rw [HCL.out]; exact hkn)
        have hg : (dig n).getD (q + k) 0 = (dig n)[q + k] := getD_of_lt hqk
        have hxb := small_dig n (q + k) hqk
        rw [hg] at hat
        obtain ⟨x, hxk⟩ : ∃ x : Nat, x = (dig n)[q + k] := ⟨_, rfl⟩
        rw [← hxk] at hcell hat hxb
        have hx1 : wr.cell? ⟨b, o + (q + k), none⟩ = some (.int .i64 x) := by rw [HB.out.cell (p := ⟨b, o + (q + k), none⟩) (by show b < _; omega)]; exact hcell
        have hkl : k < (part (ofN C) k).length := by rw [part_length _ _ (by rw [ofN_length, HCL.out]; exact hk), ofN_length, HCL.out]; exact hkn
        obtain ⟨u0, h2⟩ : ∃ u0, wr.cell? ⟨w.heap.size, k, none⟩ = some u0 := ⟨_, HR.out.cell k hkl⟩
        have h3 := HR.out.frozen k
        have HCK := Lib.hid (show k < (ofN C).length from by rw [ofN_length, HCL.out]; exact hkn)
        have HKL := Lib.hid hkl
        have hkI : (k : Int) < (lm : Int) - (q : Int) := by omega
        have hidx : ((q : Int) + (k : Int)).toNat = q + k := by omega
        have hidx1 : (q : Int) + (k : Int) < (lm : Int) := by omega
        have hbe : b < w.heap.size := by omega
        have hbne : b ≠ w.heap.size := by omega
        by_cases hn1 : q + k + 1 < lm
        · have hqk1 : q + k + 1 < (dig n).length := by have := HLM.out; omega
          obtain ⟨b', o', ha', hcB', hcell'⟩ := HX.out (q + k + 1) (by rw [HLL.out]; omega)
          subst ha
          simp at ha'
          obtain ⟨rfl, rfl⟩ := ha'
          simp only [lim, ofN_at] at hcell'
          rw [getD_of_lt hqk1] at hat
          have hyb := small_dig n (q + k + 1) hqk1
          obtain ⟨y, hyk⟩ : ∃ y : Nat, y = (dig n)[q + k + 1] := ⟨_, rfl⟩
          rw [← hyk] at hcell' hat hyb
          have hy1 : wr.cell? ⟨b, o + (q + k + 1), none⟩ = some (.int .i64 y) := by rw [HB.out.cell (p := ⟨b, o + (q + k + 1), none⟩) (by show b < _; omega)]; exact hcell'
          have hor := cut_or x y r hxb hyb
          obtain ⟨t, ht⟩ : ∃ t, t = x + 16777216 * y := ⟨_, rfl⟩
          have htb : t ≤ 9223372036854775807 := by omega
          rw [← ht] at hor hat
          have hdv := cut_div t r
          obtain ⟨u, hu⟩ : ∃ u, u = t / 2 ^ r := ⟨_, rfl⟩
          rw [← hu] at hdv hat
          have hub : u ≤ 9223372036854775807 := by rw [hu]; exact Nat.le_trans (Nat.div_le_self _ _) htb
          have hyw := wrap64_nat (z := (y : Int) * 16777216) (y := y * 16777216) (by omega) (by omega)
          have hyw2 := wrapI64_nat (z := (y : Int) * 16777216) (y := y * 16777216) (by omega) (by omega)
          rw [show ((y * 16777216 : Nat) : Int) = (y : Int) * 16777216 by omega] at hyw hyw2
          have hxI : (x : Int) ≤ 9223372036854775807 := by omega
          have hyI : (y : Int) ≤ 549755813887 := by omega
          have htI : (t : Int) ≤ 9223372036854775807 := by omega
          have huI : (u : Int) ≤ 9223372036854775807 := by omega
          have HAK := Lib.hid hat
          have hidx2 : ((q : Int) + (k : Int) + 1).toNat = q + k + 1 := by omega
          have hidx3 : (q : Int) + (k : Int) + 1 < (lm : Int) := by omega
          have hx2 : (wr.setCell ⟨w.heap.size, k, none⟩ (.int .i64 (x : Int))).cell? ⟨w.heap.size, k, none⟩ = some (.int .i64 (x : Int)) := World.cell?_setCell_same _ _ _ h2
          have hy2 : (wr.setCell ⟨w.heap.size, k, none⟩ (.int .i64 (x : Int))).cell? ⟨b, o + (q + k + 1), none⟩ = some (.int .i64 (y : Int)) := by rw [World.cell?_setCell_far _ _ _ _ (by simpa using hbne.symm)]; exact hy1
          have hf2 : (wr.setCell ⟨w.heap.size, k, none⟩ (.int .i64 (x : Int))).frozen? ⟨w.heap.size, k, none⟩ = false := by simp [h3]
          have HRW := Lib.hid (show ∀ c1 c2 : Int, RowI (((wr.setCell ⟨w.heap.size, k, none⟩ (.int .i64 (x : Int))).setCell ⟨w.heap.size, k, none⟩ (.int .i64 c1)).setCell ⟨w.heap.size, k, none⟩ (.int .i64 c2)) w.heap.size ((part (ofN C) k).set k c2) from fun d1 d2 => by
            have e := ((HR.out.set_ k HKL.out (x : Int)).set_ k (by rw [List.length_set]; exact HKL.out) d1).set_ k (by rw [List.length_set, List.length_set]; exact HKL.out) d2
            rwa [List.set_set, List.set_set] at e)
          have HBW := Lib.hid (show ∀ c1 c2 : Int, Below w.heap.size w (((wr.setCell ⟨w.heap.size, k, none⟩ (.int .i64 (x : Int))).setCell ⟨w.heap.size, k, none⟩ (.int .i64 c1)).setCell ⟨w.heap.size, k, none⟩ (.int .i64 c2)) from fun d1 d2 => ((HB.out.setCell (Nat.le_refl _) _).setCell (Nat.le_refl _) _).setCell (Nat.le_refl _) _)
          clear hcell hcell' hxk hyk hxb hyb ht hu hat hkl hg hqk hqk1 hub htb
          go_wp2
          generalize (wr.setCell ⟨w.heap.size, k, none⟩ (.int .i64 (x : Int))) = W1 at hx2 hy2 hf2 HRW HBW ⊢
          clear h2 h3 hx1 hy1 hidx hidx1
          go_region
          go_wp2
          go_roundw
          case rel =>
            have e := HRW.out (t : Int) ((u % 16777216 : Nat) : Int)
            have e2 := HBW.out (t : Int) ((u % 16777216 : Nat) : Int)
            rw [Int.natCast_emod] at e e2
            refine ⟨k + 1, by omega, by go_num, ?_, e2.drew⟩
            have hc : (ofN C)[k]'HCK.out = (u : Int) % 16777216 := by rw [ofN_at, HAK.out, Int.natCast_emod]; rfl
            rw [← part_set _ _ HCK.out, hc]
            exact e
          case measure => simp [intOf]; omega
        · have hat0 := hat
          rw [getD_of_ge (show (dig n).length ≤ q + k + 1 by have := HLM.out; omega), Nat.mul_zero, Nat.add_zero] at hat0
          subst ha
          have hdv := cut_div x r
          obtain ⟨u, hu⟩ : ∃ u, u = x / 2 ^ r := ⟨_, rfl⟩
          rw [← hu] at hdv hat0
          have hub : u ≤ 9223372036854775807 := by rw [hu]; exact Nat.le_trans (Nat.div_le_self _ _) (by omega)
          have hxI : (x : Int) ≤ 9223372036854775807 := by omega
          have huI : (u : Int) ≤ 9223372036854775807 := by omega
          have HAK := Lib.hid hat0
          have hidx3 : decide ((q : Int) + (k : Int) + 1 < (lm : Int)) = false := decide_eq_false (by omega)
          have hx2 : (wr.setCell ⟨w.heap.size, k, none⟩ (.int .i64 (x : Int))).cell? ⟨w.heap.size, k, none⟩ = some (.int .i64 (x : Int)) := World.cell?_setCell_same _ _ _ h2
          have HRW := Lib.hid (show ∀ c2 : Int, RowI ((wr.setCell ⟨w.heap.size, k, none⟩ (.int .i64 (x : Int))).setCell ⟨w.heap.size, k, none⟩ (.int .i64 c2)) w.heap.size ((part (ofN C) k).set k c2) from fun d2 => by
            have e := (HR.out.set_ k HKL.out (x : Int)).set_ k (by rw [List.length_set]; exact HKL.out) d2
            rwa [List.set_set] at e)
          have HBW := Lib.hid (show ∀ c2 : Int, Below w.heap.size w ((wr.setCell ⟨w.heap.size, k, none⟩ (.int .i64 (x : Int))).setCell ⟨w.heap.size, k, none⟩ (.int .i64 c2)) from fun d2 => (HB.out.setCell (Nat.le_refl _) _).setCell (Nat.le_refl _) _)
          clear hcell hxk hxb hu hat hat0 hkl hg hqk hub
          go_wp2
          go_roundw
          case rel =>
            have e := HRW.out ((u % 16777216 : Nat) : Int)
            have e2 := HBW.out ((u % 16777216 : Nat) : Int)
            rw [Int.natCast_emod] at e e2
            refine ⟨k + 1, by omega, by go_num, ?_, e2⟩
            have hc : (ofN C)[k]'HCK.out = (u : Int) % 16777216 := by rw [ofN_at, HAK.out, Int.natCast_emod]; rfl
            rw [← part_set _ _ HCK.out, hc]
            exact e
          case measure => simp [intOf]; omega
      · obtain rfl : k = lm - q := by omega
        have hrow2 : RowI wr w.heap.size (ofN C) := by
          have := HR.out
          rwa [show lm - q = (ofN C).length by rw [ofN_length, HCL.out], part_all] at this
        have hTr := iTrimmed (some ⟨w.heap.size, 0, none⟩) C (lm - q) _ _ hrow2.ints HCS.out (by rw [HCL.out]; exact Nat.le_refl _) (by omega)
        have hle := dig_length_val_le HCS.out
        have hend : RetL (lim (n / 2 ^ K0)) w (.returned (.slice (some ⟨w.heap.size, 0, none⟩) (dig (val C)).length (lm - q))) wr := by
          rw [← HCV.out]
          refine ⟨_, _, by rw [lim_length (val C)], by rw [lim_length, ← HCL.out]; exact hle, Own.row ?_ (Nat.le_refl _), HB.out⟩
          have := hrow2.take (dig (val C)).length
          rwa [ofN_take, take_dig_len HCS.out] at this
        rw [HCL.out] at hTr
        obtain ⟨ul, hul⟩ : ∃ u, u = (dig (val C)).length := ⟨_, rfl⟩
        rw [← hul] at hTr hend
        have HTR := Lib.hid hTr
        have HEND := Lib.hid hend
        clear hTr hend hrow2 hle hul
        go_wp2_with fail
        refine HTR.out.mono ?_
        rintro e w' ⟨rfl, rfl⟩
        go_wp2_with fail
        go_ret
        exact HEND.out
end Go.Proofs.YtfjfmlofhifkmaaDoor
