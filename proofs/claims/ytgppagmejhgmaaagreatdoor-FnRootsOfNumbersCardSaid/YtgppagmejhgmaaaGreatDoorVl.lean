/-
  Contracts: shifts of magnitudes. Conditions: the limbs can be read. Contract: shifts of magnitudes down. Conditions: the limbs can be read. Contract of the model: whole numbers without their last bits. Conditions: the limbs can be read. Contract of the model: products of whole numbers with powers of 2. Conditions: the limbs can be read.
-/
import Derived.Test.YtgppagmejhgmaaaGreatDoorVe
import Derived.Test.YtgppagmejhgmaaaGreatDoorOd
import Derived.Test.YtgppagmejhgmaaaGreatDoorUe
import Derived.Test.YtgppagmejhgmaaaGreatDoorTf
import Derived.Deep.AppendLies
import Derived.Deep.RegionHeldLaw
namespace Go.Proofs.YtgppagmejhgmaaaGreatDoor
set_option linter.unusedVariables false
open Go Go.RowKit

theorem i64_or_sh (c x r : Nat) (hc : c < 2 ^ r) (hb : c + x * 2 ^ r < 9223372036854775808) : bits .or .i64 (c : Int) ((x * 2 ^ r : Nat) : Int) = ((c + x * 2 ^ r : Nat) : Int) := by
  rw [i64_or_nat c (x * 2 ^ r) (by omega) (by omega)]
  have := Nat.shiftLeft_add_eq_or_of_lt hc x
  rw [Nat.shiftLeft_eq, Nat.or_comm] at this
  rw [← this, Nat.add_comm]

theorem up_bounds {c y t P : Nat} (h1 : c < P) (h2 : t < 16777216 * P) (h3 : P ≤ 8388608) (h4 : t = c + y) : c ≤ 9223372036854775807 ∧ y ≤ 9223372036854775807 ∧ t ≤ 9223372036854775807 := by omega
theorem wrap64_nat {z : Int} {y : Nat} (e : z = (y : Int)) (h : y ≤ 9223372036854775807) : wrap64 z = (y : Int) := by subst e; unfold wrap64; omega
theorem wrapI64_nat {z : Int} {y : Nat} (e : z = (y : Int)) (h : y ≤ 9223372036854775807) : IntKind.i64.wrap z = (y : Int) := by subst e; rw [IntKind.wrap_i64]; omega

set_option maxRecDepth 100000 in
set_option maxHeartbeats 2000000 in
theorem iShiftedUp (a : Option Addr) (n c1 K0 : Nat) (w : World) (B : Nat) (hB : B ≤ w.heap.size) (hx : Ints w B a (lim n)) (hl : (lim n).length ≤ 1048576) (hk : K0 ≤ 1073741824) :
    Calls Tryz.prog 116 #[.slice a (lim n).length c1, .int .i64 (K0 : Int)] w (RetL (lim (n * 2 ^ K0)) w) := by
  by_cases h0 : n = 0
  · have hz : (lim n).length = 0 := lim_len_zero.2 h0
    rw [hz]
    have HE := Lib.hid (show RetL (lim (n * 2 ^ K0)) w (.returned (.slice none 0 0)) w from by
      subst h0
      rw [Nat.zero_mul, lim_zero]
      exact ⟨none, 0, rfl, Nat.le_refl _, Own.nil, Below.refl _ _⟩)
    clear hx hl hz h0
    go_enter Tryz.func116, Tryz.ntmps116
    go_wp2
    go_ret
    exact HE.out
  · have HX := Lib.hid hx
    have HLL := Lib.hid (lim_length n)
    have hd : Int.tdiv (K0 : Int) 24 = ((K0 / 24 : Nat) : Int) := by simp [Int.tdiv_eq_ediv_of_nonneg]
    have hm : Int.tmod (K0 : Int) 24 = ((K0 % 24 : Nat) : Int) := by simp [Int.tmod_eq_emod_of_nonneg]
    have hr := Nat.mod_lt K0 (show 0 < 24 by omega)
    have hpow := Lib.hid (up_pow n K0)
    have hne : (((lim n).length : Int) == 0) = false := by
      have := (not_congr (@lim_len_zero n)).2 h0
      simpa using this
    obtain ⟨q, hq⟩ : ∃ q, q = K0 / 24 := ⟨_, rfl⟩
    obtain ⟨r, hr'⟩ : ∃ r, r = K0 % 24 := ⟨_, rfl⟩
    rw [← hq] at hd hpow
    rw [← hr'] at hm hr hpow
    have hqb : q ≤ 44739243 := by omega
    have hmk := mk_mag (q + (lim n).length + 1) (by omega)
    have e1 : (((q + (lim n).length + 1 : Nat) : Int)) = (q : Int) + ((lim n).length : Int) + 1 := by omega
    rw [e1] at hmk
    have hqI : (q : Int) ≤ 44739243 := by omega
    have hrI : (r : Int) ≤ 23 := by omega
    have hl2 : ((lim n).length : Int) ≤ 1048576 := by omega
    have hmask := i64_mask24
    have HR24 := Lib.hid hr
    have HMK := Lib.hid (show RowI (w.alloc (.cells (madeCells #[.int .i64 0] (q + (lim n).length + 1)) 2)) w.heap.size (ofN (upL q ((lim n).length + 1) [])) from by
      rw [upL_start, ofN_zeros]
      exact RowI.made w _)
    clear hx hl hk hq hr' hr h0 hqb
    go_enter Tryz.func116, Tryz.ntmps116
    go_wp2
    clear hmk
    go_loopw [26, 8] (fun i v wr => ∃ (k : Nat) (U : List Nat) (c : Nat), k ≤ (lim n).length ∧ i = .int .i64 (k : Int) ∧ v = .int .i64 (c : Int) ∧ Hid (UpInv (dig n) U r c k) ∧ RowI wr w.heap.size (ofN (upL q ((lim n).length + 1) U)) ∧ Below w.heap.size w wr) (fun i _ _ => (lim n).length - (intOf i).toNat)
    case atStart => exact ⟨0, [], 0, Nat.zero_le _, rfl, rfl, upInv_start (dig n) r, HMK.out, (Below.refl _ _).alloc (Nat.le_refl _) _⟩
    case round =>
      obtain ⟨k, U, c, hk, rfl, rfl, hinv, hrow, hbel⟩ := hrel
      have HR := Lib.hid hrow
      have HB := Lib.hid hbel
      have hlenU := hinv.out.len
      have hcb := hinv.out.c
      have hp23 : 2 ^ r ≤ 8388608 := Nat.le_trans (Nat.pow_le_pow_right (by omega) (show r ≤ 23 by have := HR24.out; omega)) (by decide)
      clear hrow hbel
      by_cases hkn : k < (lim n).length
      · have hkd : k < (dig n).length := by rw [← HLL.out]; exact hkn
        obtain ⟨b, o, ha, hcB, hcell⟩ := HX.out k hkn
        simp only [lim, ofN_at] at hcell
        subst ha
        have hst := upInv_step hinv.out (small_dig n) hkd
        obtain ⟨x, hxk⟩ : ∃ x : Nat, x = (dig n)[k] := ⟨_, rfl⟩
        rw [← hxk] at hcell hst
        obtain ⟨hst1, hst2⟩ := hst
        have hx1 : wr.cell? ⟨b, o + k, none⟩ = some (.int .i64 x) := by rw [HB.out.cell (p := ⟨b, o + k, none⟩) (by show b < _; omega)]; exact hcell
        have hor := i64_or_sh c x r hcb (Nat.lt_of_lt_of_le hst2 (Nat.le_trans (Nat.mul_le_mul_left _ hp23) (by decide)))
        obtain ⟨y, hy⟩ : ∃ y, y = x * 2 ^ r := ⟨_, rfl⟩
        rw [← hy] at hor hst1 hst2
        have hyc : ((x : Int) * 2 ^ r) = (y : Int) := by rw [hy]; simp
        obtain ⟨t, ht⟩ : ∃ t, t = c + y := ⟨_, rfl⟩
        rw [← ht] at hor hst1 hst2
        have hbd := up_bounds hcb hst2 hp23 ht
        have hyb : y ≤ 9223372036854775807 := hbd.2.1
        have hw1 := wrap64_nat hyc hyb
        have hw2 := wrapI64_nat hyc hyb
        have HST := Lib.hid hst1
        have hkI : (k : Int) < ((lim n).length : Int) := by omega
        have hqk : (q : Int) + (k : Int) < (q : Int) + ((lim n).length : Int) + 1 := by omega
        have hqk2 : ((q : Int) + (k : Int)).toNat = q + k := by omega
        have hUl : (ofN (upL q ((lim n).length + 1) U)).length = q + ((lim n).length + 1) := by rw [ofN_length, upL_length (by omega)]
        have hUl2 : q + k < (ofN (upL q ((lim n).length + 1) U)).length := by rw [hUl]; omega
        obtain ⟨u0, h2⟩ : ∃ u0, wr.cell? ⟨w.heap.size, q + k, none⟩ = some u0 := ⟨_, HR.out.cell (q + k) hUl2⟩
        have h3 := HR.out.frozen (q + k)
        have HU := Lib.hid (show ∀ v : Nat, RowI (wr.setCell ⟨w.heap.size, q + k, none⟩ (.int .i64 (v : Int))) w.heap.size (ofN (upL q ((lim n).length + 1) (U ++ [v]))) from fun v => by
          have h := HR.out.set_ (q + k) hUl2 (v : Int)
          rw [ofN_set, ← hlenU, upL_set v (by omega)] at h
          rwa [← hlenU])
        have hcI : (c : Int) ≤ 9223372036854775807 := Int.ofNat_le.2 hbd.1
        have htI : (t : Int) ≤ 9223372036854775807 := Int.ofNat_le.2 hbd.2.2
        have HK := Lib.hid hk
        clear hst1 hst2 hcell hxk hcb hp23 hyc hy ht hlenU hkd hinv hbd hyb
        go_wp2
        go_roundw
        case rel =>
          have e := HU.out (t % 16777216)
          rw [Int.natCast_emod] at e
          exact ⟨k + 1, _, t / 16777216, by have := HK.out; omega, by go_num, by rw [Int.natCast_ediv]; rfl, HST, e, HB.out.setCell (Nat.le_refl _) _⟩
        case measure => simp [intOf]; omega
      · obtain rfl : k = (lim n).length := by omega
        have hI : UpInv (dig n) U r c (dig n).length := by rw [← HLL.out]; exact hinv.out
        obtain ⟨d1, d2⟩ := upInv_done hI HR24.out
        rw [val_dig] at d2
        have hUl : (ofN (upL q ((lim n).length + 1) U)).length = q + ((lim n).length + 1) := by rw [ofN_length, upL_length (by omega)]
        have hUl2 : q + (lim n).length < (ofN (upL q ((lim n).length + 1) U)).length := by rw [hUl]; omega
        obtain ⟨u0, h2⟩ : ∃ u0, wr.cell? ⟨w.heap.size, q + (lim n).length, none⟩ = some u0 := ⟨_, HR.out.cell _ hUl2⟩
        have h3 := HR.out.frozen (q + (lim n).length)
        have hrow2 : RowI (wr.setCell ⟨w.heap.size, q + (lim n).length, none⟩ (.int .i64 (c : Int))) w.heap.size (ofN (upL q ((lim n).length + 1) (U ++ [c]))) := by
          have h := HR.out.set_ (q + (lim n).length) hUl2 (c : Int)
          rw [ofN_set] at h
          have e := upL_set (q := q) (m := (lim n).length + 1) (U := U) c (by omega)
          rw [hlenU] at e
          rwa [e] at h
        have eL : upL q ((lim n).length + 1) (U ++ [c]) = List.replicate q 0 ++ (U ++ [c]) := upL_done (by simp [hlenU])
        have hLl : (upL q ((lim n).length + 1) (U ++ [c])).length = q + (lim n).length + 1 := by rw [upL_length (by simp [hlenU])]; omega
        have hLs : Small (upL q ((lim n).length + 1) (U ++ [c])) := upL_small d1
        have hLv : val (upL q ((lim n).length + 1) (U ++ [c])) = n * 2 ^ K0 := by rw [eL, val_up, d2]; exact hpow.out
        obtain ⟨L, hL⟩ : ∃ L, L = upL q ((lim n).length + 1) (U ++ [c]) := ⟨_, rfl⟩
        rw [← hL] at hrow2 hLl hLs hLv
        have hTr := iTrimmed (some ⟨w.heap.size, 0, none⟩) L (q + (lim n).length + 1) _ _ hrow2.ints hLs (by rw [hLl]; exact Nat.le_refl _) (by omega)
        have hle := dig_length_val_le hLs
        have hend : RetL (lim (n * 2 ^ K0)) w (.returned (.slice (some ⟨w.heap.size, 0, none⟩) (dig (val L)).length (q + (lim n).length + 1))) (wr.setCell ⟨w.heap.size, q + (lim n).length, none⟩ (.int .i64 (c : Int))) := by
          rw [← hLv]
          refine ⟨_, _, by rw [lim_length (val L)], by rw [lim_length, ← hLl]; exact hle, Own.row ?_ (Nat.le_refl _), HB.out.setCell (Nat.le_refl _) _⟩
          have := hrow2.take (dig (val L)).length
          rwa [ofN_take, take_dig_len hLs] at this
        rw [hLl] at hTr
        obtain ⟨ul, hul⟩ : ∃ u, u = (dig (val L)).length := ⟨_, rfl⟩
        rw [← hul] at hTr hend
        have HTR := Lib.hid hTr
        have HEND := Lib.hid hend
        have hqk : (q : Int) + ((lim n).length : Int) < (q : Int) + ((lim n).length : Int) + 1 := by omega
        have hqk2 : ((q : Int) + ((lim n).length : Int)).toNat = q + (lim n).length := by omega
        have hcI : (c : Int) ≤ 9223372036854775807 := by have := Nat.lt_of_lt_of_le hcb hp23; omega
        clear hTr hend hinv hI d1 d2 hUl hUl2 hrow2 eL hLl hLs hLv hL hle hul hcb hp23 hlenU
        go_wp2_with fail
        refine HTR.out.mono ?_
        rintro e w' ⟨rfl, rfl⟩
        go_wp2_with fail
        go_ret
        exact HEND.out

theorem blen_le {n K : Nat} : blen n ≤ (K : Int) ↔ n < 2 ^ K := by
  by_cases h : n = 0
  · subst h
    have : 0 < 2 ^ K := Nat.pow_pos (by omega)
    simp [blen, this]
  have hp := dig_length_pos h
  obtain ⟨h1, h2⟩ := last_bounds h
  rw [blen_pos h]
  have hlast : (dig n).getD ((dig n).length - 1) 0 < 16777216 := getD_lt (small_dig n) _
  have hne : (dig n).getD ((dig n).length - 1) 0 ≠ 0 := by
    rw [getD_of_lt (by omega : (dig n).length - 1 < (dig n).length)]
    exact (norm_dig n).2 hp
  obtain ⟨b1, b2, b3⟩ := bit_bounds hlast hne
  generalize (dig n).getD ((dig n).length - 1) 0 = d at *
  obtain ⟨q, hq⟩ : ∃ q, q = Lib.bitLen d := ⟨_, rfl⟩
  rw [← hq] at b1 b2 b3 ⊢
  obtain ⟨l, hl⟩ : ∃ l, l = (dig n).length - 1 := ⟨_, rfl⟩
  rw [← hl] at h1 h2
  have e1 : (16777216 : Nat) ^ l = 2 ^ (24 * l) := by rw [Nat.pow_mul]
  rw [e1] at h1 h2
  have el : 24 * (((dig n).length : Int) - 1) + (q : Int) = ((24 * l + q : Nat) : Int) := by omega
  rw [el, Int.ofNat_le]
  constructor
  · intro hle
    have h3 : 2 ^ (24 * l) * (d + 1) ≤ 2 ^ (24 * l) * 2 ^ q := Nat.mul_le_mul_left _ b3
    rw [← Nat.pow_add] at h3
    have h4 : 2 ^ (24 * l + q) ≤ 2 ^ K := Nat.pow_le_pow_right (by omega) hle
    exact Nat.lt_of_lt_of_le h2 (Nat.le_trans h3 h4)
  · intro hlt
    apply Nat.le_of_not_lt
    intro hgt
    have h3 : 2 ^ (24 * l) * 2 ^ (q - 1) ≤ 2 ^ (24 * l) * d := Nat.mul_le_mul_left _ b2
    rw [← Nat.pow_add] at h3
    have h4 : 2 ^ K ≤ 2 ^ (24 * l + (q - 1)) := Nat.pow_le_pow_right (by omega) (by omega)
    exact absurd (Nat.lt_of_lt_of_le hlt (Nat.le_trans h4 (Nat.le_trans h3 h1))) (Nat.lt_irrefl _)
theorem cut_or (x y r : Nat) (hx : x < 16777216) (hy : y < 16777216) : bits .or .i64 (x : Int) ((y : Int) * 16777216) = ((x + 16777216 * y : Nat) : Int) := by
  have h := i64_or_sh x y 24 (by omega) (by omega)
  have e : ((y * 2 ^ 24 : Nat) : Int) = (y : Int) * 16777216 := by omega
  rw [e] at h
  rw [h]
  congr 1
  omega
theorem cut_div (t r : Nat) : (t : Int) / 2 ^ r = ((t / 2 ^ r : Nat) : Int) := by
  rw [show (2 : Int) ^ r = ((2 ^ r : Nat) : Int) by simp]
  generalize 2 ^ r = p
  exact (Int.natCast_ediv t p).symm

set_option maxRecDepth 100000 in
set_option maxHeartbeats 4000000 in
theorem iShiftedDown (a : Option Addr) (n c1 K0 : Nat) (w : World) (B : Nat) (hB : B ≤ w.heap.size) (hx : Ints w B a (lim n)) (hl : (lim n).length ≤ 1048576) (hk : K0 ≤ 1073741824) :
    Calls Tryz.prog 117 #[.slice a (lim n).length c1, .int .i64 (K0 : Int)] w (RetL (lim (n / 2 ^ K0)) w) := by
  have HL := Lib.hid (iMagLength a n c1 w B hx hl)
  obtain ⟨z, hz⟩ : ∃ z, z = blen n := ⟨_, rfl⟩
  have hble := blen_le (n := n) (K := K0)
  rw [← hz] at HL hble
  by_cases hge : z ≤ (K0 : Int)
  · have HE := Lib.hid (show RetL (lim (n / 2 ^ K0)) w (.returned (.slice none 0 0)) w from by
      rw [Nat.div_eq_of_lt (hble.1 hge), lim_zero]
      exact ⟨none, 0, rfl, Nat.le_refl _, Own.nil, Below.refl _ _⟩)
    clear hx hl hz hble hk hB
    go_enter Tryz.func117, Tryz.ntmps117
    go_wp2_with fail
    refine HL.out.mono ?_
    rintro e w' ⟨rfl, rfl⟩
    go_wp2_with fail
    go_ret
    exact HE.out
  · have hd0 : decide (z ≤ (K0 : Int)) = false := decide_eq_false hge
    have HX := Lib.hid hx
    have hd : Int.tdiv (K0 : Int) 24 = ((K0 / 24 : Nat) : Int) := by simp [Int.tdiv_eq_ediv_of_nonneg]
    have hm : Int.tmod (K0 : Int) 24 = ((K0 % 24 : Nat) : Int) := by simp [Int.tmod_eq_emod_of_nonneg]
    have hr := Nat.mod_lt K0 (show 0 < 24 by omega)
    have hqlt : K0 / 24 < (dig n).length := by
      apply Nat.lt_of_not_le
      intro hle
      have h1 := dig_lt n
      rw [two24] at h1
      have h2 : 2 ^ (24 * (dig n).length) ≤ 2 ^ K0 := Nat.pow_le_pow_right (by omega) (by omega)
      exact hge (hble.2 (Nat.lt_of_lt_of_le h1 h2))
    have hcv := cut_val (small_dig n) (k := K0) (by omega)
    rw [val_dig] at hcv
    have HCV := Lib.hid hcv
    have hcs := cutL_small (K0 % 24) ((dig n).drop (K0 / 24))
    obtain ⟨q, hq⟩ : ∃ q, q = K0 / 24 := ⟨_, rfl⟩
    obtain ⟨r, hr'⟩ : ∃ r, r = K0 % 24 := ⟨_, rfl⟩
    rw [← hq] at hd hqlt HCV hcs
    rw [← hr'] at hm hr HCV hcs
    obtain ⟨lm, hlm⟩ : ∃ lm, lm = (dig n).length := ⟨_, rfl⟩
    have hll : (lim n).length = lm := by rw [lim_length, hlm]
    rw [← hlm] at hqlt
    obtain ⟨C, hC⟩ : ∃ C, C = cutL r ((dig n).drop q) := ⟨_, rfl⟩
    rw [← hC] at HCV hcs
    have hCl : C.length = lm - q := by rw [hC, cutL_length, List.length_drop, ← hlm]
    have HAT := Lib.hid (show ∀ (i : Nat) (h : i < C.length), C[i] = ((dig n).getD (q + i) 0 + 16777216 * (dig n).getD (q + i + 1) 0) / 2 ^ r % 16777216 from fun i h => by
      subst hC
      rw [cutL_at, getD_drop2, getD_drop2]
      rfl)
    rw [hll] at HL hl ⊢
    have hmk := mk_mag (lm - q) (by omega)
    have e1 : (((lm - q : Nat)) : Int) = (lm : Int) - (q : Int) := by omega
    rw [e1] at hmk
    have HCS := Lib.hid hcs
    have HCL := Lib.hid hCl
    have HQL := Lib.hid hqlt
    have HLM := Lib.hid hlm
    have HLL := Lib.hid hll
    have hqI : (q : Int) < (lm : Int) := by omega
    have hlI : (lm : Int) ≤ 1048576 := by omega
    have hrI : (r : Int) ≤ 23 := by omega
    have hmask := i64_mask24
    clear hx hl hz hble hk hcv hq hr' hr hC hCl hcs hlm hll e1 hqlt hge
    go_enter Tryz.func117, Tryz.ntmps117
    go_wp2_with fail
    refine HL.out.mono ?_
    rintro e w' ⟨rfl, rfl⟩
    go_wp2
    clear hmk
    have HMK := Lib.hid (show RowI (w.alloc (.cells (madeCells #[.int .i64 0] (lm - q)) 2)) w.heap.size (part (ofN C) 0) from by
      rw [part_zero, ofN_length, HCL.out]
      exact RowI.made w _)
    go_loopw [24] (fun i wr => ∃ k : Nat, k ≤ lm - q ∧ i = .int .i64 (k : Int) ∧ RowI wr w.heap.size (part (ofN C) k) ∧ Below w.heap.size w wr) (fun i _ => lm - q - (intOf i).toNat)
    case atStart => exact ⟨0, Nat.zero_le _, rfl, HMK.out, (Below.refl _ _).alloc (Nat.le_refl _) _⟩
    case round =>
      obtain ⟨k, hk, rfl, hrow, hbel⟩ := hrel
      have HR := Lib.hid hrow
      have HB := Lib.hid hbel
      clear hrow hbel
      by_cases hkn : k < lm - q
      · have hqk : q + k < (dig n).length := by have := HLM.out; omega
        obtain ⟨b, o, ha, hcB, hcell⟩ := HX.out (q + k) (by rw [HLL.out]; omega)
        simp only [lim, ofN_at] at hcell
        have hat := HAT.out k (by rw [HCL.out]; exact hkn)
        have hg : (dig n).getD (q + k) 0 = (dig n)[q + k] := getD_of_lt hqk
        have hxb := small_dig n (q + k) hqk
        rw [hg] at hat
        obtain ⟨x, hxk⟩ : ∃ x : Nat, x = (dig n)[q + k] := ⟨_, rfl⟩
        rw [← hxk] at hcell hat hxb
        have hx1 : wr.cell? ⟨b, o + (q + k), none⟩ = some (.int .i64 x) := by rw [HB.out.cell (p := ⟨b, o + (q + k), none⟩) (by show b < _; omega)]; exact hcell
        have hkl : k < (part (ofN C) k).length := by rw [part_length _ _ (by rw [ofN_length, HCL.out]; exact hk), ofN_length, HCL.out]; exact hkn
        obtain ⟨u0, h2⟩ : ∃ u0, wr.cell? ⟨w.heap.size, k, none⟩ = some u0 := ⟨_, HR.out.cell k hkl⟩
        have h3 := HR.out.frozen k
        have HCK := Lib.hid (show k < (ofN C).length from by rw [ofN_length, HCL.out]; exact hkn)
        have HKL := Lib.hid hkl
        have hkI : (k : Int) < (lm : Int) - (q : Int) := by omega
        have hidx : ((q : Int) + (k : Int)).toNat = q + k := by omega
        have hidx1 : (q : Int) + (k : Int) < (lm : Int) := by omega
        have hbe : b < w.heap.size := by omega
        have hbne : b ≠ w.heap.size := by omega
        by_cases hn1 : q + k + 1 < lm
        · have hqk1 : q + k + 1 < (dig n).length := by have := HLM.out; omega
          obtain ⟨b', o', ha', hcB', hcell'⟩ := HX.out (q + k + 1) (by rw [HLL.out]; omega)
          subst ha
          simp at ha'
          obtain ⟨rfl, rfl⟩ := ha'
          simp only [lim, ofN_at] at hcell'
          rw [getD_of_lt hqk1] at hat
          have hyb := small_dig n (q + k + 1) hqk1
          obtain ⟨y, hyk⟩ : ∃ y : Nat, y = (dig n)[q + k + 1] := ⟨_, rfl⟩
          rw [← hyk] at hcell' hat hyb
          have hy1 : wr.cell? ⟨b, o + (q + k + 1), none⟩ = some (.int .i64 y) := by rw [HB.out.cell (p := ⟨b, o + (q + k + 1), none⟩) (by show b < _; omega)]; exact hcell'
          have hor := cut_or x y r hxb hyb
          obtain ⟨t, ht⟩ : ∃ t, t = x + 16777216 * y := ⟨_, rfl⟩
          have htb : t ≤ 9223372036854775807 := by omega
          rw [← ht] at hor hat
          have hdv := cut_div t r
          obtain ⟨u, hu⟩ : ∃ u, u = t / 2 ^ r := ⟨_, rfl⟩
          rw [← hu] at hdv hat
          have hub : u ≤ 9223372036854775807 := by rw [hu]; exact Nat.le_trans (Nat.div_le_self _ _) htb
          have hyw := wrap64_nat (z := (y : Int) * 16777216) (y := y * 16777216) (by omega) (by omega)
          have hyw2 := wrapI64_nat (z := (y : Int) * 16777216) (y := y * 16777216) (by omega) (by omega)
          rw [show ((y * 16777216 : Nat) : Int) = (y : Int) * 16777216 by omega] at hyw hyw2
          have hxI : (x : Int) ≤ 9223372036854775807 := by omega
          have hyI : (y : Int) ≤ 549755813887 := by omega
          have htI : (t : Int) ≤ 9223372036854775807 := by omega
          have huI : (u : Int) ≤ 9223372036854775807 := by omega
          have HAK := Lib.hid hat
          have hidx2 : ((q : Int) + (k : Int) + 1).toNat = q + k + 1 := by omega
          have hidx3 : (q : Int) + (k : Int) + 1 < (lm : Int) := by omega
          have hx2 : (wr.setCell ⟨w.heap.size, k, none⟩ (.int .i64 (x : Int))).cell? ⟨w.heap.size, k, none⟩ = some (.int .i64 (x : Int)) := World.cell?_setCell_same _ _ _ h2
          have hy2 : (wr.setCell ⟨w.heap.size, k, none⟩ (.int .i64 (x : Int))).cell? ⟨b, o + (q + k + 1), none⟩ = some (.int .i64 (y : Int)) := by rw [World.cell?_setCell_far _ _ _ _ (by simpa using hbne.symm)]; exact hy1
          have hf2 : (wr.setCell ⟨w.heap.size, k, none⟩ (.int .i64 (x : Int))).frozen? ⟨w.heap.size, k, none⟩ = false := by simp [h3]
          have HRW := Lib.hid (show ∀ c1 c2 : Int, RowI (((wr.setCell ⟨w.heap.size, k, none⟩ (.int .i64 (x : Int))).setCell ⟨w.heap.size, k, none⟩ (.int .i64 c1)).setCell ⟨w.heap.size, k, none⟩ (.int .i64 c2)) w.heap.size ((part (ofN C) k).set k c2) from fun d1 d2 => by
            have e := ((HR.out.set_ k HKL.out (x : Int)).set_ k (by rw [List.length_set]; exact HKL.out) d1).set_ k (by rw [List.length_set, List.length_set]; exact HKL.out) d2
            rwa [List.set_set, List.set_set] at e)
          have HBW := Lib.hid (show ∀ c1 c2 : Int, Below w.heap.size w (((wr.setCell ⟨w.heap.size, k, none⟩ (.int .i64 (x : Int))).setCell ⟨w.heap.size, k, none⟩ (.int .i64 c1)).setCell ⟨w.heap.size, k, none⟩ (.int .i64 c2)) from fun d1 d2 => ((HB.out.setCell (Nat.le_refl _) _).setCell (Nat.le_refl _) _).setCell (Nat.le_refl _) _)
          clear hcell hcell' hxk hyk hxb hyb ht hu hat hkl hg hqk hqk1 hub htb
          go_wp2
          generalize (wr.setCell ⟨w.heap.size, k, none⟩ (.int .i64 (x : Int))) = W1 at hx2 hy2 hf2 HRW HBW ⊢
          clear h2 h3 hx1 hy1 hidx hidx1
          go_region
          go_wp2
          go_roundw
          case rel =>
            have e := HRW.out (t : Int) ((u % 16777216 : Nat) : Int)
            have e2 := HBW.out (t : Int) ((u % 16777216 : Nat) : Int)
            rw [Int.natCast_emod] at e e2
            refine ⟨k + 1, by omega, by go_num, ?_, e2.drew⟩
            have hc : (ofN C)[k]'HCK.out = (u : Int) % 16777216 := by rw [ofN_at, HAK.out, Int.natCast_emod]; rfl
            rw [← part_set _ _ HCK.out, hc]
            exact e
          case measure => simp [intOf]; omega
        · have hat0 := hat
          rw [getD_of_ge (show (dig n).length ≤ q + k + 1 by have := HLM.out; omega), Nat.mul_zero, Nat.add_zero] at hat0
          subst ha
          have hdv := cut_div x r
          obtain ⟨u, hu⟩ : ∃ u, u = x / 2 ^ r := ⟨_, rfl⟩
          rw [← hu] at hdv hat0
          have hub : u ≤ 9223372036854775807 := by rw [hu]; exact Nat.le_trans (Nat.div_le_self _ _) (by omega)
          have hxI : (x : Int) ≤ 9223372036854775807 := by omega
          have huI : (u : Int) ≤ 9223372036854775807 := by omega
          have HAK := Lib.hid hat0
          have hidx3 : decide ((q : Int) + (k : Int) + 1 < (lm : Int)) = false := decide_eq_false (by omega)
          have hx2 : (wr.setCell ⟨w.heap.size, k, none⟩ (.int .i64 (x : Int))).cell? ⟨w.heap.size, k, none⟩ = some (.int .i64 (x : Int)) := World.cell?_setCell_same _ _ _ h2
          have HRW := Lib.hid (show ∀ c2 : Int, RowI ((wr.setCell ⟨w.heap.size, k, none⟩ (.int .i64 (x : Int))).setCell ⟨w.heap.size, k, none⟩ (.int .i64 c2)) w.heap.size ((part (ofN C) k).set k c2) from fun d2 => by
            have e := (HR.out.set_ k HKL.out (x : Int)).set_ k (by rw [List.length_set]; exact HKL.out) d2
            rwa [List.set_set] at e)
          have HBW := Lib.hid (show ∀ c2 : Int, Below w.heap.size w ((wr.setCell ⟨w.heap.size, k, none⟩ (.int .i64 (x : Int))).setCell ⟨w.heap.size, k, none⟩ (.int .i64 c2)) from fun d2 => (HB.out.setCell (Nat.le_refl _) _).setCell (Nat.le_refl _) _)
          clear hcell hxk hxb hu hat hat0 hkl hg hqk hub
          go_wp2
          go_roundw
          case rel =>
            have e := HRW.out ((u % 16777216 : Nat) : Int)
            have e2 := HBW.out ((u % 16777216 : Nat) : Int)
            rw [Int.natCast_emod] at e e2
            refine ⟨k + 1, by omega, by go_num, ?_, e2⟩
            have hc : (ofN C)[k]'HCK.out = (u : Int) % 16777216 := by rw [ofN_at, HAK.out, Int.natCast_emod]; rfl
            rw [← part_set _ _ HCK.out, hc]
            exact e
          case measure => simp [intOf]; omega
      · obtain rfl : k = lm - q := by omega
        have hrow2 : RowI wr w.heap.size (ofN C) := by
          have := HR.out
          rwa [show lm - q = (ofN C).length by rw [ofN_length, HCL.out], part_all] at this
        have hTr := iTrimmed (some ⟨w.heap.size, 0, none⟩) C (lm - q) _ _ hrow2.ints HCS.out (by rw [HCL.out]; exact Nat.le_refl _) (by omega)
        have hle := dig_length_val_le HCS.out
        have hend : RetL (lim (n / 2 ^ K0)) w (.returned (.slice (some ⟨w.heap.size, 0, none⟩) (dig (val C)).length (lm - q))) wr := by
          rw [← HCV.out]
          refine ⟨_, _, by rw [lim_length (val C)], by rw [lim_length, ← HCL.out]; exact hle, Own.row ?_ (Nat.le_refl _), HB.out⟩
          have := hrow2.take (dig (val C)).length
          rwa [ofN_take, take_dig_len HCS.out] at this
        rw [HCL.out] at hTr
        obtain ⟨ul, hul⟩ : ∃ u, u = (dig (val C)).length := ⟨_, rfl⟩
        rw [← hul] at hTr hend
        have HTR := Lib.hid hTr
        have HEND := Lib.hid hend
        clear hTr hend hrow2 hle hul
        go_wp2_with fail
        refine HTR.out.mono ?_
        rintro e w' ⟨rfl, rfl⟩
        go_wp2_with fail
        go_ret
        exact HEND.out

theorem cut_parts {x y r s : Nat} (h : r + s = 24) : x / 2 ^ r + y * 2 ^ s = (x + 16777216 * y) / 2 ^ r := by
  have e : (16777216 : Nat) = 2 ^ r * 2 ^ s := by rw [← Nat.pow_add, h]
  have e2 : x + 16777216 * y = x + 2 ^ r * (2 ^ s * y) := by
    conv => lhs; rw [e]
    rw [Nat.mul_assoc]
  rw [e2, Nat.add_mul_div_left _ _ (Nat.pow_pos (by omega)), Nat.mul_comm (2 ^ s)]
theorem cut_bounds {x y r s : Nat} (hx : x < 16777216) (hy : y < 16777216) (h : r + s = 24) : x / 2 ^ r ≤ 16777215 ∧ y * 2 ^ s ≤ 281474976710656 := by
  have h1 := Nat.div_le_self x (2 ^ r)
  have h2 : 2 ^ s ≤ 16777216 := Nat.le_trans (Nat.pow_le_pow_right (by omega) (show s ≤ 24 by omega)) (by decide)
  have h3 : y * 2 ^ s ≤ 16777215 * 16777216 := Nat.mul_le_mul (by omega) h2
  omega
theorem cut_total {n q r K0 : Nat} (hq : q = K0 / 24) (hr : r = K0 % 24) : val (cutL r ((dig n).drop q)) = n / 2 ^ K0 := by
  subst hq hr
  by_cases h : K0 / 24 ≤ (dig n).length
  · have := cut_val (small_dig n) h
    rwa [val_dig] at this
  · have := cut_big (small_dig n) (k := K0) (by omega)
    rw [val_dig] at this
    rw [this, List.drop_of_length_le (by omega)]
    rfl

theorem tdiv_add (u v : Nat) : Int.tdiv ((u : Int) + (v : Int)) 16777216 = (((u + v) / 16777216 : Nat) : Int) := by
  rw [Int.tdiv_eq_ediv_of_nonneg (by omega)]
  rfl
theorem left_bounds {c y P : Nat} (h1 : c < P) (h2 : c + y < 16777216 * P) (h3 : P ≤ 8388608) : c ≤ 2305843009213693952 ∧ y ≤ 2305843009213693952 := by omega
theorem tmod_add (u v : Nat) : Int.tmod ((u : Int) + (v : Int)) 16777216 = (((u + v) % 16777216 : Nat) : Int) := by
  rw [Int.tmod_eq_emod_of_nonneg (by omega)]
  rfl

set_option maxRecDepth 100000 in
set_option maxHeartbeats 4000000 in
theorem sCut (s : Int) (a : Option Addr) (n c1 K0 : Nat) (w : World) (B : Nat) (hB : B ≤ w.heap.size) (hx : Ints w B a (lim n)) (hl : (lim n).length ≤ 1048576) (hk : K0 ≤ 1073741824) :
    Calls Tryz.prog 109 #[.agg #[.int .i64 s, .slice a (lim n).length c1], .int .i64 (K0 : Int)] w (RetN (sgnOf s (n / 2 ^ K0)) (n / 2 ^ K0) w) := by
  have HX := Lib.hid hx
  have hd : Int.tdiv (K0 : Int) 24 = ((K0 / 24 : Nat) : Int) := by simp [Int.tdiv_eq_ediv_of_nonneg]
  have hm : Int.tmod (K0 : Int) 24 = ((K0 % 24 : Nat) : Int) := by simp [Int.tmod_eq_emod_of_nonneg]
  have hr := Nat.mod_lt K0 (show 0 < 24 by omega)
  obtain ⟨q, hq⟩ : ∃ q, q = K0 / 24 := ⟨_, rfl⟩
  obtain ⟨r, hr'⟩ : ∃ r, r = K0 % 24 := ⟨_, rfl⟩
  have hcv := cut_total (n := n) hq hr'
  rw [← hq] at hd
  rw [← hr'] at hm hr
  obtain ⟨sN, hsN⟩ : ∃ sN, r + sN = 24 := ⟨24 - r, by omega⟩
  obtain ⟨lm, hlm⟩ : ∃ lm, lm = (dig n).length := ⟨_, rfl⟩
  have hll : (lim n).length = lm := by rw [lim_length, hlm]
  obtain ⟨C, hC⟩ : ∃ C, C = cutL r ((dig n).drop q) := ⟨_, rfl⟩
  have hcs := cutL_small r ((dig n).drop q)
  rw [← hC] at hcv hcs
  have hCl : C.length = lm - q := by rw [hC, cutL_length, List.length_drop, ← hlm]
  have HAT := Lib.hid (show ∀ (i : Nat) (h : i < C.length), C[i] = ((dig n).getD (q + i) 0 + 16777216 * (dig n).getD (q + i + 1) 0) / 2 ^ r % 16777216 from fun i h => by
    subst hC
    rw [cutL_at, getD_drop2, getD_drop2]
    rfl)
  rw [hll] at hl ⊢
  obtain ⟨W0, hW0⟩ : ∃ W0 : World, (w.alloc (.cells #[.int .i64 s, .slice a lm c1] 60)).alloc (.cells #[.int .i64 0, .slice none 0 0] 60) = W0 := ⟨_, rfl⟩
  obtain ⟨p0, p1, p8, p9⟩ := two_box w 60 #[.int .i64 s, .slice a lm c1] #[.int .i64 0, .slice none 0 0]
  rw [hW0] at p0 p1 p8 p9
  have HW0 := Lib.hid hW0
  have P3 := Lib.hid p8
  have P4 := Lib.hid p9
  have SS := Lib.hid (show ∀ W, Below W0.heap.size W0 W → (W.cell? ⟨w.heap.size, 0, none⟩ = some (.int .i64 s) ∧ W.cell? ⟨w.heap.size, 1, none⟩ = some (.slice a lm c1)) from fun W hW => ⟨(p0.below hW).cell 0, (p0.below hW).cell 1⟩)
  have SR := Lib.hid (show ∀ W, Below W0.heap.size W0 W → (W.cell? ⟨w.heap.size + 1, 0, none⟩ = some (.int .i64 0) ∧ W.cell? ⟨w.heap.size + 1, 1, none⟩ = some (.slice none 0 0) ∧ W.frozen? ⟨w.heap.size + 1, 0, none⟩ = false ∧ W.frozen? ⟨w.heap.size + 1, 1, none⟩ = false) from
    fun W hW => (p1.below hW).two)
  have IX := Lib.hid (show ∀ W, Below W0.heap.size W0 W → Ints W B a (lim n) from fun W hW => hx.below ((p8.mono hB).trans (hW.mono (by omega))))
  have HCV := Lib.hid hcv
  have HCS := Lib.hid hcs
  have HCL := Lib.hid hCl
  have HLM := Lib.hid hlm
  have HLL := Lib.hid hll
  have HSN := Lib.hid hsN
  have h24 : (24 : Int) - (r : Int) = (sN : Int) := by omega
  have hrI : (r : Int) ≤ 23 := by omega
  have hsI : (sN : Int) ≤ 24 := by omega
  have hqI : (q : Int) ≤ 44739243 := by omega
  have hlI : (lm : Int) ≤ 1048576 := by omega
  clear hx hl hcv hq hr' hr hC hCl hcs hlm hll p0 p1 p8 p9 hW0 hk hsN
  go_enter Tryz.func109, Tryz.ntmps109
  go_wp2
  rw [HW0.out]
  go_loopw [6, 5] (fun i v wr => ∃ k : Nat, k ≤ lm - q ∧ i = .int .i64 ((q : Int) + (k : Int)) ∧ OwnV wr W0.heap.size v (ofN (C.take k)) ∧ Below W0.heap.size W0 wr) (fun i _ _ => (lm - (intOf i)).toNat)
  case atStart => exact ⟨0, Nat.zero_le _, by first | rfl | (congr 1; omega) | simp, (by have h := OwnV.empty W0 W0.heap.size (Nat.le_refl _); have e := P4.out; simp only [e] at h ⊢; exact h), (Below.refl _ _).alloc (Nat.le_refl _) _⟩
  case round =>
    obtain ⟨k, hk, rfl, hown, hbel⟩ := hrel
    have OW := Lib.hid hown
    have HB := Lib.hid hbel
    have hsz : W0.heap.size ≤ wr.heap.size := hbel.size
    obtain ⟨k1, k2⟩ := SS.out _ hbel
    clear hown hbel
    by_cases hkn : q + k < lm
    · have hqk : q + k < (dig n).length := by have := HLM.out; omega
      obtain ⟨b, o, ha, hcB, hcell⟩ := IX.out wr HB.out (q + k) (by rw [HLL.out]; exact hkn)
      simp only [lim, ofN_at] at hcell
      have hkC : k < C.length := by have := HCL.out; omega
      have hat := HAT.out k hkC
      have hxb := small_dig n (q + k) hqk
      rw [getD_of_lt hqk] at hat
      have HTK := Lib.hid (show C.take (k + 1) = C.take k ++ [C[k]] from List.take_succ_eq_append_getElem hkC)
      obtain ⟨x, hxk⟩ : ∃ x : Nat, x = (dig n)[q + k] := ⟨_, rfl⟩
      rw [← hxk] at hcell hat hxb
      have hidx : ((q : Int) + (k : Int)).toNat = q + k := by omega
      have hidx0 : (q : Int) + (k : Int) < (lm : Int) := by omega
      have hlen := Lib.hid (show (ofN (C.take k)).length ≤ 8388606 from by rw [ofN_length, List.length_take]; have := HCL.out; omega)
      subst ha
      by_cases hn1 : q + k + 1 < lm
      · have hqk1 : q + k + 1 < (dig n).length := by have := HLM.out; omega
        obtain ⟨b', o', ha', hcB', hcell'⟩ := IX.out wr HB.out (q + k + 1) (by rw [HLL.out]; exact hn1)
        simp at ha'
        obtain ⟨rfl, rfl⟩ := ha'
        simp only [lim, ofN_at] at hcell'
        rw [getD_of_lt hqk1] at hat
        have hyb := small_dig n (q + k + 1) hqk1
        obtain ⟨y, hyk⟩ : ∃ y : Nat, y = (dig n)[q + k + 1] := ⟨_, rfl⟩
        rw [← hyk] at hcell' hat hyb
        obtain ⟨c1', c2'⟩ := cut_bounds hxb hyb HSN.out
        rw [← cut_parts HSN.out] at hat
        have hdv := cut_div x r
        have hyc : ((y : Int) * 2 ^ sN) = ((y * 2 ^ sN : Nat) : Int) := by simp
        obtain ⟨u, hu⟩ : ∃ u, u = x / 2 ^ r := ⟨_, rfl⟩
        obtain ⟨v2, hv2⟩ : ∃ v2, v2 = y * 2 ^ sN := ⟨_, rfl⟩
        rw [← hu] at hdv hat c1'
        rw [← hv2] at hyc hat c2'
        have hv63 := Nat.le_trans c2' (show 281474976710656 ≤ 9223372036854775807 by decide)
        have hw1 := wrap64_nat hyc hv63
        have hw2 := wrapI64_nat hyc hv63
        have hvI : (v2 : Int) ≤ 2305843009213693952 := Int.ofNat_le.2 (Nat.le_trans c2' (by decide))
        have huI2 : (u : Int) ≤ 2305843009213693952 := Int.ofNat_le.2 (Nat.le_trans c1' (by decide))
        have hmod := tmod_add u v2
        obtain ⟨z, hz⟩ : ∃ z, z = (u + v2) % 16777216 := ⟨_, rfl⟩
        rw [← hz] at hmod hat
        have HAK := Lib.hid hat
        have hidx2 : ((q : Int) + (k : Int) + 1).toNat = q + k + 1 := by omega
        have hidx3 : (q : Int) + (k : Int) + 1 < (lm : Int) := by omega
        have hxI : (x : Int) ≤ 9223372036854775807 := Int.ofNat_le.2 (Nat.le_trans (Nat.le_of_lt hxb) (by decide))
        have hyI : (y : Int) ≤ 9223372036854775807 := Int.ofNat_le.2 (Nat.le_trans (Nat.le_of_lt hyb) (by decide))
        have hzI : (z : Int) ≤ 9223372036854775807 := Int.ofNat_le.2 (Nat.le_trans (Nat.le_of_lt (by rw [hz]; exact Nat.mod_lt _ (by decide))) (show 16777216 ≤ 9223372036854775807 by decide))
        clear hyc hv63 hat hxb hyb hxk hyk hu hv2 hz c1' c2' hqk hqk1
        go_wp2_with (at_builtin; refine wp_app1 rfl _ _ 58 rfl Tryz.underlying58 wr (z : Int) (by simp) W0.heap.size _ (ofN (C.take k)) OW.out rfl rfl (by have := hlen.out; omega) (by omega) ?_; intro v' w' hown hb hs; have OW2 := Lib.hid hown; have HB2 := Lib.hid (hb W0.heap.size (by omega) (Nat.le_refl _)); clear hown hb)
        go_roundw
        case rel =>
          refine ⟨k + 1, by omega, by (first | (congr 1; omega) | (simp; omega)), ?_, HB.out.trans HB2.out⟩
          rw [HTK.out, HAK.out, ofN_append]
          exact OW2.out
        case measure => simp [intOf]; omega
      · rw [getD_of_ge (show (dig n).length ≤ q + k + 1 by have := HLM.out; omega), Nat.mul_zero, Nat.add_zero] at hat
        have hdv := cut_div x r
        have hub := Nat.div_le_self x (2 ^ r)
        obtain ⟨u, hu⟩ : ∃ u, u = x / 2 ^ r := ⟨_, rfl⟩
        rw [← hu] at hdv hat hub
        rw [Nat.mod_eq_of_lt (show u < 16777216 by omega)] at hat
        have HAK := Lib.hid hat
        have huI2 : (u : Int) ≤ 2305843009213693952 := Int.ofNat_le.2 (Nat.le_trans hub (Nat.le_trans (Nat.le_of_lt hxb) (by decide)))
        have hxI : (x : Int) ≤ 9223372036854775807 := Int.ofNat_le.2 (Nat.le_trans (Nat.le_of_lt hxb) (by decide))
        have hidx3 : decide ((q : Int) + (k : Int) + 1 < (lm : Int)) = false := decide_eq_false (by omega)
        clear hat hxb hxk hu hub hqk
        go_wp2_with (at_builtin; refine wp_app1 rfl _ _ 58 rfl Tryz.underlying58 wr (u : Int) (by simp) W0.heap.size _ (ofN (C.take k)) OW.out rfl rfl (by have := hlen.out; omega) (by omega) ?_; intro v' w' hown hb hs; have OW2 := Lib.hid hown; have HB2 := Lib.hid (hb W0.heap.size (by omega) (Nat.le_refl _)); clear hown hb)
        go_roundw
        case rel =>
          refine ⟨k + 1, by omega, by (first | (congr 1; omega) | (simp; omega)), ?_, HB.out.trans HB2.out⟩
          rw [HTK.out, HAK.out, ofN_append]
          exact OW2.out
        case measure => simp [intOf]; omega
    · have hCk : C.take k = C := List.take_of_length_le (by have := HCL.out; omega)
      obtain ⟨a', c', rfl, hc', _, ho⟩ := OW.out.parts
      rw [hCk] at ho hc'
      have hmk := sMake s a' C c' wr wr.heap.size (Nat.le_refl _) ho.ints HCS.out (by rw [ofN_length] at hc'; exact hc') (by rw [HCL.out]; omega)
      rw [HCV.out] at hmk
      have HMK := Lib.hid hmk
      have e2 : (ofN (C.take k)).length = C.length := by rw [hCk, ofN_length]
      have hge : decide ((q : Int) + (k : Int) < (lm : Int)) = false := decide_eq_false (by omega)
      obtain ⟨ul, hul⟩ : ∃ u, u = (ofN (C.take k)).length := ⟨_, rfl⟩
      rw [← hul] at e2 ⊢
      rw [← e2] at HMK
      clear ho hc' OW hmk hCk e2 hul hkn
      go_wp2_with fail
      refine HMK.out.mono ?_
      rintro e w1 ⟨a1, d1, rfl, hc1, ho1, hb1⟩
      obtain ⟨N, hN⟩ : ∃ N, N = n / 2 ^ K0 := ⟨_, rfl⟩
      rw [← hN] at hc1 ho1
      have HC1 := Lib.hid hc1
      have HO1 := Lib.hid ho1
      have HB1 := Lib.hid (HB.out.trans (hb1.mono HB.out.size))
      have hs1 := HB1.out.size
      obtain ⟨q1, q2, q3, q4⟩ := SR.out _ HB1.out
      have HN := Lib.hid hN
      have hlo : w.heap.size + 1 < wr.heap.size := by have := P4.out; omega
      clear hc1 ho1 hb1 k1 k2
      go_wp2_with fail
      rw [← HN.out]
      refine bodyPost_ret (v := .agg #[.int .i64 (sgnOf s N), .slice a1 (lim N).length d1]) (by simp [results, Tryz.results109, go_sem, *]) rfl ⟨a1, d1, rfl, HC1.out, ((HO1.out.setFar (by simp; omega) _).setFar (by simp; omega) _).mono (by omega), ((P3.out.trans (HB1.out.mono (by have := P4.out; omega))).setCell (by simp) _).setCell (by simp) _⟩

theorem OwnV.zeros (w : World) (lo n : Nat) (hb : lo ≤ w.heap.size) (hn : n ≤ 1073741824) : OwnV (w.alloc (.cells (madeCells #[.int .i64 0] n) 2)) lo (.slice (some ⟨w.heap.size, 0, none⟩) n n) (List.replicate n 0) := by
  unfold OwnV
  rw [List.length_replicate]
  refine ⟨by simp, .inr ⟨w.heap.size, n, _, rfl, hb, heap_alloc_new w _, Nat.le_refl _, by unfold maxLen; omega, by simp [size_madeCells], ?_⟩⟩
  apply List.ext_getElem
  · simp [size_madeCells]
  · intro i h1 h2
    simp [madeCells, Nat.mod_one]

/-- One number is appended, at a step of a region that draws. -/
theorem step_app1 {ops : Array Oper} {o : Oper} {a : Act} {K : Act → World → Prop} {Q : Exit → Act → World → Prop} {E : Prop} {w : World} (hgd : o.guard = none) (s x : Operand) (t : TypeId)
    (ho : o.op = .call { callee := .builtin .append, args := #[s, x], argTypes := #[t, t] }) (ht : Tryz.prog.underlying t = some (.slice 2))
    (V : World) (z : Int) (hW : w = V.alloc (.cells #[.int .i64 z] 2)) (lo : Nat) (v : Value) (xs : List Int) (hown : OwnV V lo v xs) (hs : a.eval s = v)
    (hx : a.eval x = .slice (some ⟨V.heap.size, 0, none⟩) 1 1) (hlen : xs.length ≤ 8388607) (hbase : lo ≤ V.heap.size)
    (h : ∀ v' w', OwnV w' lo v' (xs ++ [z]) → (∀ B, B ≤ V.heap.size → B ≤ lo → Below B V w') → V.heap.size ≤ w'.heap.size → K (a.put o.dst v') w') :
    if Region.wanted o (yielded ops a.tmps) = true then Oper.wp Tryz.prog o a w K Q else E := by
  subst hW
  obtain ⟨i0, hi, hz0, hz1, hz2⟩ := info_parts info_i64
  refine step_append_lies _ hgd s x t ho lo 2 i0 (.int .i64 0) 1 8 ht hi hz0 hz1 hz2 rfl (by decide) v xs.length (xs.map (Value.int .i64)) hs (hown.alloc _) ⟨V.heap.size, 0, none⟩ 1 1 [.int .i64 z] hx rfl ?_ (by intro u hu; simp at hu; subst hu; rfl) (by omega) (by unfold maxLen; omega) (by omega) (by simp; omega) _ rfl ?_
  · intro j u hj
    match j with
    | 0 =>
      simp at hj
      subst hj
      simp [Addr.add]
    | j + 1 => simp at hj
  · intro g cap w' h1 h2 _ _
    refine h _ w' ?_ (fun B hB hl => ((Below.refl B V).alloc hB _).grown h2 (by simp; omega) (fun g hg => Nat.le_trans hl (hown.lt g hg))) ?_
    · unfold OwnV
      rw [List.length_append, List.map_append]
      exact h1
    · have := h2.size
      simp at this
      omega

set_option maxRecDepth 100000 in
set_option maxHeartbeats 4000000 in
theorem sLeft (s : Int) (a : Option Addr) (n c1 K0 : Nat) (w : World) (B : Nat) (hB : B ≤ w.heap.size) (hx : Ints w B a (lim n)) (hl : (lim n).length ≤ 1048576) (hk : K0 ≤ 100000000) :
    Calls Tryz.prog 79 #[.agg #[.int .i64 s, .slice a (lim n).length c1], .int .i64 (K0 : Int)] w (RetN (sgnOf s (n * 2 ^ K0)) (n * 2 ^ K0) w) := by
  have hd : Int.tdiv (K0 : Int) 24 = ((K0 / 24 : Nat) : Int) := by simp [Int.tdiv_eq_ediv_of_nonneg]
  have hm : Int.tmod (K0 : Int) 24 = ((K0 % 24 : Nat) : Int) := by simp [Int.tmod_eq_emod_of_nonneg]
  have hr := Nat.mod_lt K0 (show 0 < 24 by omega)
  have hpow := up_pow n K0
  obtain ⟨q, hq⟩ : ∃ q, q = K0 / 24 := ⟨_, rfl⟩
  obtain ⟨r, hr'⟩ : ∃ r, r = K0 % 24 := ⟨_, rfl⟩
  rw [← hq] at hd hpow
  rw [← hr'] at hm hr hpow
  obtain ⟨lm, hlm⟩ : ∃ lm, lm = (dig n).length := ⟨_, rfl⟩
  have hll : (lim n).length = lm := by rw [lim_length, hlm]
  rw [hll] at hl ⊢
  have hqb : q ≤ 4166667 := by omega
  have hmk := mk_ints q (by omega)
  obtain ⟨W0, hW0⟩ : ∃ W0 : World, (w.alloc (.cells #[.int .i64 s, .slice a lm c1] 60)).alloc (.cells #[.int .i64 0, .slice none 0 0] 60) = W0 := ⟨_, rfl⟩
  obtain ⟨p0, p1, p8, p9⟩ := two_box w 60 #[.int .i64 s, .slice a lm c1] #[.int .i64 0, .slice none 0 0]
  rw [hW0] at p0 p1 p8 p9
  have HW0 := Lib.hid hW0
  have P3 := Lib.hid p8
  have P4 := Lib.hid p9
  have SS := Lib.hid (show ∀ W, Below W0.heap.size W0 W → (W.cell? ⟨w.heap.size, 0, none⟩ = some (.int .i64 s) ∧ W.cell? ⟨w.heap.size, 1, none⟩ = some (.slice a lm c1)) from fun W hW => ⟨(p0.below hW).cell 0, (p0.below hW).cell 1⟩)
  have SR := Lib.hid (show ∀ W, Below W0.heap.size W0 W → (W.cell? ⟨w.heap.size + 1, 0, none⟩ = some (.int .i64 0) ∧ W.cell? ⟨w.heap.size + 1, 1, none⟩ = some (.slice none 0 0) ∧ W.frozen? ⟨w.heap.size + 1, 0, none⟩ = false ∧ W.frozen? ⟨w.heap.size + 1, 1, none⟩ = false) from
    fun W hW => (p1.below hW).two)
  have IX := Lib.hid (show ∀ W, Below W0.heap.size W0 W → Ints W B a (lim n) from fun W hW => hx.below ((p8.mono hB).trans (hW.mono (by omega))))
  have HPOW := Lib.hid hpow
  have HLM := Lib.hid hlm
  have HLL := Lib.hid hll
  have HR24 := Lib.hid hr
  have HQB := Lib.hid hqb
  have hrI : (r : Int) ≤ 23 := by omega
  have hqI : (q : Int) ≤ 44739243 := by omega
  have hlI : (lm : Int) ≤ 1048576 := by omega
  clear hx hl hpow hq hr' hr hlm hll p0 p1 p8 p9 hW0 hk hqb
  go_enter Tryz.func79, Tryz.ntmps79
  go_wp2
  rw [HW0.out]
  clear hmk
  go_loopw [7, 6, 5] (fun i cc v wr => ∃ (k : Nat) (U : List Nat) (c : Nat), k ≤ lm ∧ i = .int .i64 (k : Int) ∧ cc = .int .i64 (c : Int) ∧ Hid (UpInv (dig n) U r c k) ∧ OwnV wr W0.heap.size v (ofN (List.replicate q 0 ++ U)) ∧ Below W0.heap.size W0 wr) (fun i _ _ _ => lm - (intOf i).toNat)
  case atStart => exact ⟨0, [], 0, Nat.zero_le _, rfl, rfl, upInv_start (dig n) r, (by have h := OwnV.zeros W0 W0.heap.size q (Nat.le_refl _) (by have := HQB.out; omega); have e := P4.out; rw [List.append_nil, ofN_zeros]; simp only [e] at h ⊢; exact h), (Below.refl _ _).alloc (Nat.le_refl _) _⟩
  case round =>
    obtain ⟨k, U, c, hk, rfl, rfl, hinv, hown, hbel⟩ := hrel
    have OW := Lib.hid hown
    have HB := Lib.hid hbel
    have hsz : W0.heap.size ≤ wr.heap.size := hbel.size
    obtain ⟨k1, k2⟩ := SS.out _ hbel
    have hlenU := hinv.out.len
    have hcb := hinv.out.c
    have hp23 : 2 ^ r ≤ 8388608 := Nat.le_trans (Nat.pow_le_pow_right (by omega) (show r ≤ 23 by have := HR24.out; omega)) (by decide)
    have hlen := Lib.hid (show (ofN (List.replicate q 0 ++ U)).length = q + k from by simp [ofN_length, hlenU])
    clear hown hbel
    by_cases hkn : k < lm
    · have hkd : k < (dig n).length := by rw [← HLM.out]; exact hkn
      obtain ⟨b, o, ha, hcB, hcell⟩ := IX.out wr HB.out k (by rw [HLL.out]; exact hkn)
      simp only [lim, ofN_at] at hcell
      subst ha
      have hst := upInv_step hinv.out (small_dig n) hkd
      obtain ⟨x, hxk⟩ : ∃ x : Nat, x = (dig n)[k] := ⟨_, rfl⟩
      rw [← hxk] at hcell hst
      obtain ⟨hst1, hst2⟩ := hst
      obtain ⟨y, hy⟩ : ∃ y, y = x * 2 ^ r := ⟨_, rfl⟩
      rw [← hy] at hst1 hst2
      have hyc : ((x : Int) * 2 ^ r) = (y : Int) := by rw [hy]; simp
      obtain ⟨t, ht⟩ : ∃ t, t = c + y := ⟨_, rfl⟩
      have hbd := up_bounds hcb (by rw [ht]; exact hst2) hp23 ht
      have hbd2 := left_bounds hcb hst2 hp23
      have hw1 := wrap64_nat hyc hbd.2.1
      have hw2 := wrapI64_nat hyc hbd.2.1
      have hmod := tmod_add c y
      have hdiv := tdiv_add c y
      rw [← ht] at hst1 hmod hdiv
      have HST := Lib.hid hst1
      obtain ⟨z, hz⟩ : ∃ z, z = t % 16777216 := ⟨_, rfl⟩
      obtain ⟨z2, hz2⟩ : ∃ z2, z2 = t / 16777216 := ⟨_, rfl⟩
      rw [← hz] at hmod HST
      rw [← hz2] at hdiv HST
      have hcI : (c : Int) ≤ 2305843009213693952 := Int.ofNat_le.2 hbd2.1
      have hyI : (y : Int) ≤ 2305843009213693952 := Int.ofNat_le.2 hbd2.2
      have hzI : (z : Int) ≤ 9223372036854775807 := Int.ofNat_le.2 (by rw [hz]; exact Nat.le_trans (Nat.mod_le _ _) hbd.2.2)
      have hz2I : (z2 : Int) ≤ 9223372036854775807 := Int.ofNat_le.2 (by rw [hz2]; exact Nat.le_trans (Nat.div_le_self _ _) hbd.2.2)
      have hkI : (k : Int) < (lm : Int) := by omega
      clear hst1 hst2 hxk hcb hp23 hyc hy ht hlenU hkd hinv hbd hbd2 hz hz2
      go_wp2_with (at_builtin; refine wp_app1 rfl _ _ 58 rfl Tryz.underlying58 wr (z : Int) (by simp) W0.heap.size _ (ofN (List.replicate q 0 ++ U)) OW.out rfl rfl (by rw [hlen.out]; have := HQB.out; omega) (by omega) ?_; intro v' w' hown hb hs; have OW2 := Lib.hid hown; have HB2 := Lib.hid (hb W0.heap.size (by omega) (Nat.le_refl _)); clear hown hb)
      go_roundw
      case rel =>
        refine ⟨k + 1, _, z2, by omega, by go_num, rfl, HST, ?_, HB.out.trans HB2.out⟩
        rw [← List.append_assoc, ofN_append _ [z]]
        exact OW2.out
      case measure => simp [intOf]; omega
    · obtain rfl : k = lm := by omega
      have hI : UpInv (dig n) U r c (dig n).length := by rw [← HLM.out]; exact hinv.out
      obtain ⟨d1, d2⟩ := upInv_done hI HR24.out
      rw [val_dig] at d2
      have hcI : (c : Int) ≤ 9223372036854775807 := Int.ofNat_le.2 (Nat.le_trans (Nat.le_of_lt (Nat.lt_of_lt_of_le hcb hp23)) (by decide))
      have hLs : Small ((List.replicate q 0 ++ U) ++ [c]) := by rw [List.append_assoc]; exact small_append (small_zeros q) d1
      have hLv : val ((List.replicate q 0 ++ U) ++ [c]) = n * 2 ^ K0 := by rw [List.append_assoc, val_up, d2]; exact HPOW.out
      have hLl : ((List.replicate q 0 ++ U) ++ [c]).length = q + k + 1 := by simp [hlenU]; omega
      obtain ⟨L, hL⟩ : ∃ L, L = (List.replicate q 0 ++ U) ++ [c] := ⟨_, rfl⟩
      rw [← hL] at hLs hLv hLl
      have HMK := Lib.hid (show ∀ (v : Value) W, OwnV W W0.heap.size v (ofN L) → Below W0.heap.size W0 W → ∃ a' c', v = .slice a' (q + k + 1) c' ∧ Calls Tryz.prog 103 #[.int .i64 s, v] W (RetN (sgnOf s (n * 2 ^ K0)) (n * 2 ^ K0) W) from fun v W ho hb => by
        obtain ⟨a', c', rfl, hc', _, ho'⟩ := ho.parts
        rw [ofN_length, hLl] at hc' ⊢
        have := sMake s a' L c' W W.heap.size (Nat.le_refl _) ho'.ints hLs (by rw [hLl]; exact hc') (by rw [hLl]; have := HQB.out; omega)
        rw [hLv, hLl] at this
        exact ⟨a', c', rfl, this⟩)
      have HL := Lib.hid (show ofN L = ofN (List.replicate q 0 ++ U) ++ [(c : Int)] from by rw [hL, ofN_append]; rfl)
      have hge : decide ((k : Int) < (k : Int)) = false := decide_eq_false (by omega)
      clear hI d1 d2 hcb hp23 hLs hLv hLl hL hlenU hinv
      go_wp2
      have hbase : W0.heap.size ≤ wr.heap.size := hsz
      have hlen3 := Lib.hid (show (ofN (List.replicate q 0 ++ U)).length ≤ 8388607 from by rw [hlen.out]; have := HQB.out; omega)
      have hBd : Below W0.heap.size W0 wr.drew := HB.out.drew
      go_region_held_law (fun W => W.cell? ⟨w.heap.size, 0, none⟩ = some (.int .i64 s))
        (first | exact (SS.out _ (by assumption)).1 | exact (SS.out _ (below_alloc (by assumption) _)).1 | (rw [World.cell?_setCell_far _ _ _ _ (by simp), World.cell?_setCell_far _ _ _ _ (by simp)]; exact (SS.out _ (by assumption)).1))
        ((first
        | (refine step_app1 (by rfl) _ _ 58 (by rfl) Tryz.underlying58 wr.drew (c : Int) (by rfl) W0.heap.size _ (ofN (List.replicate q 0 ++ U)) OW.out (by rfl) (by rfl) hlen3.out hbase ?_; intro v' w' hown hb hs; have hb4 := hBd.trans (hb W0.heap.size hbase (Nat.le_refl _)); obtain ⟨a', c', rfl, hmk⟩ := HMK.out v' w' (by rw [HL.out]; exact hown) hb4)
        | (go_at_call 103; refine hmk.mono ?_; rintro e w1 ⟨a1, d1, rfl, hc1, ho1, hb1⟩; have hb5 := hb4.trans (hb1.mono hb4.size); obtain ⟨q1, q2, q3, q4⟩ := SR.out _ hb5)))
      have hlo : w.heap.size + 1 < w'.heap.size := by have := P4.out; have := hb4.size; omega
      obtain ⟨N, hN⟩ : ∃ N, N = n * 2 ^ K0 := ⟨_, rfl⟩
      rw [← hN] at hc1 ho1
      have HC1 := Lib.hid hc1
      have HO1 := Lib.hid ho1
      have HB1 := Lib.hid hb5
      have HN := Lib.hid hN
      clear hc1 ho1 hb1 hb5 hb4 hmk
      go_wp2_with fail
      rw [← HN.out]
      refine bodyPost_ret (v := .agg #[.int .i64 (sgnOf s N), .slice a1 (lim N).length d1]) (by simp [results, Tryz.results79, go_sem, *]) rfl ⟨a1, d1, rfl, HC1.out, ((HO1.out.setFar (by simp; omega) _).setFar (by simp; omega) _).mono (by omega), ((P3.out.trans (HB1.out.mono (by have := P4.out; omega))).setCell (by simp) _).setCell (by simp) _⟩
end Go.Proofs.YtgppagmejhgmaaaGreatDoor
