/-
  Contracts: shifts of magnitudes. Conditions: the limbs can be read.
-/
import Derived.Test.YtfjfmlofhifkmaaDoorVa
import Derived.Test.YtfjfmlofhifkmaaDoorOc
import Derived.Test.YtfjfmlofhifkmaaDoorUl
import Derived.Test.YtfjfmlofhifkmaaDoorUe
namespace Go.Proofs.YtfjfmlofhifkmaaDoor
set_option linter.unusedVariables false
open Go Go.RowKit

theorem i64_or_sh (c x r : Nat) (hc : c < 2 ^ r) (hb : c + x * 2 ^ r < 9223372036854775808) : bits .or .i64 (c : Int) ((x * 2 ^ r : Nat) : Int) = ((c + x * 2 ^ r : Nat) : Int) := by
  rw [i64_or_nat c (x * 2 ^ r) (by omega) (by omega)]
  have := Nat.shiftLeft_add_eq_or_of_lt hc x
  rw [Nat.shiftLeft_eq, Nat.or_comm] at this
  rw [← this, Nat.add_comm]

theorem up_bounds {c y t P : Nat} (h1 : c < P) (h2 : t < 16777216 * P) (h3 : P ≤ 8388608) (h4 : t = c + y) : c ≤ 9223372036854775807 ∧ y ≤ 9223372036854775807 ∧ t ≤ 9223372036854775807 := by omega
theorem wrap64_nat {z : Int} {y : Nat} (e : z = (y : Int)) (h : y ≤ 9223372036854775807) : wrap64 z = (y : Int) := by subst e; unfold wrap64; omega
theorem wrapI64_nat {z : Int} {y : Nat} (e : z = (y : Int)) (h : y ≤ 9223372036854775807) : IntKind.i64.wrap z = (y : Int) := by subst e; rw [IntKind.wrap_i64]; omega

set_option maxRecDepth 100000 in
set_option maxHeartbeats 2000000 in
theorem iShiftedUp (a : Option Addr) (n c1 K0 : Nat) (w : World) (B : Nat) (hB : B ≤ w.heap.size) (hx : Ints w B a (lim n)) (hl : (lim n).length ≤ 1048576) (hk : K0 ≤ 1073741824) :
    Calls Tryd.prog 100 #[.slice a (lim n).length c1, .int .i64 (K0 : Int)] w (RetL (lim (n * 2 ^ K0)) w) := by
  by_cases h0 : n = 0
  · have hz : (lim n).length = 0 := lim_len_zero.2 h0
    rw [hz]
    have HE := Lib.hid (show RetL (lim (n * 2 ^ K0)) w (.returned (.slice none 0 0)) w from by
      subst h0
      rw [Nat.zero_mul, lim_zero]
      exact ⟨none, 0, rfl, Nat.le_refl _, Own.nil, Below.refl _ _⟩)
    clear hx hl hz h0
    go_enter Tryd.func100, Tryd.ntmps100
    go_wp2
    go_ret
    exact HE.out
  · have HX := Lib.hid hx
    have HLL := Lib.hid (lim_length n)
    have hd : Int.tdiv (K0 : Int) 24 = ((K0 / 24 : Nat) : Int) := by simp [Int.tdiv_eq_ediv_of_nonneg]
    have hm : Int.tmod (K0 : Int) 24 = ((K0 % 24 : Nat) : Int) := by simp [Int.tmod_eq_emod_of_nonneg]
    have hr := Nat.mod_lt K0 (show 0 < 24 by omega)
    have hpow := Lib.hid (up_pow n K0)
    have hne : (((lim n).length : Int) == 0) = false := by
      have := (not_congr (@lim_len_zero n)).2 h0
      simpa using this
    obtain ⟨q, hq⟩ : ∃ q, q = K0 / 24 := ⟨_, rfl⟩
    obtain ⟨r, hr'⟩ : ∃ r, r = K0 % 24 := ⟨_, rfl⟩
    rw [← hq] at hd hpow
    rw [← hr'] at hm hr hpow
    have hqb : q ≤ 44739243 := by omega
    have hmk := mk_mag (q + (lim n).length + 1) (by omega)
    have e1 : (((q + (lim n).length + 1 : Nat) : Int)) = (q : Int) + ((lim n).length : Int) + 1 := by omega
    rw [e1] at hmk
    have hqI : (q : Int) ≤ 44739243 := by omega
    have hrI : (r : Int) ≤ 23 := by omega
    have hl2 : ((lim n).length : Int) ≤ 1048576 := by omega
    have hmask := i64_mask24
    have HR24 := Lib.hid hr
    have HMK := Lib.hid (show RowI (w.alloc (.cells (madeCells #[.int .i64 0] (q + (lim n).length + 1)) 2)) w.heap.size (ofN (upL q ((lim n).length + 1) [])) from by
      rw [upL_start, ofN_zeros]
      exact RowI.made w _)
    clear hx hl hk hq hr' hr h0 hqb
    go_enter Tryd.func100, Tryd.ntmps100
    go_wp2
    clear hmk
    go_loopw [26, 8] (fun i v wr => ∃ (k : Nat) (U : List Nat) (c : Nat), k ≤ (lim n).length ∧ i = .int .i64 (k : Int) ∧ v = .int .i64 (c : Int) ∧ Hid (UpInv (dig n) U r c k) ∧ RowI wr w.heap.size (ofN (upL q ((lim n).length + 1) U)) ∧ Below w.heap.size w wr) (fun i _ _ => (lim n).length - (intOf i).toNat)
    case atStart => exact ⟨0, [], 0, Nat.zero_le _, rfl, rfl, upInv_start (dig n) r, HMK.out, (Below.refl _ _).alloc (Nat.le_refl _) _⟩
    case round =>
      obtain ⟨k, U, c, hk, rfl, rfl, hinv, hrow, hbel⟩ := hrel
      have HR := Lib.hid hrow
      have HB := Lib.hid hbel
      have hlenU := hinv.out.len
      have hcb := hinv.out.c
      have hp23 : 2 ^ r ≤ 8388608 := Nat.le_trans (Nat.pow_le_pow_right (by omega) (show r ≤ 23 by have := HR24.out; omega)) (by decide)
      clear hrow hbel
      by_cases hkn : k < (lim n).length
      · have hkd : k < (dig n).length := by rw [← HLL.out]; exact hkn
        obtain ⟨b, o, ha, hcB, hcell⟩ := HX.out k hkn
        simp only [lim, ofN_at] at hcell
        subst ha
        have hst := upInv_step hinv.out (small_dig n) hkd
        obtain ⟨x, hxk⟩ : ∃ x : Nat, x = (dig n)[k] := ⟨_, rfl⟩
        rw [← hxk] at hcell hst
        obtain ⟨hst1, hst2⟩ := hst
        have hx1 : wr.cell? ⟨b, o + k, none⟩ = some (.int .i64 x) := by rw [HB.out.cell (p := ⟨b, o + k, none⟩) (by show b < _; omega)]; exact hcell
        have hor := i64_or_sh c x r hcb (Nat.lt_of_lt_of_le hst2 (Nat.le_trans (Nat.mul_le_mul_left _ hp23) (by decide)))
        obtain ⟨y, hy⟩ : ∃ y, y = x * 2 ^ r := ⟨_, rfl⟩
        rw [← hy] at hor hst1 hst2
        have hyc : ((x : Int) * 2 ^ r) = (y : Int) := by rw [hy]; simp
        obtain ⟨t, ht⟩ : ∃ t, t = c + y := ⟨_, rfl⟩
        rw [← ht] at hor hst1 hst2
        have hbd := up_bounds hcb hst2 hp23 ht
        have hyb : y ≤ 9223372036854775807 := hbd.2.1
        have hw1 := wrap64_nat hyc hyb
        have hw2 := wrapI64_nat hyc hyb
        have HST := Lib.hid hst1
        have hkI : (k : Int) < ((lim n).length : Int) := by omega
        have hqk : (q : Int) + (k : Int) < (q : Int) + ((lim n).length : Int) + 1 := by omega
        have hqk2 : ((q : Int) + (k : Int)).toNat = q + k := by omega
        have hUl : (ofN (upL q ((lim n).length + 1) U)).length = q + ((lim n).length + 1) := by rw [ofN_length, upL_length (by omega)]
        have hUl2 : q + k < (ofN (upL q ((lim n).length + 1) U)).length := by rw [hUl]; omega
        obtain ⟨u0, h2⟩ : ∃ u0, wr.cell? ⟨w.heap.size, q + k, none⟩ = some u0 := ⟨_, HR.out.cell (q + k) hUl2⟩
        have h3 := HR.out.frozen (q + k)
        have HU := Lib.hid (show ∀ v : Nat, RowI (wr.setCell ⟨w.heap.size, q + k, none⟩ (.int .i64 (v : Int))) w.heap.size (ofN (upL q ((lim n).length + 1) (U ++ [v]))) from fun v => by
          have h := HR.out.set_ (q + k) hUl2 (v : Int)
          rw [ofN_set, ← hlenU, upL_set v (by omega)] at h
          rwa [← hlenU])
        have hcI : (c : Int) ≤ 9223372036854775807 := Int.ofNat_le.2 hbd.1
        have htI : (t : Int) ≤ 9223372036854775807 := Int.ofNat_le.2 hbd.2.2
        have HK := Lib.hid hk
        clear hst1 hst2 hcell hxk hcb hp23 hyc hy ht hlenU hkd hinv hbd hyb
        go_wp2
        go_roundw
        case rel =>
          have e := HU.out (t % 16777216)
          rw [Int.natCast_emod] at e
          exact ⟨k + 1, _, t / 16777216, by have := HK.out; omega, by go_num, by rw [Int.natCast_ediv]; rfl, HST, e, HB.out.setCell (Nat.le_refl _) _⟩
        case measure => simp [intOf]; omega
      · obtain rfl : k = (lim n).length := by omega
        have hI : UpInv (dig n) U r c (dig n).length := by rw [← HLL.out]; exact hinv.out
        obtain ⟨d1, d2⟩ := upInv_done hI HR24.out
        rw [val_dig] at d2
        have hUl : (ofN (upL q ((lim n).length + 1) U)).length = q + ((lim n).length + 1) := by rw [ofN_length, upL_length (by omega)]
        have hUl2 : q + (lim n).length < (ofN (upL q ((lim n).length + 1) U)).length := by rw [hUl]; omega
        obtain ⟨u0, h2⟩ : ∃ u0, wr.cell? ⟨w.heap.size, q + (lim n).length, none⟩ = some u0 := ⟨_, HR.out.cell _ hUl2⟩
        have h3 := HR.out.frozen (q + (lim n).length)
        have hrow2 : RowI (wr.setCell ⟨w.heap.size, q + (lim n).length, none⟩ (.int .i64 (c : Int))) w.heap.size (ofN (upL q ((lim n).length + 1) (U ++ [c]))) := by
          have h := HR.out.set_ (q + (lim n).length) hUl2 (c : Int)
          rw [ofN_set] at h
          have e := upL_set (q := q) (m := (lim n).length + 1) (U := U) c (by omega)
          rw [hlenU] at e
          rwa [e] at h
        have eL : upL q ((lim n).length + 1) (U ++ [c]) = List.replicate q 0 ++ (U ++ [c]) := upL_done (by simp [hlenU])
        have hLl : (upL q ((lim n).length + 1) (U ++ [c])).length = q + (lim n).length + 1 := by rw [upL_length (by simp [hlenU])]; omega
        have hLs : Small (upL q ((lim n).length + 1) (U ++ [c])) := upL_small d1
        have hLv : val (upL q ((lim n).length + 1) (U ++ [c])) = n * 2 ^ K0 := by rw [eL, val_up, d2]; exact hpow.out
        obtain ⟨L, hL⟩ : ∃ L, L = upL q ((lim n).length + 1) (U ++ [c]) := ⟨_, rfl⟩
        rw [← hL] at hrow2 hLl hLs hLv
        have hTr := iTrimmed (some ⟨w.heap.size, 0, none⟩) L (q + (lim n).length + 1) _ _ hrow2.ints hLs (by rw [hLl]; exact Nat.le_refl _) (by omega)
        have hle := dig_length_val_le hLs
        have hend : RetL (lim (n * 2 ^ K0)) w (.returned (.slice (some ⟨w.heap.size, 0, none⟩) (dig (val L)).length (q + (lim n).length + 1))) (wr.setCell ⟨w.heap.size, q + (lim n).length, none⟩ (.int .i64 (c : Int))) := by
          rw [← hLv]
          refine ⟨_, _, by rw [lim_length (val L)], by rw [lim_length, ← hLl]; exact hle, Own.row ?_ (Nat.le_refl _), HB.out.setCell (Nat.le_refl _) _⟩
          have := hrow2.take (dig (val L)).length
          rwa [ofN_take, take_dig_len hLs] at this
        rw [hLl] at hTr
        obtain ⟨ul, hul⟩ : ∃ u, u = (dig (val L)).length := ⟨_, rfl⟩
        rw [← hul] at hTr hend
        have HTR := Lib.hid hTr
        have HEND := Lib.hid hend
        have hqk : (q : Int) + ((lim n).length : Int) < (q : Int) + ((lim n).length : Int) + 1 := by omega
        have hqk2 : ((q : Int) + ((lim n).length : Int)).toNat = q + (lim n).length := by omega
        have hcI : (c : Int) ≤ 9223372036854775807 := by have := Nat.lt_of_lt_of_le hcb hp23; omega
        clear hTr hend hinv hI d1 d2 hUl hUl2 hrow2 eL hLl hLs hLv hL hle hul hcb hp23 hlenU
        go_wp2_with fail
        refine HTR.out.mono ?_
        rintro e w' ⟨rfl, rfl⟩
        go_wp2_with fail
        go_ret
        exact HEND.out
end Go.Proofs.YtfjfmlofhifkmaaDoor
