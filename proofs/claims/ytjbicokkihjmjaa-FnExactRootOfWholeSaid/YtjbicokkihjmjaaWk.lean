/-
  Contract: root, Newton's steps. Conditions: the limbs can be read.
-/
import Derived.Test.YtjbicokkihjmjaaWi
import Derived.Test.YtjbicokkihjmjaaVe
import Derived.Test.YtjbicokkihjmjaaVj
namespace Go.Proofs.Ytjbicokkihjmjaa
set_option linter.unusedVariables false
open Go Go.RowKit

theorem lim1 : lim 1 = [1] := by
  rw [lim, dig_pos (by decide)]
  have : dig (1 / 16777216) = [] := by rw [show 1 / 16777216 = 0 by decide, dig_zero]
  rw [this]
  rfl
theorem ints1 (w : World) (z : Int) (t : TypeId) : Ints (w.alloc (.cells #[.int .i64 z] t)) (w.alloc (.cells #[.int .i64 z] t)).heap.size (some ⟨w.heap.size, 0, none⟩) [z] := fun i hi => by
  have h0 : i = 0 := by simpa using hi
  subst h0
  refine ⟨w.heap.size, 0, rfl, by simp, ?_⟩
  simp
theorem pow_len {K L : Nat} (h : K < 24 * L) : (lim (2 ^ K)).length ≤ L := by
  rw [lim_length]
  refine dig_length_le ?_
  rw [two24]
  exact Nat.pow_lt_pow_right (by omega) h
/-- How many bits, as a natural number. -/
theorem blen_nat {n : Nat} (h : n ≠ 0) (hl : (lim n).length ≤ 200) : ∃ b : Nat, blen n = (b : Int) ∧ b ≤ 4800 ∧ n < 2 ^ b := by
  rw [lim_length] at hl
  have hp := dig_length_pos h
  have hb := bitLen_le24 (show (dig n).getD ((dig n).length - 1) 0 < 16777216 from getD_lt (small_dig n) _)
  have e := blen_pos h
  obtain ⟨b, hb'⟩ := Int.eq_ofNat_of_zero_le (show 0 ≤ blen n by omega)
  exact ⟨b, hb', by omega, blen_le.1 (by omega)⟩
theorem root_start {n b K : Nat} (h : n < 2 ^ b) (hK : K = (b + 1) / 2) : n < (2 ^ K + 1) * (2 ^ K + 1) := by
  have h1 : 2 ^ b ≤ 2 ^ (K + K) := Nat.pow_le_pow_right (by omega) (by omega)
  rw [Nat.pow_add] at h1
  have h2 : 2 ^ K * 2 ^ K ≤ (2 ^ K + 1) * (2 ^ K + 1) := Nat.mul_le_mul (by omega) (by omega)
  omega

set_option maxRecDepth 100000 in
set_option maxHeartbeats 2000000 in
theorem iRoot (a : Option Addr) (n c1 r : Nat) (w : World) (B : Nat) (hB : B ≤ w.heap.size) (hx : Ints w B a (lim n)) (hl : (lim n).length ≤ 200) (h1 : r * r ≤ n) (h2 : n < (r + 1) * (r + 1)) :
    Calls Try.prog 75 #[.slice a (lim n).length c1] w (RetL (lim r) w) := by
  by_cases h0 : n = 0
  · subst h0
    have hr : r = 0 := by
      rcases Nat.eq_zero_or_pos r with h | h
      · exact h
      · have := Nat.mul_pos h h; omega
    subst hr
    have HEND := Lib.hid (show RetL (lim 0) w (.returned (.slice none 0 0)) w from ⟨none, 0, by rw [lim_zero]; rfl, by rw [lim_zero]; exact Nat.le_refl _, by rw [lim_zero]; exact Own.nil, Below.refl _ _⟩)
    have hl0 : (lim 0).length = 0 := by rw [lim_zero]; rfl
    rw [hl0]
    clear hx hB hl h1 h2 hl0
    go_enter Try.func75, Try.ntmps75
    go_wp2
    go_ret
    exact HEND.out
  · obtain ⟨b, hb, hb2, hb3⟩ := blen_nat h0 hl
    obtain ⟨K, hK⟩ : ∃ K, K = (b + 1) / 2 := ⟨_, rfl⟩
    have hst := root_start hb3 hK
    have hqK : Int.tdiv ((b : Int) + 1) 2 = (K : Int) := by rw [Int.tdiv_eq_ediv_of_nonneg (by omega)]; omega
    have hlen := pow_len (K := K) (L := 400) (by omega)
    have HX := Lib.hid (show ∀ W, Below w.heap.size w W → Ints W W.heap.size a (lim n) from fun W hW => (hx.below (hW.mono hB)).more (by have := hW.size; omega))
    have HLEN := Lib.hid (show ∀ W, Below w.heap.size w W → Calls Try.prog 64 #[.slice a (lim n).length c1] W fun e w' => e = .returned (.int .i64 (b : Int)) ∧ W = w' from
      fun W hW => by rw [← hb]; exact iMagLength a n c1 W _ (HX.out W hW) (by omega))
    have HUP := Lib.hid (show ∀ W x, Below w.heap.size w W → Ints W W.heap.size x [1] → Calls Try.prog 107 #[.slice x 1 1, .int .i64 (K : Int)] W fun e w' => ∃ a c, e = .returned (.slice a (lim (2 ^ K)).length c) ∧ (lim (2 ^ K)).length ≤ c ∧ Own w' w.heap.size a (lim (2 ^ K)) ∧ Below w.heap.size w w' from
      fun W x hW hI => by
        have := iShiftedUp x 1 1 K W _ (Nat.le_refl _) (by rw [lim1]; exact hI) (by rw [lim1]; simp) (by omega)
        rw [lim1, Nat.one_mul] at this
        exact this.mono fun e w' ⟨a, c, he, hc, ho, hb⟩ => ⟨a, c, he, hc, ho.mono hW.size, hW.trans (hb.mono hW.size)⟩)
    have HST := Lib.hid hst
    have HLN := Lib.hid hlen
    obtain ⟨R0, hR0⟩ : ∃ R, R = 2 ^ K := ⟨_, rfl⟩
    rw [← hR0] at HUP HST HLN
    have HR := Lib.hid (show r * r ≤ n ∧ n < (r + 1) * (r + 1) ∧ n ≠ 0 ∧ (lim n).length ≤ 200 from ⟨h1, h2, h0, hl⟩)
    obtain ⟨L, hL⟩ : ∃ L, L = (lim n).length := ⟨_, rfl⟩
    have hL0 : 0 < L := by rw [hL, lim_length]; exact dig_length_pos h0
    have hLe : ((L : Int) == 0) = false := beq_eq_false_iff_ne.2 (by omega)
    have hbI : (b : Int) ≤ 4800 := by omega
    have hbI0 : (0 : Int) ≤ (b : Int) := by omega
    have hKI : (K : Int) ≤ 4800 := by omega
    have hKI0 : (0 : Int) ≤ (K : Int) := by omega
    have HLL := Lib.hid hL
    rw [← hL] at HLEN ⊢
    have HT := Lib.hid (Below.refl w.heap.size w)
    clear hx hB hl h1 h2 h0 hb hb2 hb3 hK hst hlen hR0 hL hL0
    go_enter Try.func75, Try.ntmps75
    go_wp2_with fail
    refine (HLEN.out _ (HT.out.alloc (Nat.le_refl _) _)).mono ?_
    rintro e w1 ⟨rfl, rfl⟩
    go_wp2_with fail
    refine (HUP.out _ _ (HT.out.alloc (Nat.le_refl _) _) (ints1 _ _ _)).mono ?_
    rintro e w2 ⟨b0, d0, rfl, hc0, ho0, hb0⟩
    have HC0 := Lib.hid hc0
    have HO0 := Lib.hid ho0
    have HB0 := Lib.hid hb0
    clear hc0 ho0 hb0
    go_wp2
    go_loopw [3] (fun q wr => ∃ (x : Nat) (b : Option Addr) (d : Nat), q = .slice b (lim x).length d ∧ Hid (Own wr w.heap.size b (lim x)) ∧ Hid ((lim x).length ≤ d ∧ (lim x).length ≤ 400 ∧ n < (x + 1) * (x + 1)) ∧ Hid (Below w.heap.size w wr)) (fun q wr => magAt q wr)
    case atStart => exact ⟨R0, b0, d0, rfl, HO0, Lib.hid ⟨HC0.out, HLN.out, HST.out⟩, HB0⟩
    case round =>
      obtain ⟨x, b, d, rfl, hown, hh, hb⟩ := hrel
      have hx0 : x ≠ 0 := by
        intro h
        subst h
        have := hh.out.2.2
        have := HR.out.2.2.1
        omega
      have hsz := hb.out.size
      obtain ⟨q, hq⟩ : ∃ q, q = n / x := ⟨_, rfl⟩
      obtain ⟨y, hy⟩ : ∃ y, y = (x + q) / 2 := ⟨_, rfl⟩
      have hln : (lim n).length ≤ 200 := HR.out.2.2.2
      have hlx : (lim x).length ≤ 400 := hh.out.2.1
      have hlq : (lim q).length ≤ 200 := by rw [hq]; exact Nat.le_trans (lim_le_of_le (Nat.div_le_self _ _)) hln
      have hls : (lim (x + q)).length ≤ 401 := by have := lim_add_len x q; omega
      have hown' := hown.out
      have HDIV := Lib.hid (show Calls Try.prog 46 #[.slice a L c1, .slice b (lim x).length d] wr (RetQR q (n % x) wr) from by
        rw [HLL.out, hq]
        exact iDividedBy a b n x c1 d wr _ _ (Nat.le_refl _) (Nat.le_refl _) (HX.out _ hb.out) hown'.ints (by omega) (by omega) hx0)
      have HPL := Lib.hid (show ∀ w2 a1 e1, Below wr.heap.size wr w2 → Own w2 wr.heap.size a1 (lim q) → Calls Try.prog 97 #[.slice b (lim x).length d, .slice a1 (lim q).length e1] w2 fun e w' => ∃ a c, e = .returned (.slice a (lim (x + q)).length c) ∧ Own w' wr.heap.size a (lim (x + q)) ∧ Below wr.heap.size wr w' from
        fun w2 a1 e1 hW ho => (iMagPlus b a1 x q d e1 w2 _ _ (Nat.le_refl _) (Nat.le_refl _) (hown'.below hW).ints ho.ints (by omega) (by omega)).mono fun e w' ⟨a, c, he, hc, ho, hb⟩ => ⟨a, c, he, ho.mono hW.size, hW.trans (hb.mono hW.size)⟩)
      have HSD := Lib.hid (show ∀ w2 a1 e1, Below wr.heap.size wr w2 → Own w2 wr.heap.size a1 (lim (x + q)) → Calls Try.prog 108 #[.slice a1 (lim (x + q)).length e1, .int .i64 1] w2 fun e w' => ∃ a c, e = .returned (.slice a (lim y).length c) ∧ (lim y).length ≤ c ∧ Own w' wr.heap.size a (lim y) ∧ Below wr.heap.size wr w' from
        fun w2 a1 e1 hW ho => by
          have := iShiftedDown a1 (x + q) e1 1 w2 _ (Nat.le_refl _) ho.ints (by omega) (by omega)
          rw [Nat.pow_one, ← hy] at this
          exact this.mono fun e w' ⟨a, c, he, hc, ho, hb⟩ => ⟨a, c, he, hc, ho.mono hW.size, hW.trans (hb.mono hW.size)⟩)
      have hly : (lim y).length ≤ 401 := by rw [hy]; exact Nat.le_trans (lim_le_of_le (Nat.div_le_self _ _)) hls
      have HCM := Lib.hid (show ∀ w2 a1 e1, Below wr.heap.size wr w2 → Own w2 wr.heap.size a1 (lim y) → Calls Try.prog 87 #[.slice a1 (lim y).length e1, .slice b (lim x).length d] w2 (RetQ (.int .i64 (cmpZ (y : Int) (x : Int))) w2) from
        fun w2 a1 e1 hW ho => iMagCompare a1 b y x e1 d w2 _ _ ho.ints (hown'.below hW).ints (by omega) (by omega))
      have HM := Lib.hid (show magAt (.slice b (lim x).length d) wr = x from magAt_eq hown'.ints)
      have HAB := Lib.hid (show n < (y + 1) * (y + 1) by rw [hy, hq]; exact newton_above (by omega))
      have HDN := Lib.hid (show x ≤ y → x = r from fun h => root_unique (newton_done (by omega) (by rw [← hq, ← hy]; exact h)) hh.out.2.2 HR.out.1 HR.out.2.1)
      have HLT := Lib.hid (show y < x → (lim y).length ≤ 400 from fun h => Nat.le_trans (lim_le_of_le (Nat.le_of_lt h)) hlx)
      have HKEEP := Lib.hid (show ∀ w2, Below wr.heap.size wr w2 → Own w2 w.heap.size b (lim x) from fun w2 hW => hown'.below hW)
      have HD := Lib.hid hh.out.1
      have HSZ := Lib.hid hsz
      clear hown hown' hh hx0 hq hy hln hlx hlq hls hly hsz
      rcases Nat.lt_or_ge y x with hlt | hge
      · rw [cmpZ_lt (show (y : Int) < (x : Int) by omega)] at HCM
        have HY := Lib.hid hlt
        clear hlt HDN
        go_wp2_with fail
        refine HDIV.out.mono ?_
        rintro e w3 ⟨a1, e1, a2, e2, rfl, k1, k2, o1, o2, hap, hb2⟩
        clear k1 k2 o2 hap
        go_wp2_with fail
        refine (HPL.out _ _ _ hb2 o1).mono ?_
        rintro e w4 ⟨a3, c3, rfl, o3, hb3⟩
        go_wp2_with fail
        refine (HSD.out _ _ _ hb3 o3).mono ?_
        rintro e w5 ⟨a4, c4, rfl, k4, o4, hb4⟩
        have HO := Lib.hid o4
        have HC4 := Lib.hid k4
        clear hb2 o1 o3 hb3 o4 k4
        go_wp2_with fail
        refine (HCM.out _ _ _ hb4 HO.out).mono ?_
        rintro e w6 ⟨k, rfl, rfl⟩
        go_wp2_with fail
        go_roundw
        case rel => exact ⟨y, a4, c4, rfl, Lib.hid ((HO.out.mono HSZ.out).drewN _), Lib.hid ⟨HC4.out, HLT.out HY.out, HAB.out⟩, Lib.hid (below_drewN (hb.out.trans (hb4.mono HSZ.out)) _)⟩
        case measure =>
          rw [HM.out, magAt_eq (HO.out.drewN _).ints]
          exact HY.out
      · have hxr := HDN.out hge
        have hcm : cmpZ (y : Int) (x : Int) = 0 ∨ cmpZ (y : Int) (x : Int) = 1 := by
          rcases Nat.lt_or_ge x y with h | h
          · right; exact cmpZ_gt (by omega)
          · left; exact cmpZ_eq (by omega)
        obtain ⟨z, hz⟩ : ∃ z, z = cmpZ (y : Int) (x : Int) := ⟨_, rfl⟩
        rw [← hz] at HCM hcm
        have hz0 : decide (z ≥ 0) = true := decide_eq_true (by omega)
        have hz1 : decide (0 ≤ z) = true := decide_eq_true (by omega)
        have HXR := Lib.hid hxr
        clear hz hcm hge hxr
        go_wp2_with fail
        refine HDIV.out.mono ?_
        rintro e w3 ⟨a1, e1, a2, e2, rfl, k1, k2, o1, o2, hap, hb2⟩
        clear k1 k2 o2 hap
        go_wp2_with fail
        refine (HPL.out _ _ _ hb2 o1).mono ?_
        rintro e w4 ⟨a3, c3, rfl, o3, hb3⟩
        go_wp2_with fail
        refine (HSD.out _ _ _ hb3 o3).mono ?_
        rintro e w5 ⟨a4, c4, rfl, k4, o4, hb4⟩
        have HO := Lib.hid o4
        clear hb2 o1 o3 hb3 o4 k4
        go_wp2_with fail
        refine (HCM.out _ _ _ hb4 HO.out).mono ?_
        rintro e w6 ⟨k, rfl, rfl⟩
        have HEND := Lib.hid (show RetL (lim r) w (.returned (.slice b (lim x).length d)) (w5.drewN k) from ⟨b, d, by rw [HXR.out], by rw [← HXR.out]; exact HD.out, by rw [← HXR.out]; exact (HKEEP.out _ hb4).drewN _, below_drewN (hb.out.trans (hb4.mono HSZ.out)) _⟩)
        go_wp2_with fail
        go_ret
        exact HEND.out
end Go.Proofs.Ytjbicokkihjmjaa
