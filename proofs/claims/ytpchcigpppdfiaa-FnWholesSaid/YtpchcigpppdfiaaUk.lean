/-
  Contracts: IntegerOf of the model. Conditions: the limbs can be read.
-/
import Derived.Test.YtpchcigpppdfiaaUj
import Derived.Test.YtpchcigpppdfiaaUg
import Derived.Test.YtpchcigpppdfiaaTg
namespace Go.Proofs.Ytpchcigpppdfiaa
set_option linter.unusedVariables false
open Go Go.RowKit

theorem val_drop_step (xs : List Nat) {j : Nat} (h : j < xs.length) : val (xs.drop j) = xs[j] + 16777216 * val (xs.drop (j + 1)) := by
  rw [List.drop_eq_getElem_cons h]; rfl
theorem val_drop_le (xs : List Nat) (j : Nat) : val (xs.drop j) ≤ val xs := by
  have h := congrArg val (List.take_append_drop j xs)
  rw [val_append] at h
  have h2 : 1 * val (xs.drop j) ≤ 16777216 ^ (xs.take j).length * val (xs.drop j) := Nat.mul_le_mul_right _ (Nat.one_le_pow _ _ (by omega))
  omega
theorem int_step {s : Int} {m o x o' : Nat} (h : Sg s m) (hz : -9223372036854775808 ≤ s * (m : Int) ∧ s * (m : Int) ≤ 9223372036854775807) (ho : o' = x + 16777216 * o) (_ : x < 16777216) (hm : o' ≤ m) :
    wrap64 (wrap64 (s * (o : Int) * 16777216) + wrap64 (s * (x : Int))) = s * (o' : Int) := by
  unfold Sg at h
  unfold wrap64
  rcases h with ⟨rfl, rfl⟩ | ⟨_, rfl | rfl⟩ <;> omega

set_option maxRecDepth 100000 in
set_option maxHeartbeats 1000000 in
theorem sIntegerOf (s : Int) (a : Option Addr) (xs : List Int) (c1 : Nat) (w : World) (B : Nat) (hB : B ≤ w.heap.size) (hx : Ints w B a xs) (hl : xs.length ≤ 9223372036854775807) :
    Calls Try.prog 43 #[.agg #[.int .i64 s, .slice a xs.length c1]] w (RetB (.tuple #[.int .i64 (intR s xs).1, .int .i64 (intR s xs).2]) w) := by
  obtain ⟨W0, hW0⟩ : ∃ W0 : World, w.alloc (.cells #[.int .i64 s, .slice a xs.length c1] 43) = W0 := ⟨_, rfl⟩
  obtain ⟨p1, p3, p4⟩ := one_box w 43 #[.int .i64 s, .slice a xs.length c1]
  rw [hW0] at p1 p3 p4
  have HW0 := Lib.hid hW0
  have P3 := Lib.hid p3
  have P4 := Lib.hid p4
  have SS := Lib.hid (show ∀ W, Below W0.heap.size W0 W → (W.cell? ⟨w.heap.size, 0, none⟩ = some (.int .i64 s) ∧ W.cell? ⟨w.heap.size, 1, none⟩ = some (.slice a xs.length c1)) from
    fun W hW => ⟨(p1.below hW).cell 0, (p1.below hW).cell 1⟩)
  have IX := Lib.hid (show ∀ W, Below W0.heap.size W0 W → Ints W B a xs ∧ B ≤ W.heap.size from fun W hW => ⟨hx.below ((p3.mono hB).trans (hW.mono (by omega))), by have := hW.size; omega⟩)
  have hT : Below W0.heap.size W0 W0 := Below.refl _ _
  have HEND := Lib.hid (show ∀ v W, Below W0.heap.size W0 W → RetB v w (.returned v) W from fun v W hW => ⟨rfl, P3.out.trans (hW.mono (by omega))⟩)
  have HI := Lib.hid (show ∀ W, Below W0.heap.size W0 W → Calls Try.prog 74 #[.agg #[.int .i64 s, .slice a xs.length c1]] W fun e w' => e = .returned (.bool (whB s xs)) ∧ Below W0.heap.size W0 w' from
    fun W hW => (sIs s a xs c1 W B (IX.out W hW).2 hl (IX.out W hW).1).mono fun e w' ⟨he, hb⟩ => ⟨he, hW.trans (hb.mono hW.size)⟩)
  cases h1 : whB s xs
  · rw [intR_no (fun h => by rw [whB_iff.2 h] at h1; cases h1)]
    rw [h1] at HI
    clear p1 p3 p4 hx hW0 hB h1 hl IX
    go_enter Try.func43, Try.ntmps43
    go_wp2_with fail
    rw [HW0.out]
    refine (HI.out _ hT).mono ?_
    rintro e w1 ⟨rfl, hb⟩
    go_wp2_with fail
    go_ret2
    exact HEND.out _ _ hb
  · have e1 := Lib.hid (whB_iff.1 h1)
    rw [h1] at HI
    clear h1
    obtain ⟨m, rfl, hm, sm⟩ := isWh_of e1.out
    have HO1 := Lib.hid (show ∀ W, Calls Try.prog 86 #[.int .i64 (-9223372036854775808)] W (RetN (-1) 9223372036854775808 W) from fun W => sOf (-9223372036854775808) (by omega) (by omega) W)
    have HO2 := Lib.hid (show ∀ W, Calls Try.prog 86 #[.int .i64 9223372036854775807] W (RetN 1 9223372036854775807 W) from fun W => sOf 9223372036854775807 (by omega) (by omega) W)
    have HC := Lib.hid (show ∀ (t : Int) (n : Nat) (b : Option Addr) (d : Nat) W, Below W0.heap.size W0 W → Sg t n → n < 18446744073709551616 → Ints W W.heap.size b (lim n) → Calls Try.prog 88 #[.agg #[.int .i64 s, .slice a (lim m).length c1], .agg #[.int .i64 t, .slice b (lim n).length d]] W (RetB (.int .i64 (cmpZ (s * m) (t * n))) W) from
      fun t n b d W hW h1 h2 h3 => sCompare s t a b m n c1 d W B W.heap.size (IX.out W hW).2 (Nat.le_refl _) (IX.out W hW).1 h3 sm h1 (by omega) (by have := len_64 h2; rw [lim_length]; omega))
    have HC1 := Lib.hid (HC.out (-1) 9223372036854775808)
    have HC2 := Lib.hid (HC.out 1 9223372036854775807)
    have HX := Lib.hid (show ∀ W, Below W0.heap.size W0 W → Ints W B a (lim m) from fun W hW => (IX.out W hW).1)
    have SM := Lib.hid sm
    have hmI : ((lim m).length : Int) ≤ 200 := by omega
    have sg1 : Sg (-1) 9223372036854775808 := .inr ⟨by omega, .inr rfl⟩
    have sg2 : Sg 1 9223372036854775807 := .inr ⟨by omega, .inl rfl⟩
    obtain ⟨N1, hN1⟩ : ∃ N1 : Nat, N1 = 9223372036854775808 := ⟨_, rfl⟩
    obtain ⟨N2, hN2⟩ : ∃ N2 : Nat, N2 = 9223372036854775807 := ⟨_, rfl⟩
    rw [← hN1] at HO1 HC1 sg1
    rw [← hN2] at HO2 HC2 sg2
    have L1 := Lib.hid (show N1 < 18446744073709551616 by omega)
    have L2 := Lib.hid (show N2 < 18446744073709551616 by omega)
    have G1 := Lib.hid sg1
    have G2 := Lib.hid sg2
    obtain ⟨r1, hr1⟩ : ∃ r, r = cmpZ (s * (m : Int)) (-1 * (N1 : Int)) := ⟨_, rfl⟩
    obtain ⟨r2, hr2⟩ : ∃ r, r = cmpZ (s * (m : Int)) (1 * (N2 : Int)) := ⟨_, rfl⟩
    rw [← hr1] at HC1
    rw [← hr2] at HC2
    have key : ((-9223372036854775808 ≤ s * (m : Int) ∧ s * (m : Int) ≤ 9223372036854775807) ∧ decide (r1 < 0) = false ∧ decide (0 < r2) = false) ∨ (¬ (-9223372036854775808 ≤ s * (m : Int) ∧ s * (m : Int) ≤ 9223372036854775807) ∧ (r1 < 0 ∨ (decide (r1 < 0) = false ∧ 0 < r2))) := by
      generalize s * (m : Int) = z at *
      by_cases hin : -9223372036854775808 ≤ z ∧ z ≤ 9223372036854775807
      · left
        refine ⟨hin, decide_eq_false ?_, decide_eq_false ?_⟩
        · rw [hr1]; unfold cmpZ; repeat' split <;> omega
        · rw [hr2]; unfold cmpZ; repeat' split <;> omega
      · right
        refine ⟨hin, ?_⟩
        by_cases hlo : z < -9223372036854775808
        · left; rw [hr1, cmpZ_lt (by omega)]; omega
        · right
          refine ⟨decide_eq_false ?_, ?_⟩
          · rw [hr1, cmpZ_gt (by omega)]; omega
          · rw [hr2, cmpZ_gt (by omega)]; omega
    have KEY := Lib.hid key
    clear p1 p3 p4 hx hW0 hB hl IX sm hm sg1 sg2 hN1 hN2 hr1 hr2 HC key
    go_enter Try.func43, Try.ntmps43
    go_wp2_with fail
    rw [HW0.out]
    refine (HI.out _ hT).mono ?_
    rintro e w1 ⟨rfl, hb⟩
    have HB1 := Lib.hid hb
    clear hb hT
    go_wp2_with fail
    refine (HO1.out _).mono ?_
    rintro e w2 ⟨a2, d2, rfl, hd2, ho2, hb2⟩
    have HB2 := Lib.hid (HB1.out.trans (hb2.mono HB1.out.size))
    have O2 := Lib.hid ho2
    clear hb2 ho2
    go_wp2_with fail
    refine (HO2.out _).mono ?_
    rintro e w3 ⟨a3, d3, rfl, hd3, ho3, hb3⟩
    have HB3 := Lib.hid (HB2.out.trans (hb3.mono HB2.out.size))
    obtain ⟨W4, hW4⟩ : ∃ W4 : World, (w3.alloc (.cells #[.int .i64 (-1), .slice a2 (lim N1).length d2] 43)).alloc (.cells #[.int .i64 1, .slice a3 (lim N2).length d3] 43) = W4 := ⟨_, rfl⟩
    obtain ⟨u1, u2, u3, u4⟩ := two_box w3 43 #[.int .i64 (-1), .slice a2 (lim N1).length d2] #[.int .i64 1, .slice a3 (lim N2).length d3]
    have O2b := Lib.hid (((O2.out.below hb3).alloc (.cells #[.int .i64 (-1), .slice a2 (lim N1).length d2] 43)).alloc (.cells #[.int .i64 1, .slice a3 (lim N2).length d3] 43))
    have O3 := Lib.hid ((ho3.alloc (.cells #[.int .i64 (-1), .slice a2 (lim N1).length d2] 43)).alloc (.cells #[.int .i64 1, .slice a3 (lim N2).length d3] 43))
    rw [hW4] at u1 u2 u3 u4 O2b O3
    have HB4 := Lib.hid (HB3.out.trans (u3.mono HB3.out.size))
    have UB2 := Lib.hid u2
    obtain ⟨k1, k2⟩ := SS.out _ HB4.out
    obtain ⟨k3, k4, _, _⟩ := u1.two
    obtain ⟨k5, k6, _, _⟩ := u2.two
    clear hb3 ho3 O2 u1 u2 u3 u4
    subst hW4
    go_wp2_with fail
    refine (HC1.out a2 d2 _ HB4.out G1.out L1.out O2b.out.ints).mono ?_
    rintro e w5 ⟨rfl, hb5⟩
    have HB5 := Lib.hid (HB4.out.trans (hb5.mono HB4.out.size))
    have UB5 := Lib.hid (UB2.out.below hb5)
    have O5 := Lib.hid (O3.out.below hb5)
    clear k1 k2 k3 k4 k5 k6 hb5 HB4 UB2 O3 HO1 HO2 HC1 O2b
    obtain ⟨k1, k2⟩ := SS.out _ HB5.out
    obtain ⟨k5, k6, _, _⟩ := UB5.out.two
    rcases KEY.out with ⟨hin, hd1, hd2⟩ | ⟨hin, hcase⟩
    · have HIN := Lib.hid hin
      clear hin
      go_wp2_with fail
      refine (HC2.out a3 d3 _ HB5.out G2.out L2.out O5.out.ints).mono ?_
      rintro e w6 ⟨rfl, hb6⟩
      have HB6 := Lib.hid (HB5.out.trans (hb6.mono HB5.out.size))
      clear k1 k2 k5 k6 hb6 UB5 O5 HC2
      obtain ⟨k1, k2⟩ := SS.out _ HB6.out
      go_wp2_with fail
      clear hd1 hd2
      go_loopw [6, 7] (fun o i wr => ∃ j n : Nat, j ≤ (lim m).length ∧ o = .int .i64 (s * ((val ((dig m).drop j) : Nat) : Int)) ∧ i = .int .i64 ((j : Int) - 1) ∧ wr = w6.drewN n) (fun _ i _ => (intOf i + 1).toNat)
      case atStart =>
        refine ⟨(lim m).length, 0, Nat.le_refl _, ?_, rfl, rfl⟩
        rw [List.drop_eq_nil_of_le (by rw [lim_length]; exact Nat.le_refl _)]
        simp [val]
      case round =>
        obtain ⟨j, n, hj, rfl, rfl, rfl⟩ := hrel
        by_cases hj0 : 0 < j
        · have hjd : j - 1 < (dig m).length := by rw [← lim_length]; omega
          obtain ⟨b, o, ha, hcB, hcell⟩ := (HX.out _ HB6.out) (j - 1) (by omega)
          simp only [lim, ofN_at] at hcell
          subst ha
          obtain ⟨x, hxk⟩ : ∃ x : Nat, x = (dig m)[j - 1] := ⟨_, rfl⟩
          rw [← hxk] at hcell
          have hstep : val ((dig m).drop (j - 1)) = x + 16777216 * val ((dig m).drop j) := by rw [val_drop _ _ hjd, ← hxk, show j - 1 + 1 = j by omega]
          have hle : val ((dig m).drop (j - 1)) ≤ m := by
            have := val_drop_le (dig m) (j - 1)
            rwa [val_dig] at this
          have hxb : x < 16777216 := by rw [hxk]; exact small_dig m (j - 1) hjd
          have HST := Lib.hid (int_step SM.out HIN.out hstep hxb hle)
          obtain ⟨v, hv⟩ : ∃ v, v = s * ((val ((dig m).drop j) : Nat) : Int) := ⟨_, rfl⟩
          rw [← hv] at HST ⊢
          have hi1 : ((j : Int) - 1).toNat = j - 1 := by omega
          have hi2 : (0 : Int) ≤ (j : Int) - 1 := by omega
          have hi3 : (j : Int) - 1 < ((lim m).length : Int) := by omega
          have hjI : (j : Int) ≤ 200 := by omega
          clear hxk hstep hle hxb hv hjd
          go_wp2
          go_quiet (fail)
          go_wp2
          go_roundw
          case rel => exact ⟨j - 1, _, by omega, congrArg (Value.int .i64) HST.out, (by first | rfl | (congr 1; omega)), rfl⟩
          case measure => simp [intOf]; omega
        · obtain rfl : j = 0 := by omega
          rw [List.drop_zero, val_dig]
          have HR := Lib.hid (show intR s (lim m) = (s * (m : Int), 0) by rw [intR_yes e1.out (by rw [wv_lim]; exact HIN.out), wv_lim])
          obtain ⟨z, hz⟩ : ∃ z, z = s * (m : Int) := ⟨_, rfl⟩
          rw [← hz] at HR ⊢
          clear hz hj0 hj
          go_wp2
          go_ret2
          rw [HR.out]
          exact HEND.out _ _ (below_drewN HB6.out _)
    · have HR := Lib.hid (show intR s (lim m) = (0, 3) by rw [intR_lim e1.out (by rw [wv_lim]; exact hin)])
      clear hin
      rcases hcase with hd1 | ⟨hd1, hd2⟩
      · go_wp2_with fail
        go_ret2
        rw [HR.out]
        exact HEND.out _ _ HB5.out
      · go_wp2_with fail
        refine (HC2.out a3 d3 _ HB5.out G2.out L2.out O5.out.ints).mono ?_
        rintro e w6 ⟨rfl, hb6⟩
        have HB6 := Lib.hid (HB5.out.trans (hb6.mono HB5.out.size))
        clear k1 k2 k5 k6 hb6 UB5 O5 HC2
        go_wp2_with fail
        go_ret2
        rw [HR.out]
        exact HEND.out _ _ HB6.out
end Go.Proofs.Ytpchcigpppdfiaa
