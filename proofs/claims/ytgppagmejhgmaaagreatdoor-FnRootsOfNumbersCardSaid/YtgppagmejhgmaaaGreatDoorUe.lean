/-
  Contracts: IntegerOf of the program. Conditions: the limbs can be read. Contracts: magnitudes divided by a part. Conditions: the limbs can be read. Contracts: integers as whole numbers, of the program and of the model. No conditions.
-/
import Derived.Test.YtgppagmejhgmaaaGreatDoorUd
import Derived.Test.YtgppagmejhgmaaaGreatDoorMt
import Derived.Lib.ItoaNum
import Derived.Laws.BitsAllLaws
namespace Go.Proofs.YtgppagmejhgmaaaGreatDoor
set_option linter.unusedVariables false
open Go Go.RowKit

theorem bit_bounds {x : Nat} (h : x < 16777216) (h0 : x ≠ 0) : 1 ≤ Lib.bitLen x ∧ 2 ^ (Lib.bitLen x - 1) ≤ x ∧ x < 2 ^ Lib.bitLen x :=
  Lib.bitLenAux_bounds 64 x (by omega) h0
theorem last_bounds {n : Nat} (h : n ≠ 0) : 16777216 ^ ((dig n).length - 1) * (dig n).getD ((dig n).length - 1) 0 ≤ n ∧ n < 16777216 ^ ((dig n).length - 1) * ((dig n).getD ((dig n).length - 1) 0 + 1) := by
  have hp := dig_length_pos h
  have h1 := val_take_getD (dig n) ((dig n).length - 1)
  rw [show (dig n).length - 1 + 1 = (dig n).length by omega, List.take_length, val_dig] at h1
  have h2 : val ((dig n).take ((dig n).length - 1)) < 16777216 ^ ((dig n).take ((dig n).length - 1)).length := val_lt (small_take (small_dig n) _)
  rw [List.length_take, show min ((dig n).length - 1) (dig n).length = (dig n).length - 1 by omega] at h2
  rw [Nat.mul_add]
  omega
theorem blen_64 {n : Nat} : blen n ≤ 64 ↔ n < 18446744073709551616 := by
  by_cases h : n = 0
  · subst h; simp [blen]
  have hp := dig_length_pos h
  obtain ⟨h1, h2⟩ := last_bounds h
  rw [blen_pos h]
  have hlast : (dig n).getD ((dig n).length - 1) 0 < 16777216 := getD_lt (small_dig n) _
  have hne : (dig n).getD ((dig n).length - 1) 0 ≠ 0 := by
    rw [getD_of_lt (by omega : (dig n).length - 1 < (dig n).length)]
    exact (norm_dig n).2 hp
  obtain ⟨b1, b2, b3⟩ := bit_bounds hlast hne
  generalize (dig n).getD ((dig n).length - 1) 0 = d at *
  obtain ⟨q, hq⟩ : ∃ q, q = Lib.bitLen d := ⟨_, rfl⟩
  rw [← hq] at b1 b2 b3 ⊢
  obtain ⟨l, hl⟩ : ∃ l, l = (dig n).length - 1 := ⟨_, rfl⟩
  rw [← hl] at h1 h2
  have e1 : (16777216 : Nat) ^ l = 2 ^ (24 * l) := by rw [Nat.pow_mul]
  rw [e1] at h1 h2
  constructor
  · intro hle
    have h3 : 2 ^ (24 * l) * (d + 1) ≤ 2 ^ (24 * l) * 2 ^ q := Nat.mul_le_mul_left _ b3
    rw [← Nat.pow_add] at h3
    have h4 : 2 ^ (24 * l + q) ≤ 2 ^ 64 := Nat.pow_le_pow_right (by omega) (by omega)
    omega
  · intro hlt
    rcases Int.lt_or_le 64 (24 * (((dig n).length : Int) - 1) + (q : Int)) with hgt | hle
    · exfalso
      have h3 : 2 ^ (24 * l) * 2 ^ (q - 1) ≤ 2 ^ (24 * l) * d := Nat.mul_le_mul_left _ b2
      rw [← Nat.pow_add] at h3
      have h4 : 2 ^ 64 ≤ 2 ^ (24 * l + (q - 1)) := Nat.pow_le_pow_right (by omega) (by omega)
      omega
    · exact hle
theorem len_64 {n : Nat} (h : n < 18446744073709551616) : (dig n).length ≤ 3 := dig_length_le (Nat.lt_of_lt_of_le h (by decide))

theorem or_add (v x : Nat) (i : Nat) (hv : v < 2 ^ i) (hx : v + x * 2 ^ i < 18446744073709551616) : bits .or .u64 (v : Int) ((x * 2 ^ i : Nat) : Int) = ((v + x * 2 ^ i : Nat) : Int) := by
  rw [u64_or_nat v (x * 2 ^ i) (by omega) (by omega)]
  have := Nat.shiftLeft_add_eq_or_of_lt hv x
  rw [Nat.shiftLeft_eq, Nat.or_comm] at this
  rw [← this, Nat.add_comm]

noncomputable def intR (s : Int) (xs : List Int) : Int × Int := @ite _ (IsWh s xs) (Classical.propDecidable _) (if -9223372036854775808 ≤ wv s xs ∧ wv s xs ≤ 9223372036854775807 then (wv s xs, 0) else (0, 3)) (0, 1)
theorem intR_yes {s : Int} {xs : List Int} (h : IsWh s xs) (k : -9223372036854775808 ≤ wv s xs ∧ wv s xs ≤ 9223372036854775807) : intR s xs = (wv s xs, 0) := by unfold intR; rw [if_pos h, if_pos k]
theorem intR_lim {s : Int} {xs : List Int} (h : IsWh s xs) (k : ¬ (-9223372036854775808 ≤ wv s xs ∧ wv s xs ≤ 9223372036854775807)) : intR s xs = (0, 3) := by unfold intR; rw [if_pos h, if_neg k]
theorem intR_no {s : Int} {xs : List Int} (h : ¬ IsWh s xs) : intR s xs = (0, 1) := by unfold intR; rw [if_neg h]

theorem val_take_le (xs : List Nat) (n : Nat) : val (xs.take n) ≤ val xs := by
  have h := congrArg val (List.take_append_drop n xs)
  rw [val_append] at h
  omega
theorem sg_64 {s : Int} {m : Nat} (h : Sg s m) (hm : m < 18446744073709551616) (k : ¬ (-9223372036854775808 ≤ s * (m : Int) ∧ s * (m : Int) ≤ 9223372036854775807)) :
    (s = 1 ∧ 9223372036854775808 ≤ m) ∨ (s = -1 ∧ 9223372036854775808 < m) := by
  unfold Sg at h
  rcases h with ⟨rfl, rfl⟩ | ⟨_, rfl | rfl⟩
  · simp at k
  · left; omega
  · right; omega
theorem sg_big {s : Int} {m : Nat} (h : Sg s m) (hm : ¬ m < 18446744073709551616) : ¬ (-9223372036854775808 ≤ s * (m : Int) ∧ s * (m : Int) ≤ 9223372036854775807) := by
  unfold Sg at h
  rcases h with ⟨rfl, rfl⟩ | ⟨_, rfl | rfl⟩ <;> omega

theorem or_0 (v x : Nat) (hv : v < 1) (hx : x < 18446744073709551616) : bits .or .u64 (v : Int) (x : Int) = ((v + 16777216 ^ 0 * x : Nat) : Int) := by
  obtain rfl : v = 0 := by omega
  have := or_add 0 x 0 (by omega) (by omega)
  simpa using this
theorem or_1 (v x : Nat) (hv : v < 16777216) (hx : x < 16777216) : bits .or .u64 (v : Int) (IntKind.u64.wrap ((x : Int) * 16777216)) = ((v + 16777216 ^ 1 * x : Nat) : Int) := by
  have h := or_add v x 24 (by omega) (by omega)
  have e : IntKind.u64.wrap ((x : Int) * 16777216) = ((x * 2 ^ 24 : Nat) : Int) := by rw [IntKind.wrap_u64]; omega
  rw [e, h]
  congr 1
  omega
theorem or_2 (v x : Nat) (hv : v < 281474976710656) (hx : v + 281474976710656 * x < 18446744073709551616) : bits .or .u64 (v : Int) (IntKind.u64.wrap ((x : Int) * 281474976710656)) = ((v + 16777216 ^ 2 * x : Nat) : Int) := by
  have h := or_add v x 48 (by omega) (by omega)
  have e : IntKind.u64.wrap ((x : Int) * 281474976710656) = ((x * 2 ^ 48 : Nat) : Int) := by rw [IntKind.wrap_u64]; omega
  rw [e, h]
  congr 1
  omega
theorem int_key {s : Int} {m : Nat} (h : Sg s m) (hm : m < 18446744073709551616) : ∃ n c : Int, wrap64 (wrap64 (m : Int) * s) = n ∧ cmpZ n 0 = c ∧
    (((-9223372036854775808 ≤ s * (m : Int) ∧ s * (m : Int) ≤ 9223372036854775807) ∧ n = s * (m : Int) ∧ (c != s) = false) ∨ (¬ (-9223372036854775808 ≤ s * (m : Int) ∧ s * (m : Int) ≤ 9223372036854775807) ∧ (c != s) = true)) := by
  by_cases hin : -9223372036854775808 ≤ s * (m : Int) ∧ s * (m : Int) ≤ 9223372036854775807
  · refine ⟨s * m, s, ?_, ?_, .inl ⟨hin, rfl, by simp⟩⟩
    · unfold Sg at h
      rcases h with ⟨rfl, rfl⟩ | ⟨_, rfl | rfl⟩
      · simp [wrap64]
      · unfold wrap64; omega
      · unfold wrap64; omega
    · unfold Sg at h
      rcases h with ⟨rfl, rfl⟩ | ⟨_, rfl | rfl⟩
      · simp [cmpZ]
      · exact cmpZ_gt (by omega)
      · exact cmpZ_lt (by omega)
  · rcases sg_64 h hm hin with ⟨rfl, h1⟩ | ⟨rfl, h1⟩
    · refine ⟨(m : Int) - 18446744073709551616, -1, ?_, cmpZ_lt (by omega), .inr ⟨hin, by decide⟩⟩
      unfold wrap64; omega
    · refine ⟨18446744073709551616 - (m : Int), 1, ?_, cmpZ_gt (by omega), .inr ⟨hin, by decide⟩⟩
      unfold wrap64; omega

set_option maxRecDepth 100000 in
set_option maxHeartbeats 4000000 in
theorem iIntegerOf (s : Int) (a : Option Addr) (xs : List Int) (c1 : Nat) (w : World) (B : Nat) (hB : B ≤ w.heap.size) (hx : Ints w B a xs) (hl : xs.length ≤ 9223372036854775807) :
    Calls Tryz.prog 94 #[.agg #[.int .i64 s, .slice a xs.length c1]] w (RetB (.tuple #[.int .i64 (intR s xs).1, .int .i64 (intR s xs).2]) w) := by
  obtain ⟨W0, hW0⟩ : ∃ W0 : World, w.alloc (.cells #[.int .i64 s, .slice a xs.length c1] 60) = W0 := ⟨_, rfl⟩
  obtain ⟨p1, p3, p4⟩ := one_box w 60 #[.int .i64 s, .slice a xs.length c1]
  rw [hW0] at p1 p3 p4
  have HW0 := Lib.hid hW0
  have P3 := Lib.hid p3
  have P4 := Lib.hid p4
  have SS := Lib.hid (show ∀ W, Below W0.heap.size W0 W → (W.cell? ⟨w.heap.size, 0, none⟩ = some (.int .i64 s) ∧ W.cell? ⟨w.heap.size, 1, none⟩ = some (.slice a xs.length c1)) from
    fun W hW => ⟨(p1.below hW).cell 0, (p1.below hW).cell 1⟩)
  have IX := Lib.hid (show ∀ W, Below W0.heap.size W0 W → Ints W B a xs ∧ B ≤ W.heap.size from fun W hW => ⟨hx.below ((p3.mono hB).trans (hW.mono (by omega))), by have := hW.size; omega⟩)
  have hT : Below W0.heap.size W0 W0 := Below.refl _ _
  have HEND := Lib.hid (show ∀ v W, Below W0.heap.size W0 W → RetB v w (.returned v) W from fun v W hW => ⟨rfl, P3.out.trans (hW.mono (by omega))⟩)
  have HI := Lib.hid (show ∀ W, Below W0.heap.size W0 W → Calls Tryz.prog 112 #[.agg #[.int .i64 s, .slice a xs.length c1]] W fun e w' => e = .returned (.bool (whB s xs)) ∧ Below W0.heap.size W0 w' from
    fun W hW => (iIsWhole s a xs c1 W B (IX.out W hW).2 hl (IX.out W hW).1).mono fun e w' ⟨he, hb⟩ => ⟨he, hW.trans (hb.mono hW.size)⟩)
  cases h1 : whB s xs
  · rw [intR_no (fun h => by rw [whB_iff.2 h] at h1; cases h1)]
    rw [h1] at HI
    clear p1 p3 p4 hx hW0 hB h1 hl IX
    go_enter Tryz.func94, Tryz.ntmps94
    go_wp2_with fail
    rw [HW0.out]
    refine (HI.out _ hT).mono ?_
    rintro e w1 ⟨rfl, hb⟩
    go_wp2_with fail
    go_ret2
    exact HEND.out _ _ hb
  · have e1 := Lib.hid (whB_iff.1 h1)
    rw [h1] at HI
    clear h1
    obtain ⟨m, rfl, hm, sm⟩ := isWh_of e1.out
    have HS := Lib.hid (show ∀ W, Below W0.heap.size W0 W → Calls Tryz.prog 65 #[.agg #[.int .i64 s, .slice a (lim m).length c1]] W fun e w' => e = .returned (.slice a (lim m).length c1) ∧ Below W0.heap.size W0 w' from
      fun W hW => (iSize s a (lim m).length c1 W).mono fun e w' ⟨he, hb⟩ => ⟨he, hW.trans (hb.mono hW.size)⟩)
    have HML := Lib.hid (show ∀ W, Below W0.heap.size W0 W → Calls Tryz.prog 66 #[.slice a (lim m).length c1] W fun e w' => e = .returned (.int .i64 (blen m)) ∧ W = w' from
      fun W hW => iMagLength a m c1 W B (IX.out W hW).1 (by omega))
    by_cases h64 : m < 18446744073709551616
    · have hbl : decide (64 < blen m) = false := decide_eq_false (by have := blen_64.2 h64; omega)
      obtain ⟨q, hq⟩ : ∃ q, q = blen m := ⟨_, rfl⟩
      rw [← hq] at HML hbl
      have hl3 := len_64 h64
      rw [← lim_length] at hl3
      have HX := Lib.hid (show ∀ W, Below W0.heap.size W0 W → Ints W B a (lim m) from fun W hW => (IX.out W hW).1)
      have SM := Lib.hid sm
      have H64 := Lib.hid h64
      clear p1 p3 p4 hx hW0 hB hl IX sm hm hq h64
      go_enter Tryz.func94, Tryz.ntmps94
      go_wp2_with fail
      rw [HW0.out]
      refine (HI.out _ hT).mono ?_
      rintro e w1 ⟨rfl, hb⟩
      obtain ⟨k1, k2⟩ := SS.out _ hb
      go_wp2_with fail
      refine (HS.out _ hb).mono ?_
      rintro e w2 ⟨rfl, hb2⟩
      go_wp2_with fail
      refine (HML.out _ hb2).mono ?_
      rintro e w3 ⟨rfl, rfl⟩
      clear k1 k2
      obtain ⟨k1, k2⟩ := SS.out _ hb2
      go_wp2_with fail
      clear hbl hb hT
      have HB2 := Lib.hid hb2
      have hlI : ((lim m).length : Int) ≤ 3 := by omega
      clear hb2
      go_loop [18, 4] (fun i v => ∃ j : Nat, j ≤ (lim m).length ∧ i = .int .i64 j ∧ v = .int .u64 ((val ((dig m).take j) : Nat) : Int)) (fun i _ => (lim m).length - (intOf i).toNat)
      case atStart => exact ⟨0, Nat.zero_le _, rfl, by simp [val]⟩
      case round =>
        obtain ⟨j, hj, rfl, rfl⟩ := hrel
        by_cases hjl : j < (lim m).length
        · obtain ⟨b, o, ha, hcB, hcell⟩ := (HX.out _ HB2.out) j hjl
          simp only [lim, ofN_at] at hcell
          subst ha
          have hjd : j < (dig m).length := by rw [← lim_length]; exact hjl
          obtain ⟨x, hxk⟩ : ∃ x : Nat, x = (dig m)[j] := ⟨_, rfl⟩
          rw [← hxk] at hcell
          have hstep : val ((dig m).take (j + 1)) = val ((dig m).take j) + 16777216 ^ j * x := by rw [val_take_getD, getD_of_lt hjd, hxk]
          have hvlt : val ((dig m).take j) < 16777216 ^ j := by
            have := val_lt (small_take (small_dig m) j)
            rw [List.length_take, Nat.min_eq_left (by omega)] at this
            exact this
          have hxb : x < 16777216 := by rw [hxk]; exact small_dig m j hjd
          have hle : val ((dig m).take (j + 1)) ≤ m := by
            have := val_take_le (dig m) (j + 1)
            rwa [val_dig] at this
          obtain ⟨v, hv⟩ : ∃ v, v = val ((dig m).take j) := ⟨_, rfl⟩
          obtain ⟨v', hv'⟩ : ∃ v', v' = val ((dig m).take (j + 1)) := ⟨_, rfl⟩
          rw [← hv] at hstep hvlt ⊢
          rw [← hv'] at hstep hle
          have HST := Lib.hid hstep
          have HV := Lib.hid hv'
          have hj3 : j = 0 ∨ j = 1 ∨ j = 2 := by omega
          have hxI : (x : Int) ≤ 9223372036854775807 := by omega
          have hjI : (j : Int) < ((lim m).length : Int) := by omega
          have hvI : (v : Int) ≤ 281474976710656 := by
            rcases hj3 with rfl | rfl | rfl <;> (simp at hvlt; omega)
          have HW := Lib.hid (show v < 16777216 ^ j ∧ v + 16777216 ^ j * x < 18446744073709551616 ∧ x < 16777216 from ⟨hvlt, by have := H64.out; omega, hxb⟩)
          clear hxk hv hv' hle hvlt hxb hjd hstep
          rcases hj3 with rfl | rfl | rfl
          · rw [Nat.add_zero] at hcell
            go_wp2
            go_round
            case rel =>
              refine ⟨0 + 1, by omega, rfl, congrArg (Value.int .u64) ?_⟩
              rw [← HV.out, HST.out]
              have h := HW.out
              exact or_0 v x (by simpa using h.1) (by have := h.2.2; omega)
            case measure => simp [intOf]; omega
          · go_wp2
            go_round
            case rel =>
              refine ⟨1 + 1, by omega, rfl, congrArg (Value.int .u64) ?_⟩
              rw [← HV.out, HST.out]
              have h := HW.out
              exact or_1 v x (by simpa using h.1) h.2.2
            case measure => simp [intOf]; omega
          · go_wp2
            go_round
            case rel =>
              refine ⟨2 + 1, by omega, rfl, congrArg (Value.int .u64) ?_⟩
              rw [← HV.out, HST.out]
              have h := HW.out
              exact or_2 v x (by simpa using h.1) (by simpa using h.2.1)
            case measure => simp [intOf]; omega
        · obtain rfl : j = (lim m).length := by omega
          have hvm : val ((dig m).take (lim m).length) = m := by rw [List.take_of_length_le (by rw [lim_length]; exact Nat.le_refl _), val_dig]
          rw [hvm]
          have hmI : (m : Int) ≤ 18446744073709551615 := by have := H64.out; omega
          obtain ⟨n, c, hn, hc, hcase⟩ := int_key SM.out H64.out
          have HC := Lib.hid fun W => (cmpI64 n 0 W)
          rw [hc] at HC
          have HB3 := Lib.hid fun k => below_drewN HB2.out k
          rcases hcase with ⟨hin, hns, hcs⟩ | ⟨hin, hcs⟩
          · have HR := Lib.hid (show intR s (lim m) = (n, 0) by rw [intR_yes e1.out (by rw [wv_lim]; exact hin), wv_lim, hns])
            clear hvm hc hin hns hmI hlI hl3 hjl hj
            go_wp2
            (try rw [hn])
            clear hn
            go_quiet ((go_at_call 122; first | exact quietL HC.out _ | exact quietA HC.out _ _))
            go_wp2
            go_ret2
            rw [HR.out]
            exact HEND.out _ _ (HB3.out _)
          · have HR := Lib.hid (show intR s (lim m) = (0, 3) by rw [intR_lim e1.out (by rw [wv_lim]; exact hin)])
            clear hvm hc hin hmI hlI hl3 hjl hj
            go_wp2
            (try rw [hn])
            clear hn
            go_quiet ((go_at_call 122; first | exact quietL HC.out _ | exact quietA HC.out _ _))
            go_wp2
            go_ret2
            rw [HR.out]
            exact HEND.out _ _ (HB3.out _)
    · have hbl : decide (64 < blen m) = true := decide_eq_true (by have := mt blen_64.1 h64; omega)
      rw [intR_lim e1.out (by rw [wv_lim]; exact sg_big sm h64)]
      obtain ⟨q, hq⟩ : ∃ q, q = blen m := ⟨_, rfl⟩
      rw [← hq] at HML hbl
      clear p1 p3 p4 hx hW0 hB hl IX sm hm hq h64
      go_enter Tryz.func94, Tryz.ntmps94
      go_wp2_with fail
      rw [HW0.out]
      refine (HI.out _ hT).mono ?_
      rintro e w1 ⟨rfl, hb⟩
      obtain ⟨k1, k2⟩ := SS.out _ hb
      go_wp2_with fail
      refine (HS.out _ hb).mono ?_
      rintro e w2 ⟨rfl, hb2⟩
      go_wp2_with fail
      refine (HML.out _ hb2).mono ?_
      rintro e w3 ⟨rfl, rfl⟩
      go_wp2_with fail
      go_ret2
      exact HEND.out _ _ hb2

theorem i64_or_nat (a b : Nat) (ha : a < 9223372036854775808) (hb : b < 9223372036854775808) : bits .or .i64 (a : Int) (b : Int) = ((a ||| b : Nat) : Int) := by
  have hx : a ||| b < 2 ^ 63 := Nat.or_lt_two_pow (by omega) (by omega)
  show IntKind.i64.wrap ((BitVec.ofInt 64 (a : Int) ||| BitVec.ofInt 64 (b : Int)).toNat : Int) = _
  rw [BitVec.toNat_or, ofInt_u64 a (by omega), ofInt_u64 b (by omega), IntKind.wrap_i64]
  omega
theorem i64_or_add (x r : Nat) (hx : x < 16777216) (hr : r < 274877906944) : bits .or .i64 ((r : Int) * 16777216) (x : Int) = ((r * 16777216 + x : Nat) : Int) := by
  have h := i64_or_nat (r * 16777216) x (by omega) (by omega)
  have e : ((r * 16777216 : Nat) : Int) = (r : Int) * 16777216 := by omega
  rw [e] at h
  rw [h]
  have := Nat.shiftLeft_add_eq_or_of_lt (show x < 2 ^ 24 from hx) r
  rw [Nat.shiftLeft_eq] at this
  rw [this]

structure PartInv (L : List Nat) (p : Nat) (Q : List Nat) (k r : Nat) : Prop where
  len : Q.length = L.length
  small : Small Q
  rest : r < p
  eq : val (L.drop k) = p * val (Q.drop k) + r
theorem partInv_start (L : List Nat) {p : Nat} (hp : 0 < p) : PartInv L p (List.replicate L.length 0) L.length 0 :=
  ⟨by simp, fun i hi => by simp, hp, by simp [val]⟩
theorem partInv_step {L Q : List Nat} {p k r : Nat} (h : PartInv L p Q (k + 1) r) (hk : k < L.length) (hL : Small L) :
    PartInv L p (Q.set k ((r * 16777216 + L[k]) / p)) k ((r * 16777216 + L[k]) % p) ∧ (r * 16777216 + L[k]) / p < 16777216 := by
  have hx := hL k hk
  have hr := h.rest
  have hp : 0 < p := by omega
  have hq : (r * 16777216 + L[k]) / p < 16777216 := by
    rw [Nat.div_lt_iff_lt_mul hp]
    have h1 : (r + 1) * 16777216 ≤ p * 16777216 := Nat.mul_le_mul_right _ hr
    rw [Nat.mul_comm 16777216 p]
    omega
  have hkQ : k < Q.length := by rw [h.len]; exact hk
  refine ⟨⟨by simp [h.len], fun i hi => ?_, Nat.mod_lt _ hp, ?_⟩, hq⟩
  · rw [List.getElem_set]
    split
    · exact hq
    · exact h.small i (by simpa using hi)
  · rw [val_drop L k hk, val_drop (Q.set k _) k (by simpa using hkQ), List.getElem_set_self, List.drop_set_of_lt (by omega), h.eq]
    have h1 := Nat.div_add_mod (r * 16777216 + L[k]) p
    generalize (r * 16777216 + L[k]) / p = q at *
    generalize (r * 16777216 + L[k]) % p = t at *
    generalize val (Q.drop (k + 1)) = v at *
    grind
theorem partInv_end {L Q : List Nat} {p r : Nat} (h : PartInv L p Q 0 r) : val Q = val L / p ∧ r = val L % p := by
  have h1 := h.eq
  rw [List.drop_zero, List.drop_zero] at h1
  have hr := h.rest
  rw [h1]
  constructor
  · rw [Nat.mul_add_div (by omega), Nat.div_eq_of_lt hr]; omega
  · rw [Nat.mul_add_mod, Nat.mod_eq_of_lt hr]

set_option maxRecDepth 100000 in
set_option maxHeartbeats 2000000 in
theorem iByPart (a : Option Addr) (m c1 p : Nat) (w : World) (B : Nat) (hB : B ≤ w.heap.size) (hx : Ints w B a (lim m)) (hl : (lim m).length ≤ 1048576) (hp : 0 < p) (hp2 : p ≤ 100000000000) :
    Calls Tryz.prog 145 #[.slice a (lim m).length c1, .int .i64 (p : Int)] w fun e w' => ∃ a' c', e = .returned (.tuple #[.slice a' (lim (m / p)).length c', .int .i64 ((m % p : Nat) : Int)]) ∧ (lim (m / p)).length ≤ c' ∧ Own w' w.heap.size a' (lim (m / p)) ∧ Below w.heap.size w w' := by
  have HX := Lib.hid hx
  have HP2 := Lib.hid hp2
  have hmk := mk_mag (lim m).length (by omega)
  have hlI : ((lim m).length : Int) ≤ 1048576 := by omega
  have hp0 : ((p : Int) == 0) = false := beq_eq_false_iff_ne.2 (by omega)
  have hpp : (0 : Int) < (p : Int) := by omega
  have HL := Lib.hid (lim_length m)
  clear hx hp2 hl
  go_enter Tryz.func145, Tryz.ntmps145
  go_wp2
  clear hmk
  go_loopw [7, 8] (fun q i wr => ∃ (k r : Nat) (Q : List Nat), k ≤ (lim m).length ∧ i = .int .i64 ((k : Int) - 1) ∧ q = .int .i64 (r : Int) ∧ PartInv (dig m) p Q k r ∧ RowI wr w.heap.size (ofN Q) ∧ Below w.heap.size w wr) (fun _ i _ => (intOf i + 1).toNat)
  case atStart => exact ⟨(lim m).length, 0, _, Nat.le_refl _, rfl, rfl, by rw [HL.out]; exact partInv_start (dig m) hp, by rw [← HL.out, ofN_zeros]; exact RowI.made w _, (Below.refl _ _).alloc (Nat.le_refl _) _⟩
  case round =>
    obtain ⟨k, r, Q, hk, rfl, rfl, hinv, hrow, hbel⟩ := hrel
    have HI := Lib.hid hinv
    have HR := Lib.hid hrow
    have HB := Lib.hid hbel
    clear hinv hrow hbel
    by_cases hk0 : 0 < k
    · have hkd : k - 1 < (dig m).length := by rw [← HL.out]; omega
      obtain ⟨b, o, ha, hcB, hcell⟩ := HX.out (k - 1) (by omega)
      simp only [lim, ofN_at] at hcell
      subst ha
      have hI2 : PartInv (dig m) p Q ((k - 1) + 1) r := by rw [show k - 1 + 1 = k by omega]; exact HI.out
      obtain ⟨hst, hqb⟩ := partInv_step hI2 hkd (small_dig m)
      obtain ⟨x, hxk⟩ : ∃ x : Nat, x = (dig m)[k - 1] := ⟨_, rfl⟩
      rw [← hxk] at hcell hst hqb
      have hxb : x < 16777216 := by rw [hxk]; exact small_dig m (k - 1) hkd
      have hrb := HI.out.rest
      have hor := i64_or_add x r hxb (by have := HP2.out; omega)
      obtain ⟨t, ht⟩ : ∃ t : Nat, t = r * 16777216 + x := ⟨_, rfl⟩
      rw [← ht] at hor hst hqb
      have hq : Int.tdiv (t : Int) (p : Int) = ((t / p : Nat) : Int) := by rw [Int.tdiv_eq_ediv_of_nonneg (by omega)]; rfl
      have hm : Int.tmod (t : Int) (p : Int) = ((t % p : Nat) : Int) := by rw [Int.tmod_eq_emod_of_nonneg (by omega)]; rfl
      have HST := Lib.hid hst
      have HQB := Lib.hid hqb
      have hqb2 : t / p ≤ 16777215 := by omega
      have hx1 : wr.cell? ⟨b, o + (k - 1), none⟩ = some (.int .i64 x) := by rw [HB.out.cell (p := ⟨b, o + (k - 1), none⟩) (by show b < _; omega)]; exact hcell
      have hkQ : k - 1 < (ofN Q).length := by rw [ofN_length, HI.out.len]; exact hkd
      have h2 := HR.out.cell (k - 1) hkQ
      have h3 := HR.out.frozen (k - 1)
      have HKQ := Lib.hid hkQ
      have hi1 : ((k : Int) - 1).toNat = k - 1 := by omega
      have hi2 : (0 : Int) ≤ (k : Int) - 1 := by omega
      have hi3 : (k : Int) - 1 < ((lim m).length : Int) := by omega
      have hrI : (r : Int) ≤ 100000000000 := by have := HP2.out; omega
      obtain ⟨q, hq'⟩ : ∃ q, q = t / p := ⟨_, rfl⟩
      obtain ⟨r', hr'⟩ : ∃ r', r' = t % p := ⟨_, rfl⟩
      rw [← hq'] at hq HST hqb2
      rw [← hr'] at hm HST
      have hqI : (q : Int) ≤ 16777215 := by omega
      clear hst hqb hcell hxk hxb hrb ht hI2 hkd hq' hr' hqb2
      go_wp2
      go_roundw
      case rel =>
        refine ⟨k - 1, r', Q.set (k - 1) q, by omega, by first | rfl | (congr 1; omega), rfl, HST.out, ?_, HB.out.setCell (Nat.le_refl _) _⟩
        rw [← ofN_set]
        exact HR.out.set_ (k - 1) HKQ.out _
      case measure => simp [intOf]; omega
    · obtain rfl : k = 0 := by omega
      have hlenQ := HI.out.len
      obtain ⟨d1, d2⟩ := partInv_end HI.out
      rw [val_dig] at d1 d2
      have HS := Lib.hid HI.out.small
      have hQ : Q.length = (lim m).length := by rw [hlenQ, HL.out]
      have HT := Lib.hid (iTrimmed (some ⟨w.heap.size, 0, none⟩) Q (lim m).length wr _ HR.out.ints HS.out (by omega) (by omega))
      have HEND := Lib.hid (show ∃ a' c', Ending.returned (.tuple #[.slice (some ⟨w.heap.size, 0, none⟩) (dig (val Q)).length (lim m).length, .int .i64 (r : Int)]) = .returned (.tuple #[.slice a' (lim (m / p)).length c', .int .i64 ((m % p : Nat) : Int)]) ∧ (lim (m / p)).length ≤ c' ∧ Own wr w.heap.size a' (lim (m / p)) ∧ Below w.heap.size w wr from by
        have hle := dig_length_val_le HS.out
        rw [← d1, ← d2]
        refine ⟨_, _, by rw [lim_length (val Q)], by rw [lim_length (val Q)]; omega, Own.row ?_ (Nat.le_refl _), HB.out⟩
        have := HR.out.take (dig (val Q)).length
        rwa [ofN_take, take_dig_len HS.out] at this)
      rw [hQ] at HT
      obtain ⟨len, hlen⟩ : ∃ len, len = (dig (val Q)).length := ⟨_, rfl⟩
      rw [← hlen] at HT HEND
      clear d1 d2 hlen hk hk0 hQ hlenQ
      go_wp2_with fail
      refine HT.out.mono ?_
      rintro e w' ⟨rfl, rfl⟩
      go_wp2_with fail
      go_ret2
      exact HEND.out

theorem u64_mask24 (v : Nat) (h : v < 18446744073709551616) : bits .and .u64 (v : Int) 16777215 = ((v % 16777216 : Nat) : Int) := by
  have := u64_and_nat v 16777215 h (by decide)
  rw [nat_mask24] at this
  exact this
theorem dig_small {n : Nat} (h : n < 18446744073709551616) : (dig n).length ≤ 3 := dig_length_le (Nat.lt_of_lt_of_le h (by decide))

set_option maxRecDepth 100000 in
set_option maxHeartbeats 1000000 in
theorem iMagOf (N : Nat) (hN : N < 18446744073709551616) (w : World) : Calls Tryz.prog 135 #[.int .u64 (N : Int)] w (RetL (lim N) w) := by
  have HN := Lib.hid hN
  clear hN
  go_enter Tryz.func135, Tryz.ntmps135
  go_wp2
  go_loopw [0, 3] (fun q v wr => ∃ (r : Nat) (L : List Nat), q = .int .u64 (r : Int) ∧ Hid (dig N = L ++ dig r) ∧ r ≤ N ∧ OwnV wr w.heap.size v (ofN L) ∧ Below w.heap.size w wr) (fun q _ _ => (intOf q).toNat)
  case atStart => exact ⟨N, [], rfl, rfl, Nat.le_refl _, OwnV.nil _ _, Below.refl _ _⟩
  case round =>
    obtain ⟨r, L, rfl, hd, hr, hown, hbel⟩ := hrel
    have OW := Lib.hid hown
    have HB := Lib.hid hbel
    have HR := Lib.hid hr
    have hsz : w.heap.size ≤ wr.heap.size := hbel.size
    clear hown hbel hr
    by_cases h0 : r = 0
    · subst h0
      obtain ⟨a', c', rfl, hc', _, ho⟩ := OW.out.parts
      have e : L = dig N := by have := hd.out; rw [dig_zero, List.append_nil] at this; exact this.symm
      have HE := Lib.hid e
      have HO := Lib.hid ho
      have HC := Lib.hid hc'
      clear e ho hc' OW
      go_wp2
      go_ret
      refine ⟨a', c', by rw [HE.out]; rfl, ?_, ?_, HB.out⟩
      · have := HC.out; rw [HE.out] at this; exact this
      · have := HO.out; rw [HE.out] at this; exact this
    · have h0I : (0 : Int) < (r : Int) := by omega
      have hmk := u64_mask24 r (by have := HN.out; have := HR.out; omega)
      have hlen : L.length ≤ 3 := by
        have h1 := dig_small HN.out
        rw [hd.out, List.length_append] at h1
        omega
      have HLN := Lib.hid hlen
      have hb1 : ((r % 16777216 : Nat) : Int) ≤ 9223372036854775807 := by omega
      have hd2 : dig N = (L ++ [r % 16777216]) ++ dig (r / 16777216) := by
        rw [hd.out, dig_pos h0, List.append_assoc]; rfl
      have HD2 := Lib.hid hd2
      obtain ⟨x, hx⟩ : ∃ x : Nat, x = r % 16777216 := ⟨_, rfl⟩
      rw [← hx] at hmk hb1 HD2
      clear hlen hd2 hx
      go_wp2_with (at_builtin; refine wp_app1 rfl _ _ 92 rfl Tryz.underlying92 wr (x : Int) rfl w.heap.size _ (ofN L) OW.out rfl rfl (by rw [ofN_length]; have := HLN.out; omega) (by omega) ?_; intro v' w' hown hb hs; have OW2 := Lib.hid hown; have HB2 := Lib.hid (hb w.heap.size (by omega) (Nat.le_refl _)); clear hown hb)
      go_roundw
      case rel =>
        refine ⟨r / 16777216, L ++ [x], by first | rfl | (congr 1; omega), HD2.out, by have := HR.out; omega, ?_, HB.out.trans HB2.out⟩
        rw [ofN_append]
        exact OW2.out
      case measure => simp [intOf]; omega
end Go.Proofs.YtgppagmejhgmaaaGreatDoor
