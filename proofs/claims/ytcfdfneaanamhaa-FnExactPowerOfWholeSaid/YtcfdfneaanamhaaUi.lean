/-
  Contracts: PowerOfWhole of the model. Conditions: the limbs can be read.
-/
import Derived.Test.YtcfdfneaanamhaaUh
import Derived.Test.YtcfdfneaanamhaaUg
import Derived.Test.YtcfdfneaanamhaaLx
import Derived.Test.YtcfdfneaanamhaaUc
namespace Go.Proofs.Ytcfdfneaanamhaa
open Go Go.RowKit

theorem PowAt.start2 {w : World} {lo : Nat} {a : Option Addr} {c : Nat} (ho : Own w lo a (lim 1)) (hc : (lim 1).length ≤ c) : PowAt (w.alloc (.cells #[.int .i64 1, .slice a (lim 1).length c] 26)) lo w.heap.size 1 a c :=
  ⟨by rw [show (1 : Int).natAbs = 1 from rfl, lim_one]; simp, hc, ho.alloc _, BoxAt.new w 26 #[.int .i64 1, .slice a (lim 1).length c]⟩
theorem abs_sg {s : Int} {m : Nat} (h : Sg s m) : (s * (m : Int)).natAbs = m := by
  unfold Sg at h
  rcases h with ⟨rfl, rfl⟩ | ⟨_, rfl | rfl⟩ <;> simp

set_option maxRecDepth 100000 in
set_option maxHeartbeats 4000000 in
theorem sPowerOfWhole (s : Int) (a : Option Addr) (xs : List Int) (c1 : Nat) (k : Int) (w : World) (B : Nat) (hB : B ≤ w.heap.size) (hx : Ints w B a xs) (hl : xs.length ≤ 9223372036854775807) :
    Calls Try.prog 46 #[.agg #[.int .i64 s, .slice a xs.length c1], .int .i64 k] w (RetWC (powR s xs k) w.heap.size w) := by
  obtain ⟨W0, hW0⟩ : ∃ W0 : World, (w.alloc (.cells #[.int .i64 s, .slice a xs.length c1] 26)).alloc (.cells #[.int .i64 0, .slice none 0 0] 26) = W0 := ⟨_, rfl⟩
  obtain ⟨p1, p2, p3, p4⟩ := two_box w 26 #[.int .i64 s, .slice a xs.length c1] #[.int .i64 0, .slice none 0 0]
  rw [hW0] at p1 p2 p3 p4
  have HW0 := Lib.hid hW0
  have P3 := Lib.hid p3
  have P4 := Lib.hid p4
  have SS := Lib.hid (show ∀ W, Below W0.heap.size W0 W → (W.cell? ⟨w.heap.size, 0, none⟩ = some (.int .i64 s) ∧ W.cell? ⟨w.heap.size, 1, none⟩ = some (.slice a xs.length c1)) from
    fun W hW => ⟨(p1.below hW).cell 0, (p1.below hW).cell 1⟩)
  have SR := Lib.hid (show ∀ W, Below W0.heap.size W0 W → (W.cell? ⟨w.heap.size + 1, 0, none⟩ = some (.int .i64 0) ∧ W.cell? ⟨w.heap.size + 1, 1, none⟩ = some (.slice none 0 0) ∧ W.frozen? ⟨w.heap.size + 1, 0, none⟩ = false ∧ W.frozen? ⟨w.heap.size + 1, 1, none⟩ = false) from
    fun W hW => (p2.below hW).two)
  have hT : Below W0.heap.size W0 W0 := Below.refl _ _
  have IX := Lib.hid (show ∀ W, Below W0.heap.size W0 W → Ints W B a xs ∧ B ≤ W.heap.size from fun W hW => ⟨hx.below ((p3.mono hB).trans (hW.mono (by omega))), by have := hW.size; omega⟩)
  have HI := Lib.hid (show ∀ W, Below W0.heap.size W0 W → Calls Try.prog 61 #[.agg #[.int .i64 s, .slice a xs.length c1]] W fun e w' => e = .returned (.bool (whB s xs)) ∧ Below W0.heap.size W0 w' from
    fun W hW => (sIs s a xs c1 W B (IX.out W hW).2 hl (IX.out W hW).1).mono fun e w' ⟨he, hb⟩ => ⟨he, hW.trans (hb.mono hW.size)⟩)
  cases h1 : whB s xs
  · rw [powR_no (fun h => by rw [whB_iff.2 h] at h1; cases h1)]
    rw [h1] at HI
    clear p1 p2 p3 p4 hx hW0 hB h1 hl IX
    go_enter Try.func46, Try.ntmps46
    go_wp2_with fail
    rw [HW0.out]
    refine (HI.out _ hT).mono ?_
    rintro e w1 ⟨rfl, hb⟩
    obtain ⟨q1, q2, q3, q4⟩ := SR.out _ hb
    go_wp2_with fail
    refine bodyPost_ret (v := .tuple #[.agg #[.int .i64 0, .slice none 0 0], .int .i64 1]) (by simp [results, Try.results46, go_sem, *]) rfl ?_
    exact retWC_zero2 1 P3.out P4.out hb _ _
  · have e1 := Lib.hid (whB_iff.1 h1)
    rw [h1] at HI
    clear h1
    by_cases hk0 : k < 0 ∨ 200 < k
    · rw [powR_range e1.out hk0]
      have HN := Lib.hid (show ∀ W, Calls Try.prog 86 #[.int .i64 k, .int .i64 0, .int .i64 200] W fun e w' => e = .returned (.bool false) ∧ W = w' from fun W => in_no k 0 200 W hk0)
      clear p1 p2 p3 p4 hx hW0 hB hl IX hk0
      go_enter Try.func46, Try.ntmps46
      go_wp2_with fail
      rw [HW0.out]
      refine (HI.out _ hT).mono ?_
      rintro e w1 ⟨rfl, hb⟩
      obtain ⟨q1, q2, q3, q4⟩ := SR.out _ hb
      go_wp2_with fail
      refine (HN.out _).mono ?_
      rintro e w2 ⟨rfl, rfl⟩
      go_wp2_with fail
      refine bodyPost_ret (v := .tuple #[.agg #[.int .i64 0, .slice none 0 0], .int .i64 2]) (by simp [results, Try.results46, go_sem, *]) rfl ?_
      exact retWC_zero2 2 P3.out P4.out hb _ _
    · obtain ⟨K, rfl⟩ := Int.eq_ofNat_of_zero_le (show 0 ≤ k by omega)
      have hK : K ≤ 200 := by omega
      rw [powR_yes e1.out hK]
      obtain ⟨m, rfl, hm, sm⟩ := isWh_of e1.out
      rw [wv_lim]
      have HY := Lib.hid (show ∀ W, Calls Try.prog 86 #[.int .i64 (K : Int), .int .i64 0, .int .i64 200] W fun e w' => e = .returned (.bool true) ∧ W = w' from fun W => in_yes (K : Int) 0 200 W (by omega) (by omega))
      have HO1 := Lib.hid (show ∀ W, Calls Try.prog 76 #[.int .i64 1] W (RetN 1 1 W) from fun W => sOf 1 (by omega) (by omega) W)
      have HT := Lib.hid (show ∀ (p : Int) (b : Option Addr) (d : Nat) W, Below W0.heap.size W0 W → (lim p.natAbs).length ≤ 200 → Ints W W.heap.size b (lim p.natAbs) → Calls Try.prog 84 #[.agg #[.int .i64 p.sign, .slice b (lim p.natAbs).length d], .agg #[.int .i64 s, .slice a (lim m).length c1]] W (RetZ (p * (s * m)) W) from
        fun p b d W hW h1 h2 => by
          have := sMul p.sign s b a p.natAbs m d c1 W W.heap.size B (Nat.le_refl _) (IX.out W hW).2 h2 (IX.out W hW).1 (Sg.of p) sm (by omega) (by omega)
          rw [Int.sign_mul_natAbs] at this
          exact this)
      have HIS := Lib.hid (show ∀ (y : Int) (b : Option Addr) (d : Nat) W, (lim y.natAbs).length ≤ 400 → Ints W W.heap.size b (lim y.natAbs) → Calls Try.prog 61 #[.agg #[.int .i64 y.sign, .slice b (lim y.natAbs).length d]] W (RetB (.bool (whB y.sign (lim y.natAbs))) W) from
        fun y b d W h1 h2 => sIs y.sign b (lim y.natAbs) d W W.heap.size (Nat.le_refl _) (by omega) h2)
      have hzl := abs_sg sm
      obtain ⟨z, hz⟩ : ∃ z, z = s * (m : Int) := ⟨_, rfl⟩
      rw [← hz] at HT hzl ⊢
      have HZL := Lib.hid (show (lim z.natAbs).length ≤ 200 by rw [hzl]; exact hm)
      obtain ⟨⟨r1, r2, r3⟩, hr⟩ : ∃ r, r = powF z 1 K := ⟨_, rfl⟩
      rw [← hr]
      have HR := Lib.hid hr.symm
      have hKI : (K : Int) ≤ 200 := by omega
      clear p1 p2 p3 p4 hx hW0 hB hl IX hk0 hz hr sm hm e1 hK hzl
      go_enter Try.func46, Try.ntmps46
      go_wp2_with fail
      rw [HW0.out]
      refine (HI.out _ hT).mono ?_
      rintro e w1 ⟨rfl, hb⟩
      have HB1 := Lib.hid hb
      have hs1 := hb.size
      clear hb
      go_wp2_with fail
      refine (HY.out _).mono ?_
      rintro e wy ⟨rfl, rfl⟩
      go_wp2_with fail
      refine (HO1.out _).mono ?_
      rintro e w2 ⟨a2, c2, rfl, hc2, ho2, hb2⟩
      have HST := Lib.hid (PowAt.start2 (ho2.mono hs1) hc2)
      have HB2 := Lib.hid (below_alloc (HB1.out.trans (hb2.mono hs1)) (.cells #[.int .i64 1, .slice a2 (lim 1).length c2] 26))
      have hs2 := hb2.size
      clear hc2 ho2 hb2
      have P4' := P4.out
      go_wp2_with fail
      go_loopw [1] (fun q wr => ∃ (j : Nat) (p : Int) (b : Option Addr) (d : Nat), q = .int .i64 j ∧ j ≤ K ∧ Hid (powF z p j = (r1, r2, r3)) ∧ PowAt wr W0.heap.size w2.heap.size p b d ∧ Below W0.heap.size W0 wr) (fun q _ => (intOf q).toNat)
      case atStart => exact ⟨K, 1, _, _, rfl, Nat.le_refl _, HR, HST.out, HB2.out⟩
      case round =>
        obtain ⟨j, p, b, d, rfl, hj, hf, hpow, hbel⟩ := hrel
        have HP := Lib.hid hpow
        have HBL := Lib.hid hbel
        have hs3 := hbel.size
        clear hpow hbel
        obtain ⟨y1, y2, y3, y4⟩ := HP.out.box.two
        by_cases hj0 : 0 < j
        · have hjI : (0 : Int) < (j : Int) := by omega
          have hjB : (j : Int) ≤ 200 := by omega
          obtain ⟨k1, k2⟩ := SS.out _ HBL.out
          have hf2 : powF z p ((j - 1) + 1) = (r1, r2, r3) := by rw [show j - 1 + 1 = j by omega]; exact hf.out
          have HF := Lib.hid hf2
          clear hf2 hf
          go_wp2_with fail
          refine (HT.out p b d _ HBL.out HP.out.len HP.out.own.ints).mono ?_
          rintro e w3 ⟨b2, d2, rfl, hd2, ho2, hb2⟩
          obtain ⟨y, hy⟩ : ∃ y, y = p * z := ⟨_, rfl⟩
          rw [← hy] at hd2 ho2 ⊢
          have HBL3 := Lib.hid (HBL.out.trans (hb2.mono HBL.out.size))
          have hylen : (lim y.natAbs).length ≤ 400 := by
            have h1 := lim_mul_len p.natAbs z.natAbs
            rw [← Int.natAbs_mul, ← hy] at h1
            have h2 := HP.out.len
            have h3 := HZL.out
            omega
          obtain ⟨z1, z2, z3, z4⟩ := (HP.out.box.below hb2).two
          have hlt := (HP.out.box.below hb2).lt
          have HB4 := Lib.hid (show Below W0.heap.size W0 ((w3.setCell ⟨w2.heap.size, 0, none⟩ (.int .i64 y.sign)).setCell ⟨w2.heap.size, 1, none⟩ (.slice b2 (lim y.natAbs).length d2)) from
            (HBL3.out.setCell (by simp <;> omega) _).setCell (by simp <;> omega) _)
          have HOW := Lib.hid (show Own ((w3.setCell ⟨w2.heap.size, 0, none⟩ (.int .i64 y.sign)).setCell ⟨w2.heap.size, 1, none⟩ (.slice b2 (lim y.natAbs).length d2)) wr.heap.size b2 (lim y.natAbs) from
            (ho2.setFar (by simpa using HP.out.box.lt) _).setFar (by simpa using HP.out.box.lt) _)
          have HBX := Lib.hid (show BoxAt ((w3.setCell ⟨w2.heap.size, 0, none⟩ (.int .i64 y.sign)).setCell ⟨w2.heap.size, 1, none⟩ (.slice b2 (lim y.natAbs).length d2)) w2.heap.size 26 #[.int .i64 y.sign, .slice b2 (lim y.natAbs).length d2] from by
            have := ((HP.out.box.below hb2).set_ 0 (.int .i64 y.sign)).set_ 1 (.slice b2 (lim y.natAbs).length d2)
            simpa using this)
          have HCALL := Lib.hid (HIS.out y b2 d2 _ hylen HOW.out.ints)
          have HD2 := Lib.hid hd2
          obtain ⟨x1, x2, x3, x4⟩ := HBX.out.two
          by_cases hfit : (lim y.natAbs).length ≤ 200
          · have hF2 := HF.out
            rw [powF_yes (by rw [← hy]; exact hfit), ← hy] at hF2
            have HF2 := Lib.hid hF2
            have HFIT := Lib.hid hfit
            rw [whB_yes (isWh_lim hfit (Sg.of y))] at HCALL
            clear hd2 ho2 hb2 hfit y1 y2 y3 y4 hF2 HF k1 k2 hy hylen
            go_wp2_with fail
            refine HCALL.out.mono ?_
            rintro e w5 ⟨rfl, hb5⟩
            have HP2 := Lib.hid (show PowAt w5 W0.heap.size w2.heap.size y b2 d2 from ⟨HFIT.out, HD2.out, (HOW.out.mono hs3).below hb5, HBX.out.below hb5⟩)
            have HB5 := Lib.hid (HB4.out.trans (hb5.mono HB4.out.size))
            clear hb5
            go_wp2_with fail
            go_roundw
            case rel => exact ⟨j - 1, y, b2, d2, by first | go_num | (congr 1; omega), by omega, HF2.out, HP2.out, HB5.out⟩
            case measure => simp [intOf]; omega
          · have hF2 := HF.out
            rw [powF_no (by rw [← hy]; omega)] at hF2
            simp only [Prod.mk.injEq] at hF2
            obtain ⟨rfl, rfl, rfl⟩ := hF2
            rw [whB_no (isWh_lim_no (by omega))] at HCALL
            clear hd2 ho2 hb2 hfit y1 y2 y3 y4 HF k1 k2 hy hylen
            go_wp2_with fail
            refine HCALL.out.mono ?_
            rintro e w5 ⟨rfl, hb5⟩
            have HB5 := Lib.hid (HB4.out.trans (hb5.mono HB4.out.size))
            obtain ⟨q1, q2, q3, q4⟩ := SR.out _ HB5.out
            clear hb5
            go_wp2_with fail
            refine bodyPost_ret (v := .tuple #[.agg #[.int .i64 0, .slice none 0 0], .int .i64 3]) (by simp [results, Try.results46, go_sem, *]) rfl ?_
            exact retWC_zero2 3 P3.out P4.out HB5.out _ _
        · obtain rfl : j = 0 := by omega
          have hF := hf.out
          rw [powF] at hF
          simp only [Prod.mk.injEq] at hF
          obtain ⟨rfl, rfl, rfl⟩ := hF
          obtain ⟨q1, q2, q3, q4⟩ := SR.out _ HBL.out
          clear hf hj0
          go_wp2_with fail
          refine bodyPost_ret (v := .tuple #[.agg #[.int .i64 p.sign, .slice b (lim p.natAbs).length d], .int .i64 0]) (by simp [results, Try.results46, go_sem, *]) rfl ?_
          exact retWC_end2 (r := (p.sign, lim p.natAbs, 0)) P3.out P4.out HBL.out _ _ HP.out.own HP.out.fit
end Go.Proofs.Ytcfdfneaanamhaa
