/-
  Draws of exact numbers: l03Draw. No conditions.
-/
import Derived.Test.YtnnbfoemmgddeaaGreatDoorGp
import Derived.Test.YtnnbfoemmgddeaaGreatDoorJb
import Derived.Test.YtnnbfoemmgddeaaGreatDoorFw
import Derived.Test.YtnnbfoemmgddeaaGreatDoorQm
import Derived.Test.YtnnbfoemmgddeaaGreatDoorTf
namespace Go.Proofs.YtnnbfoemmgddeaaGreatDoor
set_option linter.unusedVariables false
open Go Go.RowKit

/-- The call returned an exact number, maybe too large, in memory of its own; the source was drawn from. -/
def RetSY (B : Nat) (a : Option Addr) (len cap b : Nat) (w : World) (e : Ending) (w' : World) : Prop := ∃ s m x c z, e = .returned (.agg #[.int .i64 s, .slice x (lim m).length c, .int .i64 z]) ∧ Sg s m ∧ (lim m).length ≤ 500 ∧ (-20000 ≤ z ∧ z ≤ 20000) ∧ (lim m).length ≤ c ∧ Own w' w.heap.size x (lim m) ∧ Stay B a len cap b w w'
theorem retSY_done {B : Nat} {a : Option Addr} {len cap b : Nat} {w wE : World} {lo : Nat} {x : Option Addr} {s z : Int} {m c : Nat} (st : Stay B a len cap b w wE) (hb : b < w.heap.size) (ho : Own wE lo x (lim m)) (hlo : w.heap.size < lo) (hs : Sg s m) (hl : (lim m).length ≤ 500) (hz : -20000 ≤ z ∧ z ≤ 20000) (hc : (lim m).length ≤ c) (u0 u1 u2 : Value) :
    RetSY B a len cap b w (.returned (.agg #[.int .i64 s, .slice x (lim m).length c, .int .i64 z])) (((wE.setCell ⟨w.heap.size, 0, none⟩ u0).setCell ⟨w.heap.size, 1, none⟩ u1).setCell ⟨w.heap.size, 2, none⟩ u2) :=
  ⟨s, m, x, c, z, rfl, hs, hl, hz, hc, (ho.set3 hlo u0 u1 u2).mono (Nat.le_of_lt hlo), st.low hb (Below.set3 (Below.refl _ _) (Nat.le_refl _) u0 u1 u2)⟩
theorem redS_bound {s x : Int} {m : Nat} (hs : Sg s m) {L : Nat} (hl : (lim m).length ≤ L) : ∃ s' m' x', redS s m x = (s', lim m', x') ∧ Sg s' m' ∧ (lim m').length ≤ L ∧ (x' = 0 ∨ (x ≤ x' ∧ x' ≤ x + 24 * L)) := by
  by_cases h : m = 0
  · subst h
    exact ⟨0, 0, 0, by rw [redS_zero, lim_zero], .inl ⟨rfl, rfl⟩, by rw [lim_zero]; simp, .inl rfl⟩
  · refine ⟨s, od m, x + (tw m : Int), redS_pos h, hs.od h, ?_, .inr ⟨by omega, ?_⟩⟩
    · obtain ⟨ho, hp⟩ := od_mul h
      refine Nat.le_trans (lim_le_of_le ?_) hl
      have h3 := Nat.mul_le_mul_right (od m) (Nat.pow_pos (n := tw m) (show 0 < 2 by omega))
      rw [← ho] at h3
      omega
    · have := tw_len h
      rw [← lim_length] at this
      omega
theorem redF_bound (s : Bool) {m : Nat} {i : Int} (hF : Fit m i) : ∃ s' m' x', redZ (sg s m) i = (s', lim m', x') ∧ Sg s' m' ∧ (lim m').length ≤ 500 ∧ (-20000 ≤ x' ∧ x' ≤ 20000) := by
  have h53 := hF.1
  have hl : (lim (sg s m).natAbs).length ≤ 3 := by
    rw [sgf_abs, lim_length]
    exact dig_small (by omega)
  obtain ⟨s', m', x', h1, h2, h3, h4⟩ := redS_bound (x := i) (Sg.of (sg s m)) hl
  by_cases h0 : m = 0
  · subst h0
    have e0 : sg s 0 = 0 := by unfold sg; cases s <;> rfl
    exact ⟨0, 0, 0, by rw [e0, lim_zero]; unfold redZ; exact redS_zero _ _, .inl ⟨rfl, rfl⟩, by rw [lim_zero]; simp, by omega⟩
  · have hb := fit_bounds hF h0
    exact ⟨s', m', x', h1, h2, by omega, by omega⟩
theorem Stay.drew1 {B : Nat} {a : Option Addr} {len cap b : Nat} {w W : World} (h : Stay B a len cap b w W) : Stay B a len cap b w W.drew := by rw [World.drew_is_drewN]; exact h.drewN 1
theorem ofN_dig (n : Nat) : ofN (dig n) = lim n := rfl
theorem near_half {v K : Nat} {t : Int} (hv : v < 16777216) (hK : K ≤ 30) (ht : -2 ≤ t ∧ t ≤ 2) (s s' : Int) (hs : s.natAbs ≤ 1) (hs' : s'.natAbs ≤ 1) : (lim (s * (((v + 536870912) * 2 ^ K : Nat) : Int) + s' * (t.natAbs : Int)).natAbs).length ≤ 3 := by
  refine lim_len_small ?_
  have h1 := Int.natAbs_add_le (s * (((v + 536870912) * 2 ^ K : Nat) : Int)) (s' * (t.natAbs : Int))
  rw [Int.natAbs_mul, Int.natAbs_mul, Int.natAbs_natCast, Int.natAbs_natCast] at h1
  have h2 : 2 ^ K ≤ 2 ^ 30 := Nat.pow_le_pow_right (by omega) hK
  have h3 : (v + 536870912) * 2 ^ K ≤ 1073741824 * 2 ^ 30 := Nat.mul_le_mul (by omega) h2
  have h4 : s.natAbs * ((v + 536870912) * 2 ^ K) ≤ 1 * ((v + 536870912) * 2 ^ K) := Nat.mul_le_mul_right _ hs
  have h5 : s'.natAbs * t.natAbs ≤ 1 * 2 := Nat.mul_le_mul hs' (by omega)
  omega
theorem abs_sign (z : Int) : z.sign.natAbs ≤ 1 := by
  rcases Int.lt_trichotomy z 0 with h | h | h
  · rw [Int.sign_eq_neg_one_of_neg h]; decide
  · rw [h]; decide
  · rw [Int.sign_eq_one_of_pos h]; decide
theorem abs_sgnOf {s : Int} (n : Nat) (h : s.natAbs ≤ 1) : (sgnOf s n).natAbs ≤ 1 := by
  by_cases h0 : n = 0
  · subst h0; rw [sgnOf_zero]; decide
  · rw [sgnOf_pos h0]; exact h

set_option maxRecDepth 100000 in
set_option maxHeartbeats 8000000 in
theorem drawY (B : Nat) (a : Option Addr) (len cap b : Nat) (w : World) (hs : Src B a len cap w b) :
    Calls Tryz.prog 224 #[.pointer (some ⟨b, 0, none⟩)] w (RetSY B a len cap b w) := by
  have hbl := hs.hi
  obtain ⟨W1, hW1⟩ : ∃ W1 : World, w.alloc (.cells #[.int .i64 0, .slice none 0 0, .int .i64 0] 31) = W1 := ⟨_, rfl⟩
  have hsz : w.heap.size + 1 = W1.heap.size := by rw [← hW1]; simp
  have h1 := (Stay.refl hs).alloc' (.cells #[.int .i64 0, .slice none 0 0, .int .i64 0] 31)
  have hbx := BoxAt.new w 31 #[.int .i64 0, .slice none 0 0, .int .i64 0]
  rw [hW1] at h1 hbx
  have H1 := Lib.hid h1
  have HX := Lib.hid hbx
  have HW1 := Lib.hid hW1
  have HSZ := Lib.hid hsz
  have HBL := Lib.hid hbl
  have HB1 := Lib.hid (show b < W1.heap.size by omega)
  clear hs hbl h1 hbx hW1 hsz
  go_enter Tryz.func224, Tryz.ntmps224
  go_wp2_with fail
  rw [HW1.out]
  refine (next_from (Stay.refl H1.out.src) 4 (by omega) (by omega)).mono ?_
  rintro e wA ⟨v, hv, rfl, sA⟩
  have SA := Lib.hid sA
  clear sA
  have HCL := Lib.hid (show ∀ wD wE, Stay B a len cap b W1 wD → Below wD.heap.size wD wE → Stay B a len cap b W1 wE ∧ BoxAt wE w.heap.size 31 #[.int .i64 0, .slice none 0 0, .int .i64 0] ∧ Stay B a len cap b w wE ∧ w.heap.size < wD.heap.size from fun wD wE st hb => by
    have h := st.low HB1.out (hb.mono st.size)
    exact ⟨h, HX.out.stay h (by have := HBL.out; omega), H1.out.trans h, by have := st.size; have := HSZ.out; omega⟩)
  by_cases v0 : v = 0
  · subst v0
    clear hv
    go_wp2_with fail
    refine (float_fin B a len cap b W1 _ SA.out).mono ?_
    rintro e wB ⟨xf, hf, hl, rfl, sB⟩
    obtain ⟨sb, mb, ib, rfl, hF, hC⟩ := fin_fw hl hf
    obtain ⟨s', m', x', hr, hs1, hl1, hz1⟩ := redF_bound sb hF
    have HMK := Lib.hid (show Calls Tryz.prog 167 #[.float .f64 (fw sb mb ib)] wB (RetYR (s', lim m', x') wB) from by
      have := sL03Of sb mb ib hF hC wB
      rwa [hr] at this)
    obtain ⟨X, hX⟩ : ∃ X, fw sb mb ib = X := ⟨_, rfl⟩
    rw [hX] at HMK ⊢
    have SB := Lib.hid sB
    clear hf hl hF hC hr hX sB
    go_wp2_with fail
    refine HMK.out.mono ?_
    rintro e wE ⟨x6, c6, rfl, hc6, ho6, hb6⟩
    clear HMK
    obtain ⟨_, rE, stE, hlo⟩ := HCL.out _ _ SB.out hb6
    obtain ⟨q1, q2, q3, q4, q5, q6⟩ := rE.tri6
    have STE := Lib.hid stE
    have HO := Lib.hid ho6
    have HC := Lib.hid hc6
    have HLO := Lib.hid hlo
    have HR := Lib.hid (And.intro hs1 (And.intro hl1 hz1))
    clear rE stE hlo ho6 hc6 hb6 hs1 hl1 hz1
    go_wp2_with fail
    refine bodyPost_ret (v := .agg #[.int .i64 s', .slice x6 (lim m').length c6, .int .i64 x']) (by simp [results, Tryz.results224, go_sem, *]) rfl ?_
    exact retSY_done STE.out HBL.out HO.out HLO.out HR.out.1 HR.out.2.1 HR.out.2.2 HC.out _ _ _
  by_cases v1 : v = 1
  · subst v1
    clear hv v0
    go_wp2_with fail
    refine (next_from SA.out 2001 (by omega) (by omega)).mono ?_
    rintro e wB ⟨n, hn, rfl, sB⟩
    have HN := Lib.hid (show n < 2001 by omega)
    have SB := Lib.hid sB
    clear sB
    go_wp2_with fail
    refine (sOf ((n : Int) - 1000) (by omega) (by omega) wB).mono ?_
    rintro e wC ⟨x1, c1, rfl, hc1, ho1, hb1⟩
    obtain ⟨sC, _, _, _⟩ := HCL.out _ _ SB.out hb1
    have SC := Lib.hid sC
    have O1 := Lib.hid ho1
    have HBB := Lib.hid (show b < wB.heap.size from SB.out.src.hi)
    clear hc1 ho1 hb1 sC hn
    go_wp2_with fail
    refine (next_from (Stay.refl SC.out.src) 41 (by omega) (by omega)).mono ?_
    rintro e wD ⟨k, hk, rfl, sD⟩
    have HK := Lib.hid (show k < 41 by omega)
    have OMK := Lib.hid (O1.out.stay sD HBB.out)
    have SD := Lib.hid (SC.out.trans sD)
    clear sD O1
    have hlen : (lim ((n : Int) - 1000).natAbs).length ≤ 3 := lim_len_small (by have := HN.out; omega)
    obtain ⟨s', m', x', hr, hs1, hl0, hx0⟩ := redS_bound (s := ((n : Int) - 1000).sign) (x := (k : Int) - 20) (m := ((n : Int) - 1000).natAbs) (Sg.of _) (L := 3) hlen
    have hl1 : (lim m').length ≤ 500 := by omega
    have hz1 : -20000 ≤ x' ∧ x' ≤ 20000 := by have := HK.out; omega
    have HMK := Lib.hid (show Calls Tryz.prog 144 #[.agg #[.int .i64 (((n : Int) - 1000).sign), .slice x1 (lim (((n : Int) - 1000).natAbs)).length c1], .int .i64 ((k : Int) - 20)] wD (RetYR (s', lim m', x') wD) from by
      have := sMake3 (((n : Int) - 1000).sign) x1 (((n : Int) - 1000).natAbs) c1 ((k : Int) - 20) wD wD.heap.size (Nat.le_refl _) OMK.out.ints (Sg.of _) (Nat.le_trans hlen (by omega)) (by have := HK.out; omega) (by have := HK.out; omega)
      rwa [hr] at this)
    clear hr hl0 hx0
    go_wp2_with fail
    refine HMK.out.mono ?_
    rintro e wE ⟨x6, c6, rfl, hc6, ho6, hb6⟩
    clear HMK OMK
    clear hlen
    obtain ⟨_, rE, stE, hlo⟩ := HCL.out _ _ SD.out hb6
    obtain ⟨q1, q2, q3, q4, q5, q6⟩ := rE.tri6
    have STE := Lib.hid stE
    have HO := Lib.hid ho6
    have HC := Lib.hid hc6
    have HLO := Lib.hid hlo
    have HR := Lib.hid (And.intro hs1 (And.intro hl1 hz1))
    clear rE stE hlo ho6 hc6 hb6 hs1 hl1 hz1
    go_wp2_with fail
    refine bodyPost_ret (v := .agg #[.int .i64 s', .slice x6 (lim m').length c6, .int .i64 x']) (by simp [results, Tryz.results224, go_sem, *]) rfl ?_
    exact retSY_done STE.out HBL.out HO.out HLO.out HR.out.1 HR.out.2.1 HR.out.2.2 HC.out _ _ _
  by_cases v2 : v = 2
  · subst v2
    clear hv v0 v1
    go_wp2_with fail
    refine (next_from SA.out 16777216 (by omega) (by omega)).mono ?_
    rintro e wB ⟨n, hn, rfl, sB⟩
    have hn2 : (n : Int) ≤ 9223372036000000000 := by omega
    have HN := Lib.hid (show n < 16777216 by omega)
    have SB := Lib.hid sB
    have HBB := Lib.hid (show b < wB.heap.size from sB.src.hi)
    have hOF := sOf ((n + 536870912 : Nat) : Int) (by omega) (by omega) wB
    rw [Int.natAbs_natCast, show (((n + 536870912 : Nat) : Int)).sign = 1 from Int.sign_eq_one_of_pos (by omega), show ((n + 536870912 : Nat) : Int) = (n : Int) + 536870912 by omega] at hOF
    have HOF := Lib.hid hOF
    clear sB hn hOF
    go_wp2_with fail
    refine HOF.out.mono ?_
    rintro e wC ⟨x1, c1, rfl, hc1, ho1, hb1⟩
    obtain ⟨sC, _, _, _⟩ := HCL.out _ _ SB.out hb1
    have SC := Lib.hid sC
    have O1 := Lib.hid ho1
    have HBC := Lib.hid (show wB.heap.size ≤ wC.heap.size from hb1.size)
    clear hc1 ho1 hb1 sC HOF
    go_wp2_with fail
    refine (pickP_from (fun x => ∃ K : Nat, x = (K : Int) ∧ K ≤ 30) (Stay.refl SC.out.src) [24, 25, 30] 2 3 rfl (by omega) (by omega) (by
      intro x hx
      simp at hx
      rcases hx with h | h | h <;> exact ⟨x.toNat, by rw [h]; rfl, by rw [h]; decide⟩) _ rfl).mono ?_
    rintro e wD ⟨x, ⟨K, rfl, hK⟩, rfl, sD⟩
    have SD := Lib.hid (SC.out.trans sD)
    have O2 := Lib.hid (O1.out.stay sD HBB.out)
    have HK := Lib.hid hK
    have hlenN : (lim (n + 536870912)).length ≤ 3 := lim_len_small (by have := HN.out; omega)
    have HLN := Lib.hid hlenN
    have HLF := Lib.hid (show Calls Tryz.prog 158 #[.agg #[.int .i64 1, .slice x1 (lim (n + 536870912)).length c1], .int .i64 (K : Int)] wD _ from sLeft 1 x1 (n + 536870912) c1 K wD wD.heap.size (Nat.le_refl _) O2.out.ints (by omega) (by omega))
    clear sD hK hlenN O1
    go_wp2_with fail
    refine HLF.out.mono ?_
    rintro e wE ⟨x2, c2, rfl, hc2, ho2, hb2⟩
    obtain ⟨sE, _, _, _⟩ := HCL.out _ _ SD.out hb2
    have SE := Lib.hid sE
    have O3 := Lib.hid ho2
    have C3 := Lib.hid hc2
    have HBD := Lib.hid (show b < wD.heap.size from SD.out.src.hi)
    clear hc2 ho2 hb2 sE HLF O2
    go_wp2_with fail
    refine (next_from (Stay.refl SE.out.src) 5 (by omega) (by omega)).mono ?_
    rintro e wF ⟨k, hk, rfl, sF⟩
    have HK2 := Lib.hid (show k < 5 by omega)
    have SF := Lib.hid (SE.out.trans sF)
    have O4 := Lib.hid (O3.out.stay sF HBD.out)
    clear sF O3
    go_wp2_with fail
    refine (sOf ((k : Int) - 2) (by omega) (by omega) wF).mono ?_
    rintro e wG ⟨x3, c3, rfl, hc3, ho3, hb3⟩
    obtain ⟨sG, _, _, _⟩ := HCL.out _ _ SF.out hb3
    have SG := Lib.hid sG
    have O5 := Lib.hid (O4.out.below hb3)
    have O6 := Lib.hid ho3
    have C6 := Lib.hid hc3
    clear hc3 ho3 hb3 sG O4 hk
    obtain ⟨m2, hm2⟩ : ∃ m2, (n + 536870912) * 2 ^ K = m2 := ⟨_, rfl⟩
    obtain ⟨s2, hs2⟩ : ∃ s2, sgnOf 1 m2 = s2 := ⟨_, rfl⟩
    have hZl := near_half (v := n) (K := K) (t := (k : Int) - 2) HN.out HK.out (by have := HK2.out; omega) s2 ((k : Int) - 2).sign (by rw [← hs2]; exact abs_sgnOf _ (by decide)) (abs_sign _)
    have hsg2 : Sg s2 m2 := by rw [← hs2]; exact sg1
    have hm2l : (lim m2).length ≤ 1048576 := by
      have h1 := near_half (v := n) (K := K) (t := 0) HN.out HK.out (by omega) 1 0 (by decide) (by decide)
      rw [hm2] at h1
      simp at h1
      omega
    rw [hm2] at hZl O5 C3 ⊢
    rw [hs2]
    obtain ⟨Z, hZ⟩ : ∃ Z, s2 * (m2 : Int) + ((k : Int) - 2).sign * (((k : Int) - 2).natAbs : Int) = Z := ⟨_, rfl⟩
    rw [hZ] at hZl
    have HZL := Lib.hid hZl
    have HAD := Lib.hid (show Calls Tryz.prog 156 #[.agg #[.int .i64 s2, .slice x2 (lim m2).length c2], .agg #[.int .i64 ((k : Int) - 2).sign, .slice x3 (lim ((k : Int) - 2).natAbs).length c3]] wG (RetZ Z wG) from by
      have := sAdd s2 ((k : Int) - 2).sign x2 x3 m2 ((k : Int) - 2).natAbs c2 c3 wG wG.heap.size wG.heap.size (Nat.le_refl _) (Nat.le_refl _) O5.out.ints O6.out.ints hsg2 (Sg.of _) hm2l (by have : (lim ((k : Int) - 2).natAbs).length ≤ 3 := lim_len_small (by have := HK2.out; omega); omega) C3.out C6.out
      rwa [hZ] at this)
    clear hZl hZ hsg2 hm2l hm2 hs2
    go_wp2_with fail
    refine HAD.out.mono ?_
    rintro e wH ⟨x4, c4, rfl, hc4, ho4, hb4⟩
    obtain ⟨sH, _, _, _⟩ := HCL.out _ _ SG.out hb4
    obtain ⟨n4, hn4⟩ : ∃ n4, Z.natAbs = n4 := ⟨_, rfl⟩
    have hcz := HZL.out
    rw [hn4] at ho4 hc4 hcz ⊢
    obtain ⟨V2, hV2⟩ : ∃ V2 : World, wH.alloc (.cells #[.int .i64 Z.sign, .slice x4 (lim n4).length c4] 29) = V2 := ⟨_, rfl⟩
    have b2 := BoxAt.new wH 29 #[.int .i64 Z.sign, .slice x4 (lim n4).length c4]
    have st2 := sH.alloc' (.cells #[.int .i64 Z.sign, .slice x4 (lim n4).length c4] 29)
    have o2 := ho4.alloc (.cells #[.int .i64 Z.sign, .slice x4 (lim n4).length c4] 29)
    rw [hV2] at b2 st2 o2
    have BV := Lib.hid b2
    have SV := Lib.hid st2
    have OV := Lib.hid o2
    have CV := Lib.hid hc4
    have HZ4 := Lib.hid hcz
    have HBG := Lib.hid (show b < wG.heap.size from SG.out.src.hi)
    have HBH := Lib.hid (show b ≠ wH.heap.size by have := sH.src.hi; omega)
    have HGH := Lib.hid (show w.heap.size < wH.heap.size by have := sH.size; have := HSZ.out; omega)
    clear hc4 ho4 hb4 sH HAD b2 st2 o2 hcz O5 O6 C3 C6 HZL
    have HCE := Lib.hid (show ∀ W, Stay B a len cap b V2 W → (W.cell? ⟨wH.heap.size, 0, none⟩ = some (.int .i64 Z.sign) ∧ W.cell? ⟨wH.heap.size, 1, none⟩ = some (.slice x4 (lim n4).length c4)) from fun W st => by
      have h := BV.out.stay st (Ne.symm HBH.out)
      exact ⟨h.cell 0, h.cell 1⟩)
    have HMK := Lib.hid (show ∀ W z, (z = 1 ∨ z = -1) → Stay B a len cap b V2 W → Calls Tryz.prog 222 #[.int .i64 z, .slice x4 (lim n4).length c4] W (fun e w' => ∃ y d t, e = .returned (.agg #[.int .i64 t, .slice y (lim n4).length d]) ∧ Sg t n4 ∧ Own w' W.heap.size y (lim n4) ∧ Stay B a len cap b V2 w' ∧ b < W.heap.size ∧ Below W.heap.size W w') from fun W z hz st => by
      have h3 := sMake z x4 (dig n4) c4 W W.heap.size (Nat.le_refl _) (OV.out.stay st HBG.out).ints (small_dig n4) (by have := CV.out; rw [lim_length] at this; exact this) (by have := HZ4.out; rw [lim_length] at this; omega)
      rw [val_dig, ← lim_length] at h3
      refine h3.mono fun e w' ⟨y, d, he, hd, ho, hb⟩ => ⟨y, d, _, he, ?_, ho, st.low SV.out.src.hi (hb.mono st.size), st.src.hi, hb⟩
      by_cases h0 : n4 = 0
      · subst h0; exact .inl ⟨rfl, rfl⟩
      · rw [sgnOf_pos h0]; exact .inr ⟨h0, hz⟩)
    have hdr : Stay B a len cap b V2 V2.drew := by rw [World.drew_is_drewN]; exact (Stay.refl SV.out.src).drewN 1
    have hVB : b < V2.heap.size := SV.out.src.hi
    have hrf : Stay B a len cap b V2 V2 := Stay.refl SV.out.src
    have HPG := Lib.hid (show ∀ V c, Stay B a len cap b V2 V → c ≠ b → BoxAt V c 2 #[.int .i64 1, .int .i64 (-1)] → Calls Tryz.prog 108 #[.pointer (some ⟨b, 0, none⟩), .slice (some ⟨c, 0, none⟩) 2 2] V (fun e w' => ∃ z, (z = 1 ∨ z = -1) ∧ e = .returned (.int .i64 z) ∧ Stay B a len cap b V w') from fun V c st hc hb => pickP_any (fun z => z = 1 ∨ z = -1) B a len cap b c 2 2 V st.src (by omega) (by omega) hb.lt hc (fun i hi => by
      match i, hi with
      | 0, _ => exact ⟨1, .inl rfl, hb.cell 0⟩
      | 1, _ => exact ⟨-1, .inr rfl, hb.cell 1⟩))
    have HP1a := Lib.hid (show Calls Tryz.prog 108 #[.pointer (some ⟨b, 0, none⟩), .slice (some ⟨V2.heap.size, 0, none⟩) 2 2] ((V2.alloc (.cells #[.int .i64 1, .int .i64 (-1)] 2)).drew) (fun e w' => ∃ z, (z = 1 ∨ z = -1) ∧ e = .returned (.int .i64 z) ∧ Stay B a len cap b V2 w') from by
      have st : Stay B a len cap b V2 ((V2.alloc (.cells #[.int .i64 1, .int .i64 (-1)] 2)).drew) := by rw [World.drew_is_drewN]; exact ((Stay.refl SV.out.src).alloc' _).drewN 1
      exact (HPG.out _ V2.heap.size st (by omega) (BoxAt.new V2 2 #[.int .i64 1, .int .i64 (-1)])).mono fun e w' ⟨z, hz, he, s⟩ => ⟨z, hz, he, st.trans s⟩)
    have HP1b := Lib.hid (show Calls Tryz.prog 108 #[.pointer (some ⟨b, 0, none⟩), .slice (some ⟨V2.heap.size + 1, 0, none⟩) 2 2] (((V2.alloc (.cells #[.int .i64 0, .int .i64 (-60), .int .i64 (-1080), .int .i64 (-1100), .int .i64 940, .int .i64 970, .int .i64 (-150), .int .i64 70] 2)).alloc (.cells #[.int .i64 1, .int .i64 (-1)] 2)).drew) (fun e w' => ∃ z, (z = 1 ∨ z = -1) ∧ e = .returned (.int .i64 z) ∧ Stay B a len cap b V2 w' ∧ BoxAt w' V2.heap.size 2 #[.int .i64 0, .int .i64 (-60), .int .i64 (-1080), .int .i64 (-1100), .int .i64 940, .int .i64 970, .int .i64 (-150), .int .i64 70]) from by
      have st : Stay B a len cap b V2 (((V2.alloc (.cells #[.int .i64 0, .int .i64 (-60), .int .i64 (-1080), .int .i64 (-1100), .int .i64 940, .int .i64 970, .int .i64 (-150), .int .i64 70] 2)).alloc (.cells #[.int .i64 1, .int .i64 (-1)] 2)).drew) := by rw [World.drew_is_drewN]; exact (((Stay.refl SV.out.src).alloc' _).alloc' _).drewN 1
      have hb := BoxAt.new (V2.alloc (.cells #[.int .i64 0, .int .i64 (-60), .int .i64 (-1080), .int .i64 (-1100), .int .i64 940, .int .i64 970, .int .i64 (-150), .int .i64 70] 2)) 2 #[.int .i64 1, .int .i64 (-1)]
      rw [World.size_alloc] at hb
      have h8 := (BoxAt.new V2 2 #[.int .i64 0, .int .i64 (-60), .int .i64 (-1080), .int .i64 (-1100), .int .i64 940, .int .i64 970, .int .i64 (-150), .int .i64 70]).alloc (.cells #[.int .i64 1, .int .i64 (-1)] 2)
      exact (HPG.out _ (V2.heap.size + 1) st (by omega) hb).mono fun e w' ⟨z, hz, he, s⟩ => ⟨z, hz, he, st.trans s, BoxAt.stay (w := ((V2.alloc (.cells #[.int .i64 0, .int .i64 (-60), .int .i64 (-1080), .int .i64 (-1100), .int .i64 940, .int .i64 970, .int .i64 (-150), .int .i64 70] 2)).alloc (.cells #[.int .i64 1, .int .i64 (-1)] 2)).drew) h8 s (by omega)⟩)
    have HP1c := Lib.hid (show Calls Tryz.prog 108 #[.pointer (some ⟨b, 0, none⟩), .slice (some ⟨V2.heap.size, 0, none⟩) 2 2] (((V2.alloc (.cells #[.int .i64 1, .int .i64 (-1)] 2)).alloc (.cells #[.int .i64 0, .int .i64 (-60), .int .i64 (-1080), .int .i64 (-1100), .int .i64 940, .int .i64 970, .int .i64 (-150), .int .i64 70] 2)).drew) (fun e w' => ∃ z, (z = 1 ∨ z = -1) ∧ e = .returned (.int .i64 z) ∧ Stay B a len cap b V2 w' ∧ BoxAt w' (V2.heap.size + 1) 2 #[.int .i64 0, .int .i64 (-60), .int .i64 (-1080), .int .i64 (-1100), .int .i64 940, .int .i64 970, .int .i64 (-150), .int .i64 70]) from by
      have st : Stay B a len cap b V2 (((V2.alloc (.cells #[.int .i64 1, .int .i64 (-1)] 2)).alloc (.cells #[.int .i64 0, .int .i64 (-60), .int .i64 (-1080), .int .i64 (-1100), .int .i64 940, .int .i64 970, .int .i64 (-150), .int .i64 70] 2)).drew) := by rw [World.drew_is_drewN]; exact (((Stay.refl SV.out.src).alloc' _).alloc' _).drewN 1
      have hb := (BoxAt.new V2 2 #[.int .i64 1, .int .i64 (-1)]).alloc (.cells #[.int .i64 0, .int .i64 (-60), .int .i64 (-1080), .int .i64 (-1100), .int .i64 940, .int .i64 970, .int .i64 (-150), .int .i64 70] 2)
      have h8 := BoxAt.new (V2.alloc (.cells #[.int .i64 1, .int .i64 (-1)] 2)) 2 #[.int .i64 0, .int .i64 (-60), .int .i64 (-1080), .int .i64 (-1100), .int .i64 940, .int .i64 970, .int .i64 (-150), .int .i64 70]
      rw [World.size_alloc] at h8
      exact (HPG.out _ V2.heap.size st (by omega) hb).mono fun e w' ⟨z, hz, he, s⟩ => ⟨z, hz, he, st.trans s, BoxAt.stay (w := ((V2.alloc (.cells #[.int .i64 1, .int .i64 (-1)] 2)).alloc (.cells #[.int .i64 0, .int .i64 (-60), .int .i64 (-1080), .int .i64 (-1100), .int .i64 940, .int .i64 970, .int .i64 (-150), .int .i64 70] 2)).drew) h8 s (by omega)⟩)
    have HP2b := Lib.hid (show ∀ W c lo y, Stay B a len cap b V2 W → BoxAt W c 2 #[.int .i64 0, .int .i64 (-60), .int .i64 (-1080), .int .i64 (-1100), .int .i64 940, .int .i64 970, .int .i64 (-150), .int .i64 70] → c ≠ b → Own W lo y (lim n4) → b < lo → Calls Tryz.prog 108 #[.pointer (some ⟨b, 0, none⟩), .slice (some ⟨c, 0, none⟩) 8 8] W (fun e w' => ∃ z, (-1100 ≤ z ∧ z ≤ 970) ∧ e = .returned (.int .i64 z) ∧ Stay B a len cap b V2 w' ∧ Own w' lo y (lim n4)) from fun W c lo y st hb hc ho hlo => (pickP_any (fun z => -1100 ≤ z ∧ z ≤ 970) B a len cap b c 8 8 W st.src (by omega) (by omega) hb.lt hc (fun i hi => by
      match i, hi with
      | 0, _ => exact ⟨0, by omega, hb.cell 0⟩
      | 1, _ => exact ⟨-60, by omega, hb.cell 1⟩
      | 2, _ => exact ⟨-1080, by omega, hb.cell 2⟩
      | 3, _ => exact ⟨-1100, by omega, hb.cell 3⟩
      | 4, _ => exact ⟨940, by omega, hb.cell 4⟩
      | 5, _ => exact ⟨970, by omega, hb.cell 5⟩
      | 6, _ => exact ⟨-150, by omega, hb.cell 6⟩
      | 7, _ => exact ⟨70, by omega, hb.cell 7⟩)).mono fun e w' ⟨z, hz, he, s⟩ => ⟨z, hz, he, st.trans s, ho.stay s hlo⟩)
    have HP2 := Lib.hid (show ∀ W lo y, Stay B a len cap b V2 W → Own W lo y (lim n4) → b < lo → Calls Tryz.prog 108 #[.pointer (some ⟨b, 0, none⟩), .slice (some ⟨W.heap.size, 0, none⟩) 8 8] (W.alloc (.cells #[.int .i64 0, .int .i64 (-60), .int .i64 (-1080), .int .i64 (-1100), .int .i64 940, .int .i64 970, .int .i64 (-150), .int .i64 70] 2)) (fun e w' => ∃ z, (-1100 ≤ z ∧ z ≤ 970) ∧ e = .returned (.int .i64 z) ∧ Stay B a len cap b V2 w' ∧ Own w' lo y (lim n4)) from fun W lo y st ho hlo => (pickP_from (fun z => -1100 ≤ z ∧ z ≤ 970) (Stay.refl st.src) [0, -60, -1080, -1100, 940, 970, -150, 70] 2 8 rfl (by omega) (by omega) (by intro x hx; simp at hx; omega) _ rfl).mono fun e w' ⟨z, hz, he, s⟩ => ⟨z, hz, he, st.trans s, ho.stay s hlo⟩)
    have HM3 := Lib.hid (show ∀ W t y d z lo, Stay B a len cap b V2 W → Sg t n4 → Own W lo y (lim n4) → (-1100 ≤ z ∧ z ≤ 970) → Calls Tryz.prog 144 #[.agg #[.int .i64 t, .slice y (lim n4).length d], .int .i64 z] W (fun e w' => ∃ s' m' x' x6 c6, e = .returned (.agg #[.int .i64 s', .slice x6 (lim m').length c6, .int .i64 x']) ∧ Sg s' m' ∧ (lim m').length ≤ 500 ∧ (-20000 ≤ x' ∧ x' ≤ 20000) ∧ (lim m').length ≤ c6 ∧ Own w' W.heap.size x6 (lim m') ∧ BoxAt w' w.heap.size 31 #[.int .i64 0, .slice none 0 0, .int .i64 0] ∧ Stay B a len cap b w w' ∧ w.heap.size < W.heap.size ∧ Stay B a len cap b V2 w') from fun W t y d z lo st hsg ho hz => by
      obtain ⟨s', m', x', hr, hs1, hl0, hx0⟩ := redS_bound (x := z) hsg HZ4.out
      have hm3 := sMake3 t y n4 d z W W.heap.size (Nat.le_refl _) ho.ints hsg (Nat.le_trans HZ4.out (by omega)) (by omega) (by omega)
      rw [hr] at hm3
      refine hm3.mono fun e w' ⟨x6, c6, he, hc6, ho6, hb6⟩ => ?_
      obtain ⟨_, rE, stE, hlo⟩ := HCL.out _ _ (SV.out.trans st) hb6
      exact ⟨s', m', x', x6, c6, he, hs1, by omega, by omega, hc6, ho6, rE, stE, hlo, st.low SV.out.src.hi (hb6.mono st.size)⟩)
    have HCS := Lib.hid (show ∀ W u0 u1 u2, Stay B a len cap b V2 W → ((((W.setCell ⟨w.heap.size, 0, none⟩ u0).setCell ⟨w.heap.size, 1, none⟩ u1).setCell ⟨w.heap.size, 2, none⟩ u2).cell? ⟨wH.heap.size, 0, none⟩ = some (.int .i64 Z.sign) ∧ (((W.setCell ⟨w.heap.size, 0, none⟩ u0).setCell ⟨w.heap.size, 1, none⟩ u1).setCell ⟨w.heap.size, 2, none⟩ u2).cell? ⟨wH.heap.size, 1, none⟩ = some (.slice x4 (lim n4).length c4)) from fun W u0 u1 u2 st => by
      have hne : wH.heap.size ≠ w.heap.size := by have := HGH.out; omega
      have h := (((BV.out.stay st (Ne.symm HBH.out)).far (p := ⟨w.heap.size, 0, none⟩) hne u0).far (p := ⟨w.heap.size, 1, none⟩) hne u1).far (p := ⟨w.heap.size, 2, none⟩) hne u2
      exact ⟨h.cell 0, h.cell 1⟩)
    go_wp2_with fail
    clear hV2
    go_region_held3 (fun W => W.cell? ⟨wH.heap.size, 0, none⟩ = some (.int .i64 Z.sign) ∧ W.cell? ⟨wH.heap.size, 1, none⟩ = some (.slice x4 (lim n4).length c4))
      (first | exact HCE.out _ (by assumption) | exact HCS.out _ _ _ _ (by assumption) | exact HCE.out _ (by with_reducible repeat (first | assumption | refine Stay.alloc' ?_ _ | refine Stay.drew1 ?_)))
      (first
      | (go_at_call 222; with_reducible refine (HMK.out _ _ ZP (by assumption)).mono ?_; rintro e wM ⟨y, d, t, rfl, hsg, ho, sM, hbw, hbl⟩; have B8M := B8.below hbl; have SGM := Lib.hid hsg; have OM := Lib.hid ho; have HBW := Lib.hid hbw; clear hsg ho hbw ZP hbl B8)
      | (go_at_call 222; with_reducible refine (HMK.out _ _ ZP (by assumption)).mono ?_; rintro e wM ⟨y, d, t, rfl, hsg, ho, sM, hbw, hbl⟩; have SGM := Lib.hid hsg; have OM := Lib.hid ho; have HBW := Lib.hid hbw; clear hsg ho hbw ZP hbl)
      | (go_at_call 222; with_reducible refine (HMK.out _ _ ZP (Stay.alloc' (by assumption) _)).mono ?_; rintro e wM ⟨y, d, t, rfl, hsg, ho, sM, hbw, hbl⟩; have B8M := BoxAt.below (BoxAt.new wP 2 #[.int .i64 0, .int .i64 (-60), .int .i64 (-1080), .int .i64 (-1100), .int .i64 940, .int .i64 970, .int .i64 (-150), .int .i64 70]) hbl; have SGM := Lib.hid hsg; have OM := Lib.hid ho; have HBW := Lib.hid hbw; clear hsg ho hbw ZP hbl)
      | (go_at_call 144; with_reducible refine (HM3.out _ _ _ _ _ _ (by assumption) SGM.out OMQ.out HZ2.out).mono ?_; rintro e wE ⟨s', m', x', x6, c6, rfl, hs1, hl1, hz1, hc6, ho6, rE, stE, hlo, sVE⟩; obtain ⟨q1, q2, q3, q4, q5, q6⟩ := rE.tri6; have STE := Lib.hid stE; have HO := Lib.hid ho6; have HC := Lib.hid hc6; have HLO := Lib.hid hlo; have HRR := Lib.hid (And.intro hs1 (And.intro hl1 hz1)); clear rE stE hlo ho6 hc6 hs1 hl1 hz1)
      | (go_at_call 108; with_reducible refine (HP2b.out _ _ _ _ (by assumption) B8M (by omega) OM.out HBW.out).mono ?_; rintro e wQ ⟨z2, hz2, rfl, sQ, oQ⟩; have HZ2 := Lib.hid hz2; have OMQ := Lib.hid oQ; clear hz2 oQ B8M)
      | (go_at_call 108; with_reducible refine (HP2.out _ _ _ (by assumption) OM.out HBW.out).mono ?_; rintro e wQ ⟨z2, hz2, rfl, sQ, oQ⟩; have HZ2 := Lib.hid hz2; have OMQ := Lib.hid oQ; clear hz2 oQ)
      | (go_at_call 108; with_reducible refine HP1a.out.mono ?_; rintro e wP ⟨z, ZP, rfl, sP⟩; have hpb := sP.src.hi)
      | (go_at_call 108; with_reducible refine HP1b.out.mono ?_; rintro e wP ⟨z, ZP, rfl, sP, B8⟩; have hpb := sP.src.hi)
      | (go_at_call 108; with_reducible refine HP1c.out.mono ?_; rintro e wP ⟨z, ZP, rfl, sP, B8⟩; have hpb := sP.src.hi))
    all_goals
      go_wp2_with fail
      refine bodyPost_ret (v := .agg #[.int .i64 s', .slice x6 (lim m').length c6, .int .i64 x']) (by simp [results, Tryz.results224, go_sem, *]) rfl ?_
      exact retSY_done STE.out HBL.out HO.out HLO.out HRR.out.1 HRR.out.2.1 HRR.out.2.2 HC.out _ _ _
  · have e0 : ((v : Int) == 0) = false := by simp; omega
    have e1 : ((v : Int) == 1) = false := by simp; omega
    have e2 : ((v : Int) == 2) = false := by simp; omega
    clear v0 v1 v2 hv
    go_wp2_with fail
    refine (pickP_from (fun x => ∃ m : Nat, x = (m : Int) ∧ m ≤ 6) (Stay.refl SA.out.src) [1, 2, 4, 6] 2 4 rfl (by omega) (by omega) (by
      intro x hx
      simp at hx
      rcases hx with h | h | h | h <;> exact ⟨x.toNat, by rw [h]; rfl, by rw [h]; decide⟩) _ rfl).mono ?_
    rintro e wB ⟨x, ⟨m, rfl, hm⟩, rfl, sB⟩
    have SB := Lib.hid (SA.out.trans sB)
    have HM := Lib.hid hm
    clear sB hm
    go_wp2_with fail
    refine (drawWN B a len cap b m (by have := HM.out; omega) wB SB.out.src).mono ?_
    rintro e wC ⟨s1, n1, x1, c1, rfl, hsg, hl1, hc1, ho1, sC⟩
    have SC := Lib.hid (SB.out.trans sC)
    have O1 := Lib.hid ho1
    have HSG := Lib.hid hsg
    have HL1 := Lib.hid (show (lim n1).length ≤ 6 by have := HM.out; omega)
    have HBB := Lib.hid (show b < wB.heap.size from SB.out.src.hi)
    clear sC ho1 hsg hl1 hc1
    go_wp2_with fail
    refine (next_from (Stay.refl SC.out.src) 200 (by omega) (by omega)).mono ?_
    rintro e wD ⟨k1, hk1, rfl, sD⟩
    have SD := Lib.hid sD
    clear sD
    go_wp2_with fail
    refine (next_from SD.out 4000 (by omega) (by omega)).mono ?_
    rintro e wF ⟨k2, hk2, rfl, sF⟩
    have SF := Lib.hid sF
    clear sF
    go_wp2_with fail
    refine (next_from SF.out 9000 (by omega) (by omega)).mono ?_
    rintro e wG ⟨k3, hk3, rfl, sG⟩
    have SG := Lib.hid sG
    clear sG
    go_wp2_with fail
    refine (pickP_from (fun x => -4500 ≤ x ∧ x ≤ 4500) SG.out [0, (k1 : Int) - 100, (k2 : Int) - 2000, (k3 : Int) - 4500] 2 4 rfl (by omega) (by omega) (by intro x hx; simp at hx; omega) _ rfl).mono ?_
    rintro e wH ⟨z, hz, rfl, sH⟩
    have HZ := Lib.hid hz
    have SH := Lib.hid (SC.out.trans sH)
    have OMK := Lib.hid (O1.out.stay sH HBB.out)
    clear hz sH hk1 hk2 hk3 SD SF SG O1
    obtain ⟨s', m', x', hr, hs1, hl0, hx0⟩ := redS_bound (s := s1) (x := z) (m := n1) HSG.out (L := 6) HL1.out
    have hl1 : (lim m').length ≤ 500 := by omega
    have hz1 : -20000 ≤ x' ∧ x' ≤ 20000 := by have := HZ.out; omega
    have HMK := Lib.hid (show Calls Tryz.prog 144 #[.agg #[.int .i64 (s1), .slice x1 (lim (n1)).length c1], .int .i64 (z)] wH (RetYR (s', lim m', x') wH) from by
      have := sMake3 (s1) x1 (n1) c1 (z) wH wH.heap.size (Nat.le_refl _) OMK.out.ints HSG.out (Nat.le_trans HL1.out (by omega)) (by have := HZ.out; omega) (by have := HZ.out; omega)
      rwa [hr] at this)
    clear hr hl0 hx0
    go_wp2_with fail
    refine HMK.out.mono ?_
    rintro e wE ⟨x6, c6, rfl, hc6, ho6, hb6⟩
    clear HMK OMK
    obtain ⟨_, rE, stE, hlo⟩ := HCL.out _ _ SH.out hb6
    obtain ⟨q1, q2, q3, q4, q5, q6⟩ := rE.tri6
    have STE := Lib.hid stE
    have HO := Lib.hid ho6
    have HC := Lib.hid hc6
    have HLO := Lib.hid hlo
    have HR := Lib.hid (And.intro hs1 (And.intro hl1 hz1))
    clear rE stE hlo ho6 hc6 hb6 hs1 hl1 hz1
    go_wp2_with fail
    refine bodyPost_ret (v := .agg #[.int .i64 s', .slice x6 (lim m').length c6, .int .i64 x']) (by simp [results, Tryz.results224, go_sem, *]) rfl ?_
    exact retSY_done STE.out HBL.out HO.out HLO.out HR.out.1 HR.out.2.1 HR.out.2.2 HC.out _ _ _
end Go.Proofs.YtnnbfoemmgddeaaGreatDoor
