/-
  Draws of exact numbers, two: l03Spoil. No conditions. Draws of exact complex numbers. Conditions: the code's bytes can be read.
-/
import Derived.Test.YtnnbfoemmgddeaaGreatDoorGy
import Derived.Test.YtnnbfoemmgddeaaGreatDoorQh
import Derived.Deep.DeepCutAuto
import Derived.Deep.CutBlock
import Derived.Test.YtnnbfoemmgddeaaGreatDoorEa
namespace Go.Proofs.YtnnbfoemmgddeaaGreatDoor
set_option linter.unusedVariables false
open Go Go.RowKit

/-- The call returned an exact number, or what is none, in memory of its own; the source was drawn from. -/
def RetSX (B : Nat) (a : Option Addr) (len cap b : Nat) (w : World) (e : Ending) (w' : World) : Prop := ∃ s xs x c z, e = .returned (.agg #[.int .i64 s, .slice x xs.length c, .int .i64 z]) ∧ xs.length ≤ 1000 ∧ xs.length ≤ c ∧ Own w' w.heap.size x xs ∧ Stay B a len cap b w w'
theorem retSX_done {B : Nat} {a : Option Addr} {len cap b : Nat} {w wE : World} {lo : Nat} {x : Option Addr} {s z : Int} {xs : List Int} {c : Nat} (st : Stay B a len cap b w wE) (hb : b < w.heap.size) (ho : Own wE lo x xs) (hlo : w.heap.size < lo) (hl : xs.length ≤ 1000) (hc : xs.length ≤ c) (u0 u1 u2 : Value) :
    RetSX B a len cap b w (.returned (.agg #[.int .i64 s, .slice x xs.length c, .int .i64 z])) (((wE.setCell ⟨w.heap.size, 0, none⟩ u0).setCell ⟨w.heap.size, 1, none⟩ u1).setCell ⟨w.heap.size, 2, none⟩ u2) :=
  ⟨s, xs, x, c, z, rfl, hl, hc, (ho.set3 hlo u0 u1 u2).mono (Nat.le_of_lt hlo), st.low hb (Below.set3 (Below.refl _ _) (Nat.le_refl _) u0 u1 u2)⟩
theorem own_boxY {w : World} {lo g : Nat} {a : Option Addr} {xs : List Int} {cs : Array Value} (h : Own w lo a xs) (hb : BoxAt w g 31 cs) (i : Nat) (u : Value) : Own (w.setCell ⟨g, i, none⟩ u) lo a xs := by
  rcases h with h | ⟨g', e, hg, hr⟩
  · exact .inl h
  · refine .inr ⟨g', e, hg, hr.far (p := ⟨g, i, none⟩) (fun hgg => ?_) u⟩
    obtain ⟨cur, hc, _⟩ := hr
    simp only at hgg
    subst hgg
    unfold BoxAt at hb
    rw [hb] at hc
    injection hc with hc
    injection hc with _ hc
    exact absurd hc (by decide)
theorem pow4800_len {E : Nat} (h : E = 4800) : (lim (2 ^ E)).length ≤ 201 := Nat.le_trans (lim_pow_len E) (by omega)
/-- What the drawn number is while it is changed. -/
def DSt (B : Nat) (a : Option Addr) (len cap b : Nat) (W1 : World) (g : Nat) (W : World) : Prop := ∃ s xs x c z lo, BoxAt W g 31 #[.int .i64 s, .slice x xs.length c, .int .i64 z] ∧ xs.length ≤ 1000 ∧ xs.length ≤ c ∧ Own W lo x xs ∧ W1.heap.size ≤ lo ∧ b < lo ∧ Stay B a len cap b W1 W

set_option maxRecDepth 100000 in
set_option maxHeartbeats 8000000 in
theorem spoilY (B : Nat) (a : Option Addr) (len cap b : Nat) (w : World) (hs : Src B a len cap w b) :
    Calls Tryz.prog 150 #[.pointer (some ⟨b, 0, none⟩)] w (RetSX B a len cap b w) := by
  have hbl := hs.hi
  obtain ⟨W1, hW1⟩ : ∃ W1 : World, w.alloc (.cells #[.int .i64 0, .slice none 0 0, .int .i64 0] 31) = W1 := ⟨_, rfl⟩
  have hsz : w.heap.size + 1 = W1.heap.size := by rw [← hW1]; simp
  have h1 := (Stay.refl hs).alloc' (.cells #[.int .i64 0, .slice none 0 0, .int .i64 0] 31)
  have hbx := BoxAt.new w 31 #[.int .i64 0, .slice none 0 0, .int .i64 0]
  rw [hW1] at h1 hbx
  have H1 := Lib.hid h1
  have HX := Lib.hid hbx
  have HW1 := Lib.hid hW1
  have HSZ := Lib.hid hsz
  have HBL := Lib.hid hbl
  have HB1 := Lib.hid (show b < W1.heap.size by omega)
  clear hs hbl h1 hbx hW1 hsz
  have HCL := Lib.hid (show ∀ wD wE, Stay B a len cap b W1 wD → Below wD.heap.size wD wE → Stay B a len cap b W1 wE ∧ BoxAt wE w.heap.size 31 #[.int .i64 0, .slice none 0 0, .int .i64 0] ∧ Stay B a len cap b w wE ∧ w.heap.size < wD.heap.size from fun wD wE st hb => by
    have h := st.low HB1.out (hb.mono st.size)
    exact ⟨h, HX.out.stay h (by have := HBL.out; omega), H1.out.trans h, by have := st.size; have := HSZ.out; omega⟩)
  go_enter Tryz.func150, Tryz.ntmps150
  go_wp2_with fail
  rw [HW1.out]
  refine (drawY B a len cap b W1 H1.out.src).mono ?_
  rintro e wA ⟨s1, m1, x1, c1, z1, rfl, hsg, hl1, hz1, hc1, ho1, sA⟩
  obtain ⟨V2, hV2⟩ : ∃ V2 : World, wA.alloc (.cells #[.int .i64 s1, .slice x1 (lim m1).length c1, .int .i64 z1] 31) = V2 := ⟨_, rfl⟩
  have b2 := BoxAt.new wA 31 #[.int .i64 s1, .slice x1 (lim m1).length c1, .int .i64 z1]
  have st2 := sA.alloc' (.cells #[.int .i64 s1, .slice x1 (lim m1).length c1, .int .i64 z1] 31)
  have o2 := ho1.alloc (.cells #[.int .i64 s1, .slice x1 (lim m1).length c1, .int .i64 z1] 31)
  rw [hV2] at b2 st2 o2
  have B2 := Lib.hid b2
  have ST2 := Lib.hid st2
  have O2 := Lib.hid o2
  have C1 := Lib.hid hc1
  have HL1 := Lib.hid hl1
  have HSG := Lib.hid hsg
  have HGB := Lib.hid (show wA.heap.size ≠ b ∧ W1.heap.size ≤ wA.heap.size ∧ b < wA.heap.size by have := sA.src.hi; have := sA.size; omega)
  clear b2 st2 o2 hc1 ho1 sA hl1 hsg hz1
  go_wp2_with fail
  clear hV2
  refine (next_from (Stay.refl ST2.out.src) 30 (by omega) (by omega)).mono ?_
  rintro e wC ⟨v, hv, rfl, sC⟩
  have SC := Lib.hid (ST2.out.trans sC)
  have BC := Lib.hid (B2.out.stay sC HGB.out.1)
  have OC := Lib.hid (O2.out.stay sC HB1.out)
  clear sC
  go_upto_block 0 with fail
  go_cut [] (fun W => DSt B a len cap b W1 wA.heap.size W)
  case first =>
    by_cases v0 : v = 0
    · subst v0
      clear hv
      go_wp2_with fail
      refine (pickP_from (fun _ => True) (Stay.refl SC.out.src) [5001, -5001, 1099511627776, 1] 2 4 rfl (by omega) (by omega) (by intro x hx; trivial) _ rfl).mono ?_
      rintro e wD ⟨z, _, rfl, sD⟩
      have bD := BC.out.stay sD HGB.out.1
      obtain ⟨k1, k2, k3, k4, k5, k6⟩ := bD.tri6
      have OD := Lib.hid (OC.out.stay sD HB1.out)
      have SD := Lib.hid (SC.out.trans sD)
      have BD := Lib.hid bD
      clear sD bD
      go_wp2_with fail
      go_meet
      refine ⟨s1, lim m1, x1, c1, z, _, ?_, by have := HL1.out; omega, C1.out, own_boxY OD.out BD.out 2 _, Nat.le_refl _, HB1.out, SD.out.low HB1.out ((Below.refl _ _).setCell HGB.out.2.1 _)⟩
      have := BD.out.set_ 2 (.int .i64 z)
      simpa using this
    by_cases v1 : v = 1
    · subst v1
      clear hv v0
      obtain ⟨k1, k2, k3, k4, k5, k6⟩ := BC.out.tri6
      have hlen2 : (lim (m1 * 2 ^ 1)).length ≤ 1000 := by
        have h1 := lim_mul_len m1 (2 ^ 1)
        have h2 : (lim (2 ^ 1)).length ≤ 3 := lim_len_small (by decide)
        have := HL1.out
        omega
      have hlf := sLeft s1 x1 m1 c1 1 wC wC.heap.size (Nat.le_refl _) OC.out.ints (by have := HL1.out; omega) (by omega)
      obtain ⟨s6, hs6⟩ : ∃ s6, sgnOf s1 (m1 * 2 ^ 1) = s6 := ⟨_, rfl⟩
      obtain ⟨l6, hl6⟩ : ∃ l6, lim (m1 * 2 ^ 1) = l6 := ⟨_, rfl⟩
      unfold RetN at hlf
      rw [hs6, hl6] at hlf
      rw [hl6] at hlen2
      have HLF := Lib.hid (show Calls Tryz.prog 158 #[.agg #[.int .i64 s1, .slice x1 (lim m1).length c1], .int .i64 1] wC _ from hlf)
      have HL6 := Lib.hid hlen2
      clear hlf hs6 hl6 hlen2
      go_wp2_with fail
      refine HLF.out.mono ?_
      rintro e wE ⟨x6, c6, rfl, hc6, ho6, hb6⟩
      clear k1 k2 k3 k4 k5 k6
      have bE := BC.out.below hb6
      obtain ⟨k1, k2, k3, k4, k5, k6⟩ := bE.tri6
      have BE := Lib.hid bE
      have SE := Lib.hid (SC.out.low HB1.out (hb6.mono SC.out.size))
      have O6 := Lib.hid (ho6.mono SC.out.size)
      have C6 := Lib.hid hc6
      clear bE hb6 ho6 hc6
      go_wp2_with fail
      go_meet
      have b1 := BE.out.set_ 0 (.int .i64 s6)
      have b2 := b1.set_ 1 (.slice x6 l6.length c6)
      refine ⟨s6, l6, x6, c6, z1, _, ?_, HL6.out, C6.out, own_boxY (own_boxY O6.out BE.out 0 _) b1 1 _, Nat.le_refl _, HB1.out, SE.out.low HB1.out (((Below.refl _ _).setCell HGB.out.2.1 _).setCell HGB.out.2.1 _)⟩
      simpa using b2
    by_cases v2 : v = 2
    · subst v2
      clear hv v0 v1
      go_wp2_with fail
      refine (pickP_from (fun _ => True) (Stay.refl SC.out.src) [0, 2] 2 2 rfl (by omega) (by omega) (by intro x hx; trivial) _ rfl).mono ?_
      rintro e wD ⟨z, _, rfl, sD⟩
      have bD := BC.out.stay sD HGB.out.1
      obtain ⟨k1, k2, k3, k4, k5, k6⟩ := bD.tri6
      have OD := Lib.hid (OC.out.stay sD HB1.out)
      have SD := Lib.hid (SC.out.trans sD)
      have BD := Lib.hid bD
      clear sD bD
      go_wp2_with fail
      go_meet
      refine ⟨z, lim m1, x1, c1, z1, _, ?_, by have := HL1.out; omega, C1.out, own_boxY OD.out BD.out 0 _, Nat.le_refl _, HB1.out, SD.out.low HB1.out ((Below.refl _ _).setCell HGB.out.2.1 _)⟩
      have := BD.out.set_ 0 (.int .i64 z)
      simpa using this
    by_cases v3 : v = 3
    · subst v3
      clear hv v0 v1 v2
      have H1F := Lib.hid (fun W => sOf 1 (by omega) (by omega) W)
      go_wp2_with fail
      refine (H1F.out _).mono ?_
      rintro e wD ⟨y1, d1, rfl, hd1, ho1, hb1⟩
      obtain ⟨sD, _, _, _⟩ := HCL.out _ _ SC.out hb1
      have SD := Lib.hid sD
      obtain ⟨E, hE⟩ : ∃ E : Nat, E = 4800 := ⟨_, rfl⟩
      have hEI : ((E : Nat) : Int) = 4800 := by omega
      have hlf := sLeft 1 y1 1 d1 E wD wD.heap.size (Nat.le_refl _) ho1.ints (by have : (lim 1).length ≤ 3 := lim_len_small (by decide); omega) (by omega)
      rw [hEI] at hlf
      obtain ⟨M, hM⟩ : ∃ M, 1 * 2 ^ E = M := ⟨_, rfl⟩
      have hml : (lim M).length ≤ 201 := by rw [← hM, Nat.one_mul]; exact pow4800_len hE
      have hsm : Sg (sgnOf 1 M) M := sg1
      rw [hM] at hlf
      obtain ⟨s6, hs6⟩ : ∃ s6, sgnOf 1 M = s6 := ⟨_, rfl⟩
      rw [hs6] at hlf hsm
      have HLF := Lib.hid (show Calls Tryz.prog 158 #[.agg #[.int .i64 1, .slice y1 (lim 1).length d1], .int .i64 4800] wD (RetN s6 M wD) from hlf)
      have HML := Lib.hid hml
      have HSM := Lib.hid hsm
      clear hlf hM hs6 hml hsm sD hd1 ho1 hb1 hE hEI
      go_wp2_with fail
      refine HLF.out.mono ?_
      rintro e wE ⟨y2, d2, rfl, hd2, ho2, hb2⟩
      obtain ⟨sE, _, _, _⟩ := HCL.out _ _ SD.out hb2
      have SE := Lib.hid sE
      have O2' := Lib.hid ho2
      have D2 := Lib.hid hd2
      clear sE hd2 ho2 hb2 HLF
      go_wp2_with fail
      refine (H1F.out _).mono ?_
      rintro e wF ⟨y3, d3, rfl, hd3, ho3, hb3⟩
      obtain ⟨sF, _, _, _⟩ := HCL.out _ _ SE.out hb3
      have SF := Lib.hid sF
      have O2F := O2'.out.below hb3
      obtain ⟨Z, hZ⟩ : ∃ Z : Int, s6 * (M : Int) - (1 : Int).sign * ((1 : Int).natAbs : Int) = Z := ⟨_, rfl⟩
      have hsb := sSub s6 (1 : Int).sign y2 y3 M (1 : Int).natAbs d2 d3 wF wF.heap.size wF.heap.size (Nat.le_refl _) (Nat.le_refl _) O2F.ints ho3.ints HSM.out (Sg.of 1) (by have := HML.out; omega) (by have : (lim (1 : Int).natAbs).length ≤ 3 := lim_len_small (by decide); omega) D2.out hd3
      rw [hZ] at hsb
      have hzl : (lim Z.natAbs).length ≤ 400 := by
        have h1 : Z.natAbs ≤ M + 1 := by
          have h3 := HSM.out
          rw [← hZ]
          have e1 : (1 : Int).sign * ((1 : Int).natAbs : Int) = 1 := by decide
          rw [e1]
          unfold Sg at h3
          rcases h3 with ⟨h3, h4⟩ | ⟨_, h3 | h3⟩
          · rw [h3, h4]; simp
          · rw [h3]; omega
          · rw [h3]; omega
        have h2 := lim_le_of_le h1
        have h3 := lim_add_len M 1
        have h4 : (lim 1).length ≤ 3 := lim_len_small (by decide)
        have := HML.out
        omega
      have HSB := Lib.hid hsb
      have HZL := Lib.hid hzl
      clear hsb hZ hzl sF hd3 ho3 hb3 O2F
      go_wp2_with fail
      refine HSB.out.mono ?_
      rintro e wG ⟨y4, d4, rfl, hd4, ho4, hb4⟩
      obtain ⟨sG, _, _, _⟩ := HCL.out _ _ SF.out hb4
      have SG := Lib.hid sG
      have O4 := Lib.hid ho4
      have HBF := Lib.hid (show b < wF.heap.size from SF.out.src.hi)
      clear sG hd4 ho4 hb4 HSB
      go_wp2_with fail
      refine (pickP_from (fun z => -2000 ≤ z ∧ z ≤ 200) (Stay.refl SG.out.src) [0, -2000, 200] 2 3 rfl (by omega) (by omega) (by intro x hx; simp at hx; omega) _ rfl).mono ?_
      rintro e wH ⟨z, hz, rfl, sH⟩
      have SH := Lib.hid (SG.out.trans sH)
      have OMK := Lib.hid (O4.out.stay sH HBF.out)
      have HZ := Lib.hid hz
      clear sH hz
      obtain ⟨s', m', x', hr, hs1, hl0, hx0⟩ := redS_bound (x := z) (Sg.of Z) HZL.out
      have hm3 := sMake3 Z.sign y4 Z.natAbs d4 z wH wH.heap.size (Nat.le_refl _) OMK.out.ints (Sg.of Z) (Nat.le_trans HZL.out (by omega)) (by have := HZ.out; omega) (by have := HZ.out; omega)
      rw [hr] at hm3
      have HM3 := Lib.hid hm3
      have HLM := Lib.hid (show (lim m').length ≤ 1000 by omega)
      clear hm3 hr hs1 hl0 hx0
      go_wp2_with fail
      refine HM3.out.mono ?_
      rintro e wI ⟨x6, c6, rfl, hc6, ho6, hb6⟩
      obtain ⟨_, rE, stE, hlo⟩ := HCL.out _ _ SH.out hb6
      obtain ⟨q1, q2, q3, q4, q5, q6⟩ := rE.tri6
      have STE := Lib.hid stE
      have HO := Lib.hid ho6
      have HC := Lib.hid hc6
      have HLO := Lib.hid hlo
      clear rE stE hlo ho6 hc6 hb6
      go_wp2_with fail
      refine bodyPost_ret (v := .agg #[.int .i64 s', .slice x6 (lim m').length c6, .int .i64 x']) (by simp [results, Tryz.results150, go_sem, *]) rfl ?_
      exact retSX_done STE.out HBL.out HO.out HLO.out HLM.out HC.out _ _ _
    by_cases v4 : v = 4
    · subst v4
      clear hv v0 v1 v2 v3
      go_wp2_with fail
      refine (pickP_from (fun z => -1 ≤ z ∧ z ≤ 1) (Stay.refl SC.out.src) [1, -1] 2 2 rfl (by omega) (by omega) (by intro x hx; simp at hx; omega) _ rfl).mono ?_
      rintro e wD ⟨z, hz, rfl, sD⟩
      have SD := Lib.hid (SC.out.trans sD)
      have HZ := Lib.hid hz
      clear sD hz
      go_wp2_with fail
      refine (sOf z (by have := HZ.out; omega) (by have := HZ.out; omega) wD).mono ?_
      rintro e wE ⟨x6, c6, rfl, hc6, ho6, hb6⟩
      obtain ⟨sE, _, _, hlo⟩ := HCL.out _ _ SD.out hb6
      have SE := Lib.hid sE
      have O6 := Lib.hid ho6
      have C6 := Lib.hid hc6
      have HLO := Lib.hid hlo
      have HBD := Lib.hid (show b < wD.heap.size from SD.out.src.hi)
      have HL6 := Lib.hid (show (lim z.natAbs).length ≤ 1000 by have : (lim z.natAbs).length ≤ 3 := lim_len_small (by have := HZ.out; omega); omega)
      clear sE hlo hc6 ho6 hb6
      go_wp2_with fail
      refine (pickP_from (fun _ => True) (Stay.refl SE.out.src) [5000, -5000] 2 2 rfl (by omega) (by omega) (by intro x hx; trivial) _ rfl).mono ?_
      rintro e wF ⟨z2, _, rfl, sF⟩
      have OF := Lib.hid (O6.out.stay sF HBD.out)
      have SF := Lib.hid (SE.out.trans sF)
      have rE := HX.out.stay SF.out (by have := HBL.out; omega)
      obtain ⟨q1, q2, q3, q4, q5, q6⟩ := rE.tri6
      have STE := Lib.hid (H1.out.trans SF.out)
      clear sF rE
      go_wp2_with fail
      refine bodyPost_ret (v := .agg #[.int .i64 z.sign, .slice x6 (lim z.natAbs).length c6, .int .i64 z2]) (by simp [results, Tryz.results150, go_sem, *]) rfl ?_
      exact retSX_done STE.out HBL.out OF.out HLO.out HL6.out C6.out _ _ _
    have e0 : ((v : Int) == 0) = false := by simp; omega
    have e1 : ((v : Int) == 1) = false := by simp; omega
    have e2 : ((v : Int) == 2) = false := by simp; omega
    have e3 : ((v : Int) == 3) = false := by simp; omega
    have e4 : ((v : Int) == 4) = false := by simp; omega
    clear v0 v1 v2 v3 v4 hv
    go_wp2_with fail
    go_meet
    exact ⟨s1, lim m1, x1, c1, z1, _, BC.out, by have := HL1.out; omega, C1.out, OC.out, Nat.le_refl _, HB1.out, SC.out⟩
  case rest =>
    obtain ⟨s, xs, x, c, z, lo, hbd, hl, hc, ho, hlo, hblo, hst⟩ := hcut
    have BD := Lib.hid hbd
    have HL := Lib.hid hl
    have HC := Lib.hid hc
    have HO := Lib.hid ho
    have HST := Lib.hid hst
    have HLO := Lib.hid (show w.heap.size < lo by have := HSZ.out; omega)
    have HBLO := Lib.hid hblo
    have HI := Lib.hid (sDy s x xs c z wc wc.heap.size (Nat.le_refl _) (by omega) ho.ints)
    have HEN := Lib.hid (show ∀ W u0 u1 u2, Stay B a len cap b wc W → RetSX B a len cap b w (.returned (.agg #[.int .i64 s, .slice x xs.length c, .int .i64 z])) (((W.setCell ⟨w.heap.size, 0, none⟩ u0).setCell ⟨w.heap.size, 1, none⟩ u1).setCell ⟨w.heap.size, 2, none⟩ u2) from fun W u0 u1 u2 st =>
      retSX_done (H1.out.trans (HST.out.trans st)) HBL.out (HO.out.stay st HBLO.out) HLO.out HL.out HC.out u0 u1 u2)
    have HCE := Lib.hid (show ∀ W, Stay B a len cap b wc W → _ ∧ _ from fun W st => ⟨(BD.out.stay st HGB.out.1).tri6, (HX.out.stay (HST.out.trans st) (by have := HBL.out; omega)).tri6⟩)
    obtain ⟨k1, k2, k3, k4, k5, k6⟩ := BD.out.tri6
    clear hbd hl hc ho hlo hblo hst
    cases hd : dyB s xs z
    · rw [hd] at HI
      clear hd
      go_wp2_with fail
      refine HI.out.mono ?_
      rintro e wD ⟨rfl, hb⟩
      have SD := Lib.hid ((Stay.refl HST.out.src).low HST.out.src.hi hb)
      clear hb k1 k2 k3 k4 k5 k6 HI
      go_wp2_with fail
      refine (next_from SD.out 4 (by omega) (by omega)).mono ?_
      rintro e wE ⟨v9, hv9, rfl, sE⟩
      have SE := Lib.hid sE
      clear sE
      obtain ⟨⟨k1, k2, k3, k4, k5, k6⟩, ⟨q1, q2, q3, q4, q5, q6⟩⟩ := HCE.out _ SE.out
      by_cases h9 : (0 : Int) < (v9 : Int)
      · go_wp2_with fail
        refine bodyPost_ret (v := .agg #[.int .i64 0, .slice none 0 0, .int .i64 0]) (by simp [results, Tryz.results150, go_sem, *]) rfl ?_
        exact retSX_done (xs := []) (lo := w.heap.size + 1) (H1.out.trans (HST.out.trans SE.out)) HBL.out Own.nil (by omega) (by simp) (by simp) _ _ _
      · go_wp2_with fail
        refine bodyPost_ret (v := .agg #[.int .i64 s, .slice x xs.length c, .int .i64 z]) (by simp [results, Tryz.results150, go_sem, *]) rfl ?_
        exact HEN.out _ _ _ _ SE.out
    · rw [hd] at HI
      clear hd
      go_wp2_with fail
      refine HI.out.mono ?_
      rintro e wD ⟨rfl, hb⟩
      have SD := Lib.hid ((Stay.refl HST.out.src).low HST.out.src.hi hb)
      clear hb k1 k2 k3 k4 k5 k6 HI
      obtain ⟨⟨k1, k2, k3, k4, k5, k6⟩, ⟨q1, q2, q3, q4, q5, q6⟩⟩ := HCE.out _ SD.out
      go_wp2_with fail
      refine bodyPost_ret (v := .agg #[.int .i64 s, .slice x xs.length c, .int .i64 z]) (by simp [results, Tryz.results150, go_sem, *]) rfl ?_
      exact HEN.out _ _ _ _ SD.out

/-- Two parts in memory of their own. -/
structure Pair6 (w' : World) (lo : Nat) (s : Int) (xs : List Int) (x : Option Addr) (c : Nat) (z : Int) (s' : Int) (xs' : List Int) (x' : Option Addr) (c' : Nat) (z' : Int) : Prop where
  l1 : xs.length ≤ 1000
  c1 : xs.length ≤ c
  l2 : xs'.length ≤ 1000
  c2 : xs'.length ≤ c'
  o1 : Own w' lo x xs
  o2 : Own w' lo x' xs'
theorem Pair6.set {w' : World} {lo : Nat} {s : Int} {xs : List Int} {x : Option Addr} {c : Nat} {z : Int} {s' : Int} {xs' : List Int} {x' : Option Addr} {c' : Nat} {z' : Int} (h : Pair6 w' lo s xs x c z s' xs' x' c' z') {g : Nat} (hg : g < lo) (u0 u1 u2 u3 u4 u5 : Value) : Pair6 ((((((w'.setCell ⟨g, 0, none⟩ u0).setCell ⟨g, 1, none⟩ u1).setCell ⟨g, 2, none⟩ u2).setCell ⟨g, 3, none⟩ u3).setCell ⟨g, 4, none⟩ u4).setCell ⟨g, 5, none⟩ u5) lo s xs x c z s' xs' x' c' z' :=
  ⟨h.l1, h.c1, h.l2, h.c2, Own.set6 h.o1 hg _ _ _ _ _ _, Own.set6 h.o2 hg _ _ _ _ _ _⟩
theorem Pair6.mono {w' : World} {lo lo' : Nat} {s : Int} {xs : List Int} {x : Option Addr} {c : Nat} {z : Int} {s' : Int} {xs' : List Int} {x' : Option Addr} {c' : Nat} {z' : Int} (h : Pair6 w' lo s xs x c z s' xs' x' c' z') (hl : lo' ≤ lo) : Pair6 w' lo' s xs x c z s' xs' x' c' z' :=
  ⟨h.l1, h.c1, h.l2, h.c2, h.o1.mono hl, h.o2.mono hl⟩
theorem Pair6.below {w w' : World} {lo : Nat} {s : Int} {xs : List Int} {x : Option Addr} {c : Nat} {z : Int} {s' : Int} {xs' : List Int} {x' : Option Addr} {c' : Nat} {z' : Int} (h : Pair6 w lo s xs x c z s' xs' x' c' z') (hb : Below w.heap.size w w') : Pair6 w' lo s xs x c z s' xs' x' c' z' :=
  ⟨h.l1, h.c1, h.l2, h.c2, h.o1.below hb, h.o2.below hb⟩
theorem Pair6.stay {B : Nat} {a : Option Addr} {len cap b : Nat} {w w' : World} {lo : Nat} {s : Int} {xs : List Int} {x : Option Addr} {c : Nat} {z : Int} {s' : Int} {xs' : List Int} {x' : Option Addr} {c' : Nat} {z' : Int} (h : Pair6 w lo s xs x c z s' xs' x' c' z') (st : Stay B a len cap b w w') (hb : b < lo) : Pair6 w' lo s xs x c z s' xs' x' c' z' :=
  ⟨h.l1, h.c1, h.l2, h.c2, h.o1.stay st hb, h.o2.stay st hb⟩
def RetX6 (w : World) (e : Ending) (w' : World) : Prop := ∃ s xs x c z s' xs' x' c' z', e = .returned (.agg #[.int .i64 s, .slice x xs.length c, .int .i64 z, .int .i64 s', .slice x' xs'.length c', .int .i64 z']) ∧ Pair6 w' w.heap.size s xs x c z s' xs' x' c' z' ∧ Below w.heap.size w w'
def RetS6 (B : Nat) (a : Option Addr) (len cap b : Nat) (w : World) (e : Ending) (w' : World) : Prop := ∃ s xs x c z s' xs' x' c' z', e = .returned (.agg #[.int .i64 s, .slice x xs.length c, .int .i64 z, .int .i64 s', .slice x' xs'.length c', .int .i64 z']) ∧ Pair6 w' w.heap.size s xs x c z s' xs' x' c' z' ∧ Stay B a len cap b w w'

set_option maxRecDepth 100000 in
set_option maxHeartbeats 1600000 in
theorem sExactF (x y : Nat) (hx : isF .f64 x = true ∧ x < 2 ^ 64) (hy : isF .f64 y = true ∧ y < 2 ^ 64) (w : World) : Calls Tryz.prog 148 #[.complex .f64 x y] w (RetX6 w) := by
  obtain ⟨W0, hW0⟩ : ∃ W0 : World, w.alloc (.cells #[.int .i64 0, .slice none 0 0, .int .i64 0, .int .i64 0, .slice none 0 0, .int .i64 0] 33) = W0 := ⟨_, rfl⟩
  obtain ⟨p1, p3, p4⟩ := one_box w 33 #[.int .i64 0, .slice none 0 0, .int .i64 0, .int .i64 0, .slice none 0 0, .int .i64 0]
  rw [hW0] at p1 p3 p4
  have SR := Lib.hid (show ∀ W, Below W0.heap.size W0 W → _ from fun W hW => (p1.below hW).six12)
  have P3 := Lib.hid p3
  have P4 := Lib.hid p4
  have hT : Below W0.heap.size W0 W0 := Below.refl _ _
  obtain ⟨sa, ma, ia, rfl, hF, hC⟩ := fin_fw hx.2 hx.1
  obtain ⟨sb, mb, ib, rfl, hG, hD⟩ := fin_fw hy.2 hy.1
  obtain ⟨s, m, z, hr, hs1, hl1, hz1⟩ := redF_bound sa hF
  obtain ⟨s', m', z', hr', hs1', hl1', hz1'⟩ := redF_bound sb hG
  have H1 := Lib.hid (show ∀ W, Calls Tryz.prog 167 #[.float .f64 (fw sa ma ia)] W (RetYR (s, lim m, z) W) from fun W => by have := sL03Of sa ma ia hF hC W; rwa [hr] at this)
  have H2 := Lib.hid (show ∀ W, Calls Tryz.prog 167 #[.float .f64 (fw sb mb ib)] W (RetYR (s', lim m', z') W) from fun W => by have := sL03Of sb mb ib hG hD W; rwa [hr'] at this)
  obtain ⟨X, hX⟩ : ∃ X, fw sa ma ia = X := ⟨_, rfl⟩
  obtain ⟨Y, hY⟩ : ∃ Y, fw sb mb ib = Y := ⟨_, rfl⟩
  rw [hX] at H1 ⊢
  rw [hY] at H2 ⊢
  have HLL := Lib.hid (show (lim m).length ≤ 1000 ∧ (lim m').length ≤ 1000 by omega)
  clear p1 p3 p4 hx hy hF hC hG hD hr hr' hX hY hs1 hl1 hz1 hs1' hl1' hz1'
  go_enter Tryz.func148, Tryz.ntmps148
  go_wp2_with fail
  clear hW0
  refine (H1.out _).mono ?_
  rintro e w1 ⟨a1, c1, rfl, hc1, ho1, hb1⟩
  have B1 := Lib.hid hb1
  have O1 := Lib.hid ho1
  have C1 := Lib.hid hc1
  clear hb1 ho1 hc1
  go_wp2_with fail
  refine (H2.out _).mono ?_
  rintro e w2 ⟨a2, c2, rfl, hc2, ho2, hb2⟩
  have hbb : Below W0.heap.size W0 w2 := B1.out.trans (hb2.mono B1.out.size)
  obtain ⟨q1, q2, q3, q4, q5, q6, q7, q8, q9, q10, q11, q12⟩ := SR.out _ hbb
  have hp : Pair6 w2 W0.heap.size s (lim m) a1 c1 z s' (lim m') a2 c2 z' := ⟨HLL.out.1, C1.out, HLL.out.2, hc2, O1.out.below hb2, ho2.mono B1.out.size⟩
  have HP := Lib.hid hp
  have HBB := Lib.hid hbb
  clear hp hbb hc2 ho2 hb2
  go_wp2_with fail
  refine bodyPost_ret (v := .agg #[.int .i64 s, .slice a1 (lim m).length c1, .int .i64 z, .int .i64 s', .slice a2 (lim m').length c2, .int .i64 z']) (by simp [results, Tryz.results148, go_sem, *]) rfl ?_
  have h4 := P4.out
  exact ⟨s, lim m, a1, c1, z, s', lim m', a2, c2, z', rfl, (HP.out.set (by omega) _ _ _ _ _ _).mono (by omega), Below.set6 (P3.out.trans (HBB.out.mono (by omega))) (Nat.le_refl _) _ _ _ _ _ _⟩

set_option maxRecDepth 100000 in
set_option maxHeartbeats 1600000 in
theorem pairS (B : Nat) (a : Option Addr) (len cap b : Nat) (w : World) (hs : Src B a len cap w b) :
    Calls Tryz.prog 81 #[.pointer (some ⟨b, 0, none⟩)] w (RetS6 B a len cap b w) := by
  have hbl := hs.hi
  obtain ⟨W1, hW1⟩ : ∃ W1 : World, w.alloc (.cells #[.int .i64 0, .slice none 0 0, .int .i64 0, .int .i64 0, .slice none 0 0, .int .i64 0] 33) = W1 := ⟨_, rfl⟩
  have hsz : w.heap.size + 1 = W1.heap.size := by rw [← hW1]; simp
  have h1 := (Stay.refl hs).alloc' (.cells #[.int .i64 0, .slice none 0 0, .int .i64 0, .int .i64 0, .slice none 0 0, .int .i64 0] 33)
  have hbx := BoxAt.new w 33 #[.int .i64 0, .slice none 0 0, .int .i64 0, .int .i64 0, .slice none 0 0, .int .i64 0]
  rw [hW1] at h1 hbx
  have H1 := Lib.hid h1
  have HX := Lib.hid hbx
  have HSZ := Lib.hid hsz
  have HBL := Lib.hid hbl
  have HB1 := Lib.hid (show b < W1.heap.size by omega)
  have HEN := Lib.hid (show ∀ W s xs x c z s' xs' x' c' z' u0 u1 u2 u3 u4 u5, Stay B a len cap b W1 W → Pair6 W W1.heap.size s xs x c z s' xs' x' c' z' → RetS6 B a len cap b w (.returned (.agg #[.int .i64 s, .slice x xs.length c, .int .i64 z, .int .i64 s', .slice x' xs'.length c', .int .i64 z'])) ((((((W.setCell ⟨w.heap.size, 0, none⟩ u0).setCell ⟨w.heap.size, 1, none⟩ u1).setCell ⟨w.heap.size, 2, none⟩ u2).setCell ⟨w.heap.size, 3, none⟩ u3).setCell ⟨w.heap.size, 4, none⟩ u4).setCell ⟨w.heap.size, 5, none⟩ u5) from fun W s xs x c z s' xs' x' c' z' u0 u1 u2 u3 u4 u5 st hp => by
    have h2 := HSZ.out
    exact ⟨s, xs, x, c, z, s', xs', x', c', z', rfl, (hp.set (by omega) _ _ _ _ _ _).mono (by omega), (H1.out.trans st).low HBL.out (Below.set6 (Below.refl _ _) (Nat.le_refl _) _ _ _ _ _ _)⟩)
  have HCE := Lib.hid (show ∀ W, Stay B a len cap b W1 W → _ from fun W st => (HX.out.stay st (by have := HBL.out; omega)).six12)
  clear hs hbl h1 hbx hsz
  go_enter Tryz.func81, Tryz.ntmps81
  go_wp2_with fail
  clear hW1
  refine (next_from (Stay.refl H1.out.src) 2 (by omega) (by omega)).mono ?_
  rintro e wA ⟨v, hv, rfl, sA⟩
  have SA := Lib.hid sA
  clear sA
  by_cases v0 : v = 0
  · subst v0
    clear hv
    go_wp2_with fail
    refine (draw_fin B a len cap b W1 _ SA.out).mono ?_
    rintro e wB ⟨x, y, hx, hy, rfl, sB⟩
    have SB := Lib.hid sB
    have HE := Lib.hid (sExactF x y hx hy wB)
    clear sB hx hy
    go_wp2_with fail
    refine HE.out.mono ?_
    rintro e wC ⟨s, xs, x1, c, z, s', xs', x', c', z', rfl, hp, hb⟩
    have SC := Lib.hid (SB.out.low HB1.out (hb.mono SB.out.size))
    have HP := Lib.hid (hp.mono SB.out.size)
    obtain ⟨q1, q2, q3, q4, q5, q6, q7, q8, q9, q10, q11, q12⟩ := HCE.out _ SC.out
    clear hp hb HE
    go_wp2_with fail
    refine bodyPost_ret (v := .agg #[.int .i64 s, .slice x1 xs.length c, .int .i64 z, .int .i64 s', .slice x' xs'.length c', .int .i64 z']) (by simp [results, Tryz.results81, go_sem, *]) rfl ?_
    exact HEN.out _ _ _ _ _ _ _ _ _ _ _ _ _ _ _ _ _ SC.out HP.out
  · have e0 : ((v : Int) == 0) = false := by simp; omega
    clear hv v0
    go_wp2_with fail
    refine (spoilY B a len cap b wA SA.out.src).mono ?_
    rintro e wB ⟨s, xs, x, c, z, rfl, hl, hc, ho, sB⟩
    have SB := Lib.hid (SA.out.trans sB)
    have O1 := Lib.hid (ho.mono SA.out.size)
    have L1 := Lib.hid hl
    have C1 := Lib.hid hc
    clear sB ho hl hc
    go_wp2_with fail
    refine (spoilY B a len cap b wB SB.out.src).mono ?_
    rintro e wC ⟨s', xs', x', c', z', rfl, hl, hc, ho, sC⟩
    have SC := Lib.hid (SB.out.trans sC)
    have HP := Lib.hid (show Pair6 wC W1.heap.size s xs x c z s' xs' x' c' z' from ⟨L1.out, C1.out, hl, hc, O1.out.stay sC HB1.out, ho.mono SB.out.size⟩)
    obtain ⟨q1, q2, q3, q4, q5, q6, q7, q8, q9, q10, q11, q12⟩ := HCE.out _ SC.out
    clear sC ho hl hc
    go_wp2_with fail
    refine bodyPost_ret (v := .agg #[.int .i64 s, .slice x xs.length c, .int .i64 z, .int .i64 s', .slice x' xs'.length c', .int .i64 z']) (by simp [results, Tryz.results81, go_sem, *]) rfl ?_
    exact HEN.out _ _ _ _ _ _ _ _ _ _ _ _ _ _ _ _ _ SC.out HP.out

set_option maxRecDepth 100000 in
set_option maxHeartbeats 1600000 in
theorem drawSq (a : Option Addr) (len cap : Nat) (w : World) (hlen : len ≤ 9223372036854775807) (hcode : Code8 w.heap.size a len w) :
    Calls Tryz.prog 17 #[.slice a len cap] w (RetX6 w) := by
  obtain ⟨W1, hW1⟩ : ∃ W1 : World, w.alloc (.cells #[.int .i64 0, .slice none 0 0, .int .i64 0, .int .i64 0, .slice none 0 0, .int .i64 0] 33) = W1 := ⟨_, rfl⟩
  obtain ⟨p1, p3, p4⟩ := one_box w 33 #[.int .i64 0, .slice none 0 0, .int .i64 0, .int .i64 0, .slice none 0 0, .int .i64 0]
  rw [hW1] at p1 p3 p4
  have R1 := Lib.hid p1
  have P3 := Lib.hid p3
  have P4 := Lib.hid p4
  have hF := Lib.hid (from_any a len cap W1 hlen (hcode.below p3 (by omega)))
  clear p1 p3 p4 hlen hcode
  go_enter Tryz.func17, Tryz.ntmps17
  go_wp2_with fail
  clear hW1
  refine hF.out.mono ?_
  rintro e wA ⟨b, rfl, hbA, sA⟩
  have BA := Lib.hid hbA
  have S0 := Lib.hid (Stay.refl sA)
  clear hbA sA hF
  go_wp2_with fail
  refine (pairS W1.heap.size a len cap b wA S0.out.src).mono ?_
  rintro e wB ⟨s, xs, x, c, z, s', xs', x', c', z', rfl, hp, sB⟩
  have hbel : Below W1.heap.size W1 wB := BA.out.trans (sB.below BA.out.size)
  obtain ⟨q1, q2, q3, q4, q5, q6, q7, q8, q9, q10, q11, q12⟩ := (R1.out.below hbel).six12
  have BE := Lib.hid hbel
  have HP := Lib.hid (hp.mono BA.out.size)
  clear sB hp hbel
  go_wp2_with fail
  refine bodyPost_ret (v := .agg #[.int .i64 s, .slice x xs.length c, .int .i64 z, .int .i64 s', .slice x' xs'.length c', .int .i64 z']) (by simp [results, Tryz.results17, go_sem, *]) rfl ?_
  have h4 := P4.out
  exact ⟨s, xs, x, c, z, s', xs', x', c', z', rfl, (HP.out.set (by omega) _ _ _ _ _ _).mono (by omega), Below.set6 (P3.out.trans (BE.out.mono (by omega))) (Nat.le_refl _) _ _ _ _ _ _⟩

set_option maxRecDepth 100000 in
set_option maxHeartbeats 1600000 in
theorem drawNb (a : Option Addr) (len cap : Nat) (w : World) (hlen : len ≤ 9223372036854775807) (hcode : Code8 w.heap.size a len w) :
    Calls Tryz.prog 21 #[.slice a len cap] w (RetX6 w) := by
  obtain ⟨W1, hW1⟩ : ∃ W1 : World, w.alloc (.cells #[.int .i64 0, .slice none 0 0, .int .i64 0, .int .i64 0, .slice none 0 0, .int .i64 0] 33) = W1 := ⟨_, rfl⟩
  obtain ⟨p1, p3, p4⟩ := one_box w 33 #[.int .i64 0, .slice none 0 0, .int .i64 0, .int .i64 0, .slice none 0 0, .int .i64 0]
  rw [hW1] at p1 p3 p4
  have R1 := Lib.hid p1
  have P3 := Lib.hid p3
  have P4 := Lib.hid p4
  have hF := Lib.hid (from_any a len cap W1 hlen (hcode.below p3 (by omega)))
  clear p1 p3 p4 hlen hcode
  go_enter Tryz.func21, Tryz.ntmps21
  go_wp2_with fail
  clear hW1
  refine hF.out.mono ?_
  rintro e wA ⟨b, rfl, hbA, sA⟩
  have BA := Lib.hid hbA
  have S0 := Lib.hid (Stay.refl sA)
  clear hbA sA hF
  go_wp2_with fail
  refine (pairS W1.heap.size a len cap b wA S0.out.src).mono ?_
  rintro e wB ⟨s, xs, x, c, z, s', xs', x', c', z', rfl, hp, sB⟩
  have hbel : Below W1.heap.size W1 wB := BA.out.trans (sB.below BA.out.size)
  obtain ⟨q1, q2, q3, q4, q5, q6, q7, q8, q9, q10, q11, q12⟩ := (R1.out.below hbel).six12
  have BE := Lib.hid hbel
  have HP := Lib.hid (hp.mono BA.out.size)
  clear sB hp hbel
  go_wp2_with fail
  refine bodyPost_ret (v := .agg #[.int .i64 s, .slice x xs.length c, .int .i64 z, .int .i64 s', .slice x' xs'.length c', .int .i64 z']) (by simp [results, Tryz.results21, go_sem, *]) rfl ?_
  have h4 := P4.out
  exact ⟨s, xs, x, c, z, s', xs', x', c', z', rfl, (HP.out.set (by omega) _ _ _ _ _ _).mono (by omega), Below.set6 (P3.out.trans (BE.out.mono (by omega))) (Nat.le_refl _) _ _ _ _ _ _⟩

/-- Two exact complex numbers, or what is none. -/
def RetTwoE (w : World) (e : Ending) (w' : World) : Prop := ∃ s xs x c z s' xs' x' c' z' t ys y d k t' ys' y' d' k', e = .returned (.tuple #[.agg #[.int .i64 s, .slice x xs.length c, .int .i64 z, .int .i64 s', .slice x' xs'.length c', .int .i64 z'], .agg #[.int .i64 t, .slice y ys.length d, .int .i64 k, .int .i64 t', .slice y' ys'.length d', .int .i64 k']]) ∧ Pair6 w' w.heap.size s xs x c z s' xs' x' c' z' ∧ Pair6 w' w.heap.size t ys y d k t' ys' y' d' k' ∧ Below w.heap.size w w'

set_option maxRecDepth 100000 in
set_option maxHeartbeats 1600000 in
theorem twoE (a : Option Addr) (len cap : Nat) (w : World) (hlen : len ≤ 9223372036854775807) (hcode : Code8 w.heap.size a len w) :
    Calls Tryz.prog 73 #[.slice a len cap] w (RetTwoE w) := by
  obtain ⟨W1, hW1⟩ : ∃ W1 : World, (w.alloc (.cells #[.int .i64 0, .slice none 0 0, .int .i64 0, .int .i64 0, .slice none 0 0, .int .i64 0] 33)).alloc (.cells #[.int .i64 0, .slice none 0 0, .int .i64 0, .int .i64 0, .slice none 0 0, .int .i64 0] 33) = W1 := ⟨_, rfl⟩
  obtain ⟨p1, p2, p3, p4⟩ := two_boxT w 33 33 #[.int .i64 0, .slice none 0 0, .int .i64 0, .int .i64 0, .slice none 0 0, .int .i64 0] #[.int .i64 0, .slice none 0 0, .int .i64 0, .int .i64 0, .slice none 0 0, .int .i64 0]
  rw [hW1] at p1 p2 p3 p4
  have R1 := Lib.hid p1
  have R2 := Lib.hid p2
  have P3 := Lib.hid p3
  have P4 := Lib.hid p4
  have hF := Lib.hid (from_any a len cap W1 hlen (hcode.below p3 (by omega)))
  clear p1 p2 p3 p4 hlen hcode
  go_enter Tryz.func73, Tryz.ntmps73
  go_wp2_with fail
  clear hW1
  refine hF.out.mono ?_
  rintro e wA ⟨b, rfl, hbA, sA⟩
  have BA := Lib.hid hbA
  have S0 := Lib.hid (Stay.refl sA)
  have HLB := Lib.hid (show W1.heap.size ≤ b from sA.lo)
  have HBA := Lib.hid (show b < wA.heap.size from sA.hi)
  clear hbA sA hF
  go_wp2_with fail
  refine (pairS W1.heap.size a len cap b wA S0.out.src).mono ?_
  rintro e wB ⟨s, xs, x, c, z, s', xs', x', c', z', rfl, hp, sB⟩
  have SB := Lib.hid sB
  have HP := Lib.hid hp
  clear sB hp
  go_wp2_with fail
  refine (pairS W1.heap.size a len cap b wB SB.out.src).mono ?_
  rintro e wC ⟨t, ys, y, d, k, t', ys', y', d', k', rfl, hp, sC⟩
  have hbel : Below W1.heap.size W1 wC := BA.out.trans ((SB.out.trans sC).below BA.out.size)
  obtain ⟨q1, q2, q3, q4, q5, q6, q7, q8, q9, q10, q11, q12⟩ := (R1.out.below hbel).six12
  obtain ⟨r1, r2, r3, r4, r5, r6, r7, r8, r9, r10, r11, r12⟩ := (R2.out.below hbel).six12
  have BE := Lib.hid hbel
  have HP1 := Lib.hid ((HP.out.stay sC HBA.out).mono BA.out.size)
  have HP2 := Lib.hid (hp.mono (Nat.le_trans BA.out.size SB.out.size))
  clear sC hp hbel
  go_wp2_with fail
  refine bodyPost_ret (v := .tuple #[.agg #[.int .i64 s, .slice x xs.length c, .int .i64 z, .int .i64 s', .slice x' xs'.length c', .int .i64 z'], .agg #[.int .i64 t, .slice y ys.length d, .int .i64 k, .int .i64 t', .slice y' ys'.length d', .int .i64 k']]) (by simp [results, Tryz.results73, go_sem, *]) rfl ?_
  have h4 := P4.out
  exact ⟨s, xs, x, c, z, s', xs', x', c', z', t, ys, y, d, k, t', ys', y', d', k', rfl, ((HP1.out.set (by omega) _ _ _ _ _ _).set (by omega) _ _ _ _ _ _).mono (by omega), ((HP2.out.set (by omega) _ _ _ _ _ _).set (by omega) _ _ _ _ _ _).mono (by omega), Below.set6 (Below.set6 (P3.out.trans (BE.out.mono (by omega))) (Nat.le_refl _) _ _ _ _ _ _) (by omega) _ _ _ _ _ _⟩
theorem Pair6.drew {w' : World} {lo : Nat} {s : Int} {xs : List Int} {x : Option Addr} {c : Nat} {z : Int} {s' : Int} {xs' : List Int} {x' : Option Addr} {c' : Nat} {z' : Int} (h : Pair6 w' lo s xs x c z s' xs' x' c' z') : Pair6 w'.drew lo s xs x c z s' xs' x' c' z' := by
  rw [World.drew_is_drewN]
  exact ⟨h.l1, h.c1, h.l2, h.c2, h.o1.drewN 1, h.o2.drewN 1⟩
set_option maxRecDepth 100000 in
set_option maxHeartbeats 4000000 in
theorem drawMu (a : Option Addr) (len cap : Nat) (w : World) (hlen : len ≤ 9223372036854775807) (hcode : Code8 w.heap.size a len w) :
    Calls Tryz.prog 13 #[.slice a len cap] w (RetTwoE w) := by
  obtain ⟨W1, hW1⟩ : ∃ W1 : World, (w.alloc (.cells #[.int .i64 0, .slice none 0 0, .int .i64 0, .int .i64 0, .slice none 0 0, .int .i64 0] 33)).alloc (.cells #[.int .i64 0, .slice none 0 0, .int .i64 0, .int .i64 0, .slice none 0 0, .int .i64 0] 33) = W1 := ⟨_, rfl⟩
  obtain ⟨p1, p2, p3, p4⟩ := two_boxT w 33 33 #[.int .i64 0, .slice none 0 0, .int .i64 0, .int .i64 0, .slice none 0 0, .int .i64 0] #[.int .i64 0, .slice none 0 0, .int .i64 0, .int .i64 0, .slice none 0 0, .int .i64 0]
  rw [hW1] at p1 p2 p3 p4
  have R1 := Lib.hid p1
  have R2 := Lib.hid p2
  have P3 := Lib.hid p3
  have P4 := Lib.hid p4
  have hF := Lib.hid (twoE a len cap W1 hlen (hcode.below p3 (by omega)))
  clear p1 p2 p3 p4 hlen hcode
  go_enter Tryz.func13, Tryz.ntmps13
  go_wp2_with fail
  clear hW1
  refine hF.out.mono ?_
  rintro e wA ⟨s, xs, x, c, z, s', xs', x', c', z', t, ys, y, d, k, t', ys', y', d', k', rfl, hp1, hp2, hb⟩
  obtain ⟨V, hV⟩ : ∃ V : World, (wA.alloc (.cells #[.int .i64 s, .slice x xs.length c, .int .i64 z, .int .i64 s', .slice x' xs'.length c', .int .i64 z'] 33)).alloc (.cells #[.int .i64 t, .slice y ys.length d, .int .i64 k, .int .i64 t', .slice y' ys'.length d', .int .i64 k'] 33) = V := ⟨_, rfl⟩
  obtain ⟨k1, k2, k3, k4⟩ := two_boxT wA 33 33 #[.int .i64 s, .slice x xs.length c, .int .i64 z, .int .i64 s', .slice x' xs'.length c', .int .i64 z'] #[.int .i64 t, .slice y ys.length d, .int .i64 k, .int .i64 t', .slice y' ys'.length d', .int .i64 k']
  rw [hV] at k1 k2 k3 k4
  have hbV : Below W1.heap.size W1 V := hb.trans (k3.mono hb.size)
  obtain ⟨q1, q2, q3, q4, q5, q6, q7, q8, q9, q10, q11, q12⟩ := (R1.out.below hbV).six12
  obtain ⟨r1, r2, r3, r4, r5, r6, r7, r8, r9, r10, r11, r12⟩ := (R2.out.below hbV).six12
  obtain ⟨m1, m2, m3, m4, m5, m6⟩ := k1.six
  obtain ⟨n1, n2, n3, n4, n5, n6⟩ := k2.six
  have hne1 : wA.heap.size ≠ w.heap.size := by have := hb.size; have := P4.out; omega
  have hne2 : wA.heap.size ≠ w.heap.size + 1 := by have := hb.size; have := P4.out; omega
  have hne3 : wA.heap.size + 1 ≠ w.heap.size := by have := hb.size; have := P4.out; omega
  have HP1 := Lib.hid (hp1.below k3)
  have HP2 := Lib.hid (hp2.below k3)
  have HB := Lib.hid hbV
  have HE := Lib.hid (show ∀ (p q : Nat) u0 u1 u2 u3 u4 u5 v0 v1 v2 v3 v4 v5, (p = w.heap.size ∨ p = w.heap.size + 1) → (q = w.heap.size ∨ q = w.heap.size + 1) → RetTwoE w (.returned (.tuple #[.agg #[.int .i64 s, .slice x xs.length c, .int .i64 z, .int .i64 s', .slice x' xs'.length c', .int .i64 z'], .agg #[.int .i64 t, .slice y ys.length d, .int .i64 k, .int .i64 t', .slice y' ys'.length d', .int .i64 k']])) (((((((((((((V.setCell ⟨p, 0, none⟩ u0).setCell ⟨p, 1, none⟩ u1).setCell ⟨p, 2, none⟩ u2).setCell ⟨p, 3, none⟩ u3).setCell ⟨p, 4, none⟩ u4).setCell ⟨p, 5, none⟩ u5).setCell ⟨q, 0, none⟩ v0).setCell ⟨q, 1, none⟩ v1).setCell ⟨q, 2, none⟩ v2).setCell ⟨q, 3, none⟩ v3).setCell ⟨q, 4, none⟩ v4).setCell ⟨q, 5, none⟩ v5).drew) from fun p q u0 u1 u2 u3 u4 u5 v0 v1 v2 v3 v4 v5 hp hq => by
    have h4 := P4.out
    exact ⟨s, xs, x, c, z, s', xs', x', c', z', t, ys, y, d, k, t', ys', y', d', k', rfl, (((HP1.out.set (by omega) _ _ _ _ _ _).set (by omega) _ _ _ _ _ _).drew).mono (by omega), (((HP2.out.set (by omega) _ _ _ _ _ _).set (by omega) _ _ _ _ _ _).drew).mono (by omega), (Below.set6 (Below.set6 (P3.out.trans (HB.out.mono (by omega))) (by omega) _ _ _ _ _ _) (by omega) _ _ _ _ _ _).drew⟩)
  clear k1 k2 k3 k4 hp1 hp2 hb hbV hF
  go_wp2_with fail
  clear hV
  go_region
  all_goals
    go_wp2_with fail
    refine bodyPost_ret (v := .tuple #[.agg #[.int .i64 s, .slice x xs.length c, .int .i64 z, .int .i64 s', .slice x' xs'.length c', .int .i64 z'], .agg #[.int .i64 t, .slice y ys.length d, .int .i64 k, .int .i64 t', .slice y' ys'.length d', .int .i64 k']]) (by simp [results, Tryz.results13, go_sem, *]) rfl ?_
    exact HE.out w.heap.size (w.heap.size + 1) _ _ _ _ _ _ _ _ _ _ _ _ (.inl rfl) (.inr rfl)
end Go.Proofs.YtnnbfoemmgddeaaGreatDoor
