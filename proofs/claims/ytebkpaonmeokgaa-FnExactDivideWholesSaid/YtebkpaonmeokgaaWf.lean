/-
  Contract: (*division).step, the walk. Conditions: the limbs can be read, the rest and the quotient lie in rows of their own.
-/
import Derived.Test.YtebkpaonmeokgaaWe
namespace Go.Proofs.Ytebkpaonmeokgaa
set_option linter.unusedVariables false
open Go Go.RowKit

/-- What a step leaves. -/
def StepDone (w0 : World) (B gd gr gq : Nat) (da : Option Addr) (dc qc rc : Nat) (D R Q : List Nat) (i r q : Nat) (w' : World) : Prop :=
  ∃ R' : List Nat, Small R' ∧ R'.length = R.length ∧ (∀ j, (j < i ∨ i + D.length < j) → R'.getD j 0 = R.getD j 0) ∧ val ((R'.drop i).take (D.length + 1)) = r ∧ DivSt w0 B gd gr gq da dc qc rc D R' (Q.set i q) w'
theorem DivSt.setQ {w0 w : World} {B gd gr gq : Nat} {da : Option Addr} {dc qc rc : Nat} {D R Q : List Nat} (h : DivSt w0 B gd gr gq da dc qc rc D R Q w) (hBq : B ≤ gq) (h1 : gd ≠ gq) (h2 : gq ≠ gr) {i : Nat} (hi : i < Q.length) (q : Nat) :
    DivSt w0 B gd gr gq da dc qc rc D R (Q.set i q) (w.setCell ⟨gq, i, none⟩ (.int .i64 (q : Int))) :=
  ⟨h.bel.setCell hBq _, by rw [List.length_set]; exact h.box.far h1 _, h.row.far (by simpa using h2.symm) _, by rw [← ofN_set]; exact h.quo.set_ i (by rw [ofN_length]; exact hi) _⟩

set_option maxRecDepth 100000 in
set_option maxHeartbeats 4000000 in
theorem iStep (w0 : World) (B gd gr gq i V : Nat) (da : Option Addr) (dc qc rc : Nat) (D R Q : List Nat) (w : World) (h : DivSt w0 B gd gr gq da dc qc rc D R Q w) (hx : Ints w B da (ofN D)) (hB : B ≤ w.heap.size) (hBd : B ≤ gd) (hBr : B ≤ gr) (hBq : B ≤ gq)
    (h1 : gd ≠ gr) (h2 : gq ≠ gr) (h3 : gd ≠ gq) (sD : Small D) (rs : Small R) (hst : StepAt (ofN R) D i V) (hi : i < Q.length) (hl : R.length ≤ 1048576) :
    Calls Try.prog 80 #[.pointer (some ⟨gd, 0, none⟩), .int .i64 (i : Int)] w fun e w' => e = .returned (.tuple #[]) ∧ StepDone w0 B gd gr gq da dc qc rc D R Q i (V % val D) (V / val D) w' := by
  have hfit := hst.fits
  rw [ofN_length] at hfit
  have htwo := hst.two
  obtain ⟨f, hf⟩ : ∃ f, f = R.getD (i + D.length) 0 := ⟨_, rfl⟩
  obtain ⟨s, hs⟩ : ∃ s, s = R.getD (i + D.length - 1) 0 := ⟨_, rfl⟩
  obtain ⟨t, ht⟩ : ∃ t, t = R.getD (i + D.length - 2) 0 := ⟨_, rfl⟩
  have hf' : (ofN R).getD (i + D.length) 0 = (f : Int) := by rw [ofN_getD, hf]
  have hs' : (ofN R).getD (i + D.length - 1) 0 = (s : Int) := by rw [ofN_getD, hs]
  have ht' : (ofN R).getD (i + D.length - 2) 0 = (t : Int) := by rw [ofN_getD, ht]
  have fb : f < 16777216 := by rw [hf]; exact getD_lt rs _
  have sb : s < 16777216 := by rw [hs]; exact getD_lt rs _
  have tb : t < 16777216 := by rw [ht]; exact getD_lt rs _
  obtain ⟨g1, g2, g3, g4⟩ := stepAt_guess hst sD hf' hs' ht' rfl rfl
  obtain ⟨U, hU⟩ : ∃ U, U = f * 281474976710656 + s * 16777216 + t := ⟨_, rfl⟩
  obtain ⟨d, hd⟩ : ∃ d, d = D.getD (D.length - 1) 0 * 16777216 + D.getD (D.length - 2) 0 := ⟨_, rfl⟩
  have hd0 : 0 < d := by have := hst.top; omega
  have hUd : U < d * 33554432 := by
    rw [← hU, ← hd] at g2
    have : U / d < 33554432 := by omega
    rw [Nat.div_lt_iff_lt_mul hd0] at this
    rw [Nat.mul_comm]; exact this
  have hlen : (ofN R).length = R.length := ofN_length R
  have hbox' : BoxAt w gd 97 #[.slice da D.length dc, .slice (some ⟨gq, 0, none⟩) Q.length qc, .slice (some ⟨gr, 0, none⟩) (ofN R).length rc] := by rw [hlen]; exact h.box
  have HG := Lib.hid (iGuess gd gr i D (ofN R) f s t _ _ da (some ⟨gq, 0, none⟩) dc Q.length qc rc w B hbox' hB hx h.row sD (by rw [hlen]; exact hl) htwo (by rw [hlen]; exact hfit) hf' hs' ht' fb sb tb rfl rfl hst.top (by rw [← hU, ← hd]; exact hUd))
  rw [← hU, ← hd] at HG g1 g2
  obtain ⟨q, hq⟩ : ∃ q, q = U / d := ⟨_, rfl⟩
  rw [← hq] at HG g1 g2
  have HR0 := Lib.hid (show ∀ j, j < D.length → 0 ≤ (ofN R).getD (i + j) 0 ∧ (ofN R).getD (i + j) 0 < 16777216 from fun j hj => hst.digs j (by omega))
  have HT1 := Lib.hid (show ∀ w1, Below w.heap.size w w1 → Calls Try.prog 106 #[.pointer (some ⟨gd, 0, none⟩), .int .i64 (i : Int), .int .i64 (q : Int)] w1 fun e w' => e = .returned (.tuple #[]) ∧ RetT gr i D.length (ofN R) (val D) (q : Int) w1 w' from
    fun w1 hb => iTake gd gr i D (ofN R) (q : Int) da (some ⟨gq, 0, none⟩) dc Q.length qc rc w1 B (hbox'.below hb) (hx.below (hb.mono hB)) hBr h1 (h.row.below hb h.row.lt) sD (.inr (by omega)) (by rw [hlen]; exact hl) (by rw [hlen]; exact hfit) HR0.out (by rw [hf']; omega))
  have HT2 := Lib.hid (show ∀ (S : List Int) w2, S.length = R.length → BoxAt w2 gd 97 #[.slice da D.length dc, .slice (some ⟨gq, 0, none⟩) Q.length qc, .slice (some ⟨gr, 0, none⟩) R.length rc] → Ints w2 B da (ofN D) → RowI w2 gr S → (∀ j, j < D.length → 0 ≤ S.getD (i + j) 0 ∧ S.getD (i + j) 0 < 16777216) → S.getD (i + D.length) 0 = -1 →
      Calls Try.prog 106 #[.pointer (some ⟨gd, 0, none⟩), .int .i64 (i : Int), .int .i64 (-1)] w2 fun e w' => e = .returned (.tuple #[]) ∧ RetT gr i D.length S (val D) (-1) w2 w' from
    fun S w2 hsl hb hx2 hr hdg htop => iTake gd gr i D S (-1) da (some ⟨gq, 0, none⟩) dc Q.length qc rc w2 B (by rw [hsl]; exact hb) hx2 hBr h1 hr sD (.inl rfl) (by rw [hsl]; exact hl) (by rw [hsl]; exact hfit) hdg (by rw [htop]; omega))
  have HST := Lib.hid hst
  have HH := Lib.hid h
  have HX := Lib.hid hx
  have SD := Lib.hid sD
  have RS := Lib.hid rs
  have HI := Lib.hid hi
  have G := Lib.hid (show V / val D ≤ q ∧ q ≤ V / val D + 1 from ⟨g1, g2⟩)
  have HV := Lib.hid g4
  have HN := Lib.hid (show B ≤ w.heap.size ∧ B ≤ gd ∧ B ≤ gr ∧ B ≤ gq ∧ gd ≠ gr ∧ gq ≠ gr ∧ gd ≠ gq from ⟨hB, hBd, hBr, hBq, h1, h2, h3⟩)
  have hqI : (q : Int) ≤ 16777216 := by omega
  have hiI : (i : Int) ≤ 1048576 := by omega
  have hdl : (D.length : Int) ≤ 1048576 := by omega
  have hidx : ((i : Int) + (D.length : Int)).toNat = i + D.length := by omega
  have hidx2 : (i : Int) + (D.length : Int) < (R.length : Int) := by omega
  have hidx3 : (0 : Int) ≤ (i : Int) + (D.length : Int) := by omega
  have hiQ : (i : Int) < (Q.length : Int) := by omega
  have HFIT := Lib.hid hfit
  clear h hx hB hBd hBr hBq h1 h2 h3 sD rs hst hi hfit htwo hf hs ht hf' hs' ht' fb sb tb g1 g2 g3 g4 hU hd hd0 hUd hlen hbox' hq hl
  go_enter Try.func80, Try.ntmps80
  go_wp2_with fail
  refine HG.out.mono ?_
  rintro e w1 ⟨rfl, hb⟩
  go_wp2_with fail
  refine (HT1.out w1 hb).mono ?_
  rintro e w2 ⟨rfl, S, hSl, hSs, hSd, hSe, _, _, hSr, hSg⟩
  rw [ofN_length] at hSl
  have hst2 := stepped_one SD.out (by rw [ofN_length]; exact hSl) hSs hSd HST.out.eq hSe G.out HV.out
  have HH1 := Lib.hid (HH.out.below hb HN.out.1)
  have hsz1 := hb.size
  have HB2 := Lib.hid (HH1.out.box.grown hSg (by have := HN.out; simp; omega))
  have HX2 := Lib.hid (show Ints w2 B da (ofN D) from (HX.out.below (hb.mono HN.out.1)).grown hSg (by have := HN.out; omega) (fun g e => by cases e; exact HN.out.2.2.1))
  have HSR := Lib.hid hSr
  have HSG := Lib.hid hSg
  have hc0 := HB2.out.cell 0
  have hc2 := HB2.out.cell 2
  have hc1 := HB2.out.cell 1
  simp at hc0 hc1 hc2
  have hiS : i + D.length < S.length := by have := HFIT.out; omega
  have hcS := hSr.cell (i + D.length) hiS
  rw [show S[i + D.length] = S.getD (i + D.length) 0 by simp [List.getD, List.getElem?_eq_getElem hiS]] at hcS
  have HSD := Lib.hid hSd
  have HSL := Lib.hid hSl
  have HSS := Lib.hid (show ∀ j, (j < i ∨ i + D.length < j) → S.getD j 0 = (ofN R).getD j 0 from hSs)
  clear hb hSs hSd hSe hSr hSg hSl hiS hsz1
  rcases hst2 with ⟨hq1, htop, hdone⟩ | ⟨hq1, htop, hneg⟩
  · have HQ1 := Lib.hid hq1
    have HD := Lib.hid hdone
    rw [htop] at hcS
    have hqf := HH1.out.quo.frozen i
    clear htop hdone hq1
    have HEND := Lib.hid (show ∀ n, StepDone w0 B gd gr gq da dc qc rc D R Q i (V % val D) (V / val D) ((w2.drewN n).setCell ⟨gq, i, none⟩ (.int .i64 (q : Int))) from fun n => by
      rw [← HQ1.out]
      obtain ⟨R', rfl, s1, s2, s3, s4⟩ := HD.out.nat RS.out
      obtain ⟨n1, n2, n3, n4, n5, n6, n7⟩ := HN.out
      have hd2 := HH1.out.grown (R' := R') HSG.out (by have := HH1.out.row.lt; omega) n3 n5 n6 HSR.out s2
      have hd3 : DivSt w0 B gd gr gq da dc qc rc D R' Q (w2.drewN n) := ⟨below_drewN hd2.bel n, hd2.box, hd2.row, hd2.quo⟩
      exact ⟨R', s1, s2, s3, s4, hd3.setQ n4 n7 n6 HI.out q⟩)
    have hqf2 : w2.frozen? ⟨gq, i, none⟩ = false := by
      obtain ⟨n1, n2, n3, n4, n5, n6, n7⟩ := HN.out
      have := (HH1.out.quo.keep (HSG.out.block gq HH1.out.quo.lt (by simp; omega))).frozen i
      exact this
    have hqc : ∃ v, w2.cell? ⟨gq, i, none⟩ = some v := by
      obtain ⟨n1, n2, n3, n4, n5, n6, n7⟩ := HN.out
      exact ⟨_, (HH1.out.quo.keep (HSG.out.block gq HH1.out.quo.lt (by simp; omega))).cell i (by rw [ofN_length]; exact HI.out)⟩
    obtain ⟨v0, hqc⟩ := hqc
    go_wp2
    go_quiet (fail)
    go_wp2
    refine bodyPost_end (v := .tuple #[]) (by simp [results, Try.results80, go_sem]) rfl ?_
    exact ⟨rfl, HEND.out nq⟩
  · have HQ1 := Lib.hid hq1
    have HW := Lib.hid hneg
    have HTOP := Lib.hid htop
    rw [htop] at hcS
    have hq1I : (1 : Int) ≤ (q : Int) := by
      have h := hq1
      revert h
      generalize V / val D = z
      intro h
      omega
    have HML := Lib.hid (Nat.mod_lt V HV.out)
    clear htop hneg hq1
    go_wp2
    go_quiet (fail)
    go_wp2_with fail
    refine (HT2.out S (w2.drewN nq) HSL.out HB2.out HX2.out HSR.out HSD.out HTOP.out).mono ?_
    rintro e w3 ⟨rfl, T, hTl, hTs, hTd, hTe, _, _, hTr, hTg⟩
    have hTg : w2.grownBy w3 (some gr) := ⟨hTg.os, hTg.tape, hTg.output, hTg.size, hTg.block⟩
    have hdone := stepped_two (R := ofN R) SD.out (by rw [ofN_length]; exact HSL.out) HSS.out hTl hTs hTd HW.out hTe HML.out
    have HD := Lib.hid hdone
    have hsz2 : w2.heap.size ≤ w3.heap.size := hTg.size
    have HB3 := Lib.hid (show BoxAt w3 gd 97 #[.slice da D.length dc, .slice (some ⟨gq, 0, none⟩) Q.length qc, .slice (some ⟨gr, 0, none⟩) R.length rc] from HB2.out.grown hTg (by have := HN.out; simp; omega))
    have HTR := Lib.hid hTr
    have HTG := Lib.hid hTg
    clear hTl hTs hTd hTe hTr hTg hdone hc0 hc1 hc2 hcS
    have hc1 := HB3.out.cell 1
    simp at hc1
    have HQ3 := Lib.hid (show RowI w3 gq (ofN Q) from by
      obtain ⟨n1, n2, n3, n4, n5, n6, n7⟩ := HN.out
      have h1 := HH1.out.quo.keep (HSG.out.block gq HH1.out.quo.lt (by simp; omega))
      exact h1.keep (HTG.out.block gq h1.lt (by simp; omega)))
    have hqf2 := HQ3.out.frozen i
    have hqc := HQ3.out.cell i (by rw [ofN_length]; exact HI.out)
    have HEND := Lib.hid (show StepDone w0 B gd gr gq da dc qc rc D R Q i (V % val D) (V / val D) (w3.setCell ⟨gq, i, none⟩ (.int .i64 ((q : Int) - 1))) from by
      rw [show (q : Int) - 1 = ((V / val D : Nat) : Int) by
        have h := HQ1.out
        revert h
        generalize V / val D = z
        intro h
        omega]
      obtain ⟨R', rfl, s1, s2, s3, s4⟩ := HD.out.nat RS.out
      obtain ⟨n1, n2, n3, n4, n5, n6, n7⟩ := HN.out
      have hlt := HH1.out.row.lt
      have hsg := HSG.out.size
      have hG : w1.grownBy w3 (some gr) := ⟨HTG.out.os.trans HSG.out.os, HTG.out.tape.trans HSG.out.tape, HTG.out.output.trans HSG.out.output, Nat.le_trans hsg hsz2, fun j hj hne => (HTG.out.block j (by show j < w2.heap.size; omega) hne).trans (HSG.out.block j hj hne)⟩
      have hd2 := HH1.out.grown (R' := R') hG (by omega) n3 n5 n6 HTR.out s2
      exact ⟨R', s1, s2, s3, s4, hd2.setQ n4 n7 n6 HI.out _⟩)
    go_wp2
    refine bodyPost_end (v := .tuple #[]) (by simp [results, Try.results80, go_sem]) rfl ?_
    exact ⟨rfl, HEND.out⟩
end Go.Proofs.Ytebkpaonmeokgaa
