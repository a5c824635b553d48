/-
  Contracts: sums and products of parts by both sides. Conditions: the lists' cells can be read.
-/
import Derived.Test.YtabpgkkickdopaaCj
namespace Go.Proofs.Ytabpgkkickdopaa
set_option linter.unusedVariables false
open Go Go.RowKit

theorem fitC_like {zs ys : List (Nat × Nat)} (h : LikeL zs ys) : fitC zs = fitC ys := by
  unfold fitC
  rw [h.1, h.fin]
  cases e : allF ys
  · rw [if_pos (.inr rfl), if_pos (.inr rfl)]
  · rw [h.eq e]
def addL (ps qs : List (Nat × Nat)) : List (Nat × Nat) × Int := if partR ps = true ∧ partR qs = true then fitC (tabC (max ps.length qs.length) (addAt ps qs)) else ([], 1)
def mulL (ps qs : List (Nat × Nat)) : List (Nat × Nat) × Int := if partR ps = true ∧ partR qs = true then fitC (timesL ps qs) else ([], 1)
theorem addL_yes {ps qs : List (Nat × Nat)} (h : partR ps = true) (g : partR qs = true) : addL ps qs = fitC (tabC (max ps.length qs.length) (addAt ps qs)) := if_pos ⟨h, g⟩
theorem addL_no {ps qs : List (Nat × Nat)} (h : ¬ (partR ps = true ∧ partR qs = true)) : addL ps qs = ([], 1) := if_neg h
theorem mulL_yes {ps qs : List (Nat × Nat)} (h : partR ps = true) (g : partR qs = true) : mulL ps qs = fitC (timesL ps qs) := if_pos ⟨h, g⟩
theorem mulL_no {ps qs : List (Nat × Nat)} (h : ¬ (partR ps = true ∧ partR qs = true)) : mulL ps qs = ([], 1) := if_neg h
theorem fitC_long {zs : List (Nat × Nat)} (h : 13 < zs.length) : fitC zs = ([], 3) := if_pos (.inl h)
theorem fitC_inf {zs : List (Nat × Nat)} (h : allF zs = false) : fitC zs = ([], 3) := if_pos (.inr h)
theorem fitC_ok {zs : List (Nat × Nat)} (h : zs.length ≤ 13) (g : allF zs = true) : fitC zs = (trimL zs, 0) := if_neg (by rw [g]; simp; omega)
theorem partR_len {zs : List (Nat × Nat)} (h : partR zs = true) : zs.length ≤ 13 := by unfold partR at h; simp at h; omega

theorem sAddParts4 (a b : Option Addr) (ps qs : List (Nat × Nat)) (c d : Nat) (w : World) (hp : Cells w a ps) (hq : Cells w b qs) :
    Calls Try.prog 24 #[.slice a ps.length c, .slice b qs.length d] w (RetLC (addL ps qs).1 (addL ps qs).2 w) := by
  refine (sAddParts a b ps qs c d w hp hq).mono ?_
  intro e w' h
  by_cases hc : partR ps = true ∧ partR qs = true
  · rw [AddR_yes hc] at h
    obtain ⟨zs, h1, h2, h3⟩ := h
    rw [addL_yes hc.1 hc.2]
    have : fitC zs = fitC (tabC (max ps.length qs.length) (addAt ps qs)) := by rw [← h1]; exact fitC_like h2.like
    rw [← this]; exact h3
  · rw [AddR_no hc] at h
    rw [addL_no hc]; exact h
theorem sTimes4 (a b : Option Addr) (ps qs : List (Nat × Nat)) (c d : Nat) (w : World) (hp : Cells w a ps) (hq : Cells w b qs) (lp : ps.length ≤ 10000) (lq : qs.length ≤ 10000) :
    Calls Try.prog 58 #[.slice a ps.length c, .slice b qs.length d] w (RetLB (finL (timesL ps qs)).1 (finL (timesL ps qs)).2 w) := by
  by_cases h : 0 < ps.length ∧ 0 < qs.length
  · exact sTimes1 a b ps qs c d w hp hq lp lq h
  · exact sTimes0 a b ps qs c d w lp lq (by omega)

set_option maxRecDepth 100000 in
set_option maxHeartbeats 1600000 in
theorem iAddPartsP (a b : Option Addr) (ps qs : List (Nat × Nat)) (c d : Nat) (w : World) (hp : Cells w a ps) (hq : Cells w b qs) :
    Calls Try.prog 23 #[.slice a ps.length c, .slice b qs.length d] w (RetLC (addL ps qs).1 (addL ps qs).2 w) := by
  have HP := Lib.hid (iPart4 a ps c w hp)
  have HQ := Lib.hid (fun n => iPart4 b qs d (w.drewN n) (hq.drewN n))
  cases ep : partR ps
  · rw [ep] at HP
    rw [addL_no (by rw [ep]; simp)]
    clear ep hp hq HQ
    go_enter Try.func23, Try.ntmps23
    go_wp2_with fail
    refine HP.out.mono ?_
    rintro e w' ⟨n, rfl, rfl⟩
    go_wp2_with fail
    go_ret2
    exact RetLC.none _ _ _
  · rw [ep] at HP
    cases eq : partR qs
    · rw [eq] at HQ
      rw [addL_no (by rw [eq]; simp)]
      clear ep eq hp hq
      go_enter Try.func23, Try.ntmps23
      go_wp2_with fail
      refine HP.out.mono ?_
      rintro e w' ⟨n, rfl, rfl⟩
      go_wp2_with fail
      refine (HQ.out _).mono ?_
      rintro e w' ⟨n, rfl, rfl⟩
      go_wp2_with fail
      go_ret2
      exact RetLC.none _ _ (_ + _)
    · rw [eq] at HQ
      rw [addL_yes ep eq]
      have lp := partR_len ep
      have lq := partR_len eq
      have HS := Lib.hid (fun n => iPlus4 a b ps qs c d (w.drewN n) (hp.drewN n) (hq.drewN n) (by omega) (by omega))
      clear ep eq hp hq
      go_enter Try.func23, Try.ntmps23
      go_wp2_with fail
      refine HP.out.mono ?_
      rintro e w' ⟨n, rfl, rfl⟩
      go_wp2_with fail
      refine (HQ.out _).mono ?_
      rintro e w' ⟨m, rfl, rfl⟩
      go_wp2_with fail
      refine (HS.out _).mono ?_
      rintro e w1 ⟨v, zs, rfl, hk, ho, hb⟩
      have HK := Lib.hid hk
      have HB := Lib.hid (show Below w.heap.size w w1 from (Below.trans (by repeat (first | exact Below.refl _ _ | refine below_drewN ?_ _)) hb))
      have HO := Lib.hid (show OwnC w.heap.size w1 v zs from ho)
      clear hk hb ho
      obtain ⟨a', c', hv, hc', hc2', hcell⟩ := HO.out.parts
      subst hv
      have HT := Lib.hid (fun n => iTrimC a' zs c' (w1.drewN n) (hcell.drewN n) hc' hc2')
      have HL := Lib.hid (fun n => iLimitL a' (trimL zs) c' (w1.drewN n) ((hcell.take (trimN zs)).drewN n))
      rw [trimL_length, allF_trim, HK.out.fin] at HL
      clear hcell
      cases hf : allF (tabC (max ps.length qs.length) (addAt ps qs))
      · rw [hf] at HL
        have HFF := Lib.hid hf
        clear hf
        go_wp2_with fail
        refine (HT.out 0).mono ?_
        rintro e w' ⟨k, rfl, rfl⟩
        go_wp2_with fail
        refine (HL.out _).mono ?_
        rintro e w' ⟨k2, rfl, rfl⟩
        go_wp2_with fail
        go_ret2
        rw [ fitC_inf HFF.out]
        exact ⟨_, rfl, OwnC.none _ _, by repeat (first | exact HB.out | refine below_drewN ?_ _)⟩
      · rw [hf] at HL
        have HQE := Lib.hid (HK.out.eq hf)
        have HFF := Lib.hid hf
        clear hf
        go_wp2_with fail
        refine (HT.out 0).mono ?_
        rintro e w' ⟨k, rfl, rfl⟩
        go_wp2_with fail
        refine (HL.out _).mono ?_
        rintro e w' ⟨k2, rfl, rfl⟩
        go_wp2_with fail
        go_ret2
        rw [ fitC_ok (by rw [tabC_length]; omega) HFF.out]
        exact ⟨_, rfl, by rw [← HQE.out]; exact HO.out.trim, by repeat (first | exact HB.out | refine below_drewN ?_ _)⟩
set_option maxRecDepth 100000 in
set_option maxHeartbeats 1600000 in
theorem iMultiplyPartsP (a b : Option Addr) (ps qs : List (Nat × Nat)) (c d : Nat) (w : World) (hp : Cells w a ps) (hq : Cells w b qs) :
    Calls Try.prog 19 #[.slice a ps.length c, .slice b qs.length d] w (RetLC (mulL ps qs).1 (mulL ps qs).2 w) := by
  have HP := Lib.hid (iPart4 a ps c w hp)
  have HQ := Lib.hid (fun n => iPart4 b qs d (w.drewN n) (hq.drewN n))
  cases ep : partR ps
  · rw [ep] at HP
    rw [mulL_no (by rw [ep]; simp)]
    clear ep hp hq HQ
    go_enter Try.func19, Try.ntmps19
    go_wp2_with fail
    refine HP.out.mono ?_
    rintro e w' ⟨n, rfl, rfl⟩
    go_wp2_with fail
    go_ret2
    exact RetLC.none _ _ _
  · rw [ep] at HP
    cases eq : partR qs
    · rw [eq] at HQ
      rw [mulL_no (by rw [eq]; simp)]
      clear ep eq hp hq
      go_enter Try.func19, Try.ntmps19
      go_wp2_with fail
      refine HP.out.mono ?_
      rintro e w' ⟨n, rfl, rfl⟩
      go_wp2_with fail
      refine (HQ.out _).mono ?_
      rintro e w' ⟨n, rfl, rfl⟩
      go_wp2_with fail
      go_ret2
      exact RetLC.none _ _ (_ + _)
    · rw [eq] at HQ
      rw [mulL_yes ep eq]
      have lp := partR_len ep
      have lq := partR_len eq
      have HS := Lib.hid (fun n => iTimes4 a b ps qs c d (w.drewN n) (hp.drewN n) (hq.drewN n) (by omega) (by omega))
      clear ep eq hp hq
      go_enter Try.func19, Try.ntmps19
      go_wp2_with fail
      refine HP.out.mono ?_
      rintro e w' ⟨n, rfl, rfl⟩
      go_wp2_with fail
      refine (HQ.out _).mono ?_
      rintro e w' ⟨m, rfl, rfl⟩
      go_wp2_with fail
      refine (HS.out _).mono ?_
      rintro e w1 ⟨v, zs, rfl, hk, ho, hb⟩
      have HK := Lib.hid hk
      have HB := Lib.hid (show Below w.heap.size w w1 from (Below.trans (by repeat (first | exact Below.refl _ _ | refine below_drewN ?_ _)) hb))
      have HO := Lib.hid (show OwnC w.heap.size w1 v zs from ho)
      clear hk hb ho
      obtain ⟨Y, hY⟩ : ∃ Y, Y = timesL ps qs := ⟨_, rfl⟩
      rw [← hY] at HK
      have HY := Lib.hid hY
      clear hY
      obtain ⟨a', c', hv, hc', hc2', hcell⟩ := HO.out.parts
      subst hv
      have HT := Lib.hid (fun n => iTrimC a' zs c' (w1.drewN n) (hcell.drewN n) hc' hc2')
      have HL := Lib.hid (fun n => iLimitL a' (trimL zs) c' (w1.drewN n) ((hcell.take (trimN zs)).drewN n))
      rw [trimL_length, allF_trim, HK.out.fin] at HL
      clear hcell
      have hlen := HK.out.1
      by_cases h13 : 13 < zs.length
      · have h13I : (13 : Int) < (zs.length : Int) := by omega
        have HLN := Lib.hid (show 13 < Y.length by omega)
        clear hlen HT HL
        go_wp2_with fail
        go_ret2
        rw [← HY.out, fitC_long HLN.out]
        exact ⟨_, rfl, OwnC.none _ _, by repeat (first | exact HB.out | refine below_drewN ?_ _)⟩
      · have h13I : ¬ (13 : Int) < (zs.length : Int) := by omega
        have HLN := Lib.hid (show Y.length ≤ 13 by omega)
        clear hlen
        cases hf : allF Y
        · rw [hf] at HL
          have HFF := Lib.hid hf
          clear hf
          go_wp2_with fail
          refine (HT.out 0).mono ?_
          rintro e w' ⟨k, rfl, rfl⟩
          go_wp2_with fail
          refine (HL.out _).mono ?_
          rintro e w' ⟨k2, rfl, rfl⟩
          go_wp2_with fail
          go_ret2
          rw [← HY.out, fitC_inf HFF.out]
          exact ⟨_, rfl, OwnC.none _ _, by repeat (first | exact HB.out | refine below_drewN ?_ _)⟩
        · rw [hf] at HL
          have HQE := Lib.hid (HK.out.eq hf)
          have HFF := Lib.hid hf
          clear hf
          go_wp2_with fail
          refine (HT.out 0).mono ?_
          rintro e w' ⟨k, rfl, rfl⟩
          go_wp2_with fail
          refine (HL.out _).mono ?_
          rintro e w' ⟨k2, rfl, rfl⟩
          go_wp2_with fail
          go_ret2
          rw [← HY.out, fitC_ok (by exact HLN.out) HFF.out]
          exact ⟨_, rfl, by rw [← HQE.out]; exact HO.out.trim, by repeat (first | exact HB.out | refine below_drewN ?_ _)⟩
set_option maxRecDepth 100000 in
set_option maxHeartbeats 1600000 in
theorem sMultiplyPartsP (a b : Option Addr) (ps qs : List (Nat × Nat)) (c d : Nat) (w : World) (hp : Cells w a ps) (hq : Cells w b qs) :
    Calls Try.prog 21 #[.slice a ps.length c, .slice b qs.length d] w (RetLC (mulL ps qs).1 (mulL ps qs).2 w) := by
  have HP := Lib.hid (sPart a ps c w hp)
  have HQ := Lib.hid (fun n => sPart b qs d (w.drewN n) (hq.drewN n))
  cases ep : partR ps
  · rw [ep] at HP
    rw [mulL_no (by rw [ep]; simp)]
    clear ep hp hq HQ
    go_enter Try.func21, Try.ntmps21
    go_wp2_with fail
    refine HP.out.mono ?_
    rintro e w' ⟨n, rfl, rfl⟩
    go_wp2_with fail
    go_ret2
    exact RetLC.none _ _ _
  · rw [ep] at HP
    cases eq : partR qs
    · rw [eq] at HQ
      rw [mulL_no (by rw [eq]; simp)]
      clear ep eq hp hq
      go_enter Try.func21, Try.ntmps21
      go_wp2_with fail
      refine HP.out.mono ?_
      rintro e w' ⟨n, rfl, rfl⟩
      go_wp2_with fail
      refine (HQ.out _).mono ?_
      rintro e w' ⟨n, rfl, rfl⟩
      go_wp2_with fail
      go_ret2
      exact RetLC.none _ _ (_ + _)
    · rw [eq] at HQ
      rw [mulL_yes ep eq]
      have lp := partR_len ep
      have lq := partR_len eq
      have HS := Lib.hid (fun n => sTimes4 a b ps qs c d (w.drewN n) (hp.drewN n) (hq.drewN n) (by omega) (by omega))
      obtain ⟨Y, hY⟩ : ∃ Y, Y = timesL ps qs := ⟨_, rfl⟩
      rw [← hY] at HS ⊢
      have HLN := Lib.hid (show Y.length ≤ 30 by rw [hY]; unfold timesL; split; simp; rw [tabC_length]; omega)
      clear hY
      cases hf : allF Y
      · rw [finL_no hf] at HS
        rw [fitC_inf hf]
        clear hf
        clear ep eq hp hq
        go_enter Try.func21, Try.ntmps21
        go_wp2_with fail
        refine HP.out.mono ?_
        rintro e w' ⟨n, rfl, rfl⟩
        go_wp2_with fail
        refine (HQ.out _).mono ?_
        rintro e w' ⟨m, rfl, rfl⟩
        go_wp2_with fail
        refine (HS.out _).mono ?_
        rintro e w1 ⟨v, rfl, ho, hb⟩
        have HB := Lib.hid (show Below w.heap.size w w1 from (Below.trans (by repeat (first | exact Below.refl _ _ | refine below_drewN ?_ _)) hb))
        clear hb ho
        go_wp2_with fail
        go_ret2
        exact ⟨_, rfl, OwnC.none _ _, by repeat (first | exact HB.out | refine below_drewN ?_ _)⟩
      · rw [finL_yes hf] at HS
        clear hf
        clear ep eq hp hq
        go_enter Try.func21, Try.ntmps21
        go_wp2_with fail
        refine HP.out.mono ?_
        rintro e w' ⟨n, rfl, rfl⟩
        go_wp2_with fail
        refine (HQ.out _).mono ?_
        rintro e w' ⟨m, rfl, rfl⟩
        go_wp2_with fail
        refine (HS.out _).mono ?_
        rintro e w1 ⟨v, rfl, ho, hb⟩
        have HB := Lib.hid (show Below w.heap.size w w1 from (Below.trans (by repeat (first | exact Below.refl _ _ | refine below_drewN ?_ _)) hb))
        have HO := Lib.hid (show OwnC w.heap.size w1 v Y from ho)
        clear hb ho
        obtain ⟨a', c', hv, hc', hc2', hcell⟩ := HO.out.parts
        subst hv
        have HF := Lib.hid (sFitC a' Y c' w1 hcell hc' hc2' (by have := HLN.out; omega))
        clear hcell
        go_wp2_with fail
        refine HF.out.mono ?_
        rintro e w2 ⟨v2, rfl, ho2, hb2⟩
        have HB2 := Lib.hid (HB.out.trans (hb2.mono HB.out.size))
        have HO2 := Lib.hid (OwnC.lower ho2 HB.out.size)
        clear ho2 hb2
        go_wp2_with fail
        go_ret2
        exact ⟨_, rfl, HO2.out, HB2.out⟩
end Go.Proofs.Ytabpgkkickdopaa
