/-
  Contracts: the polynomial with some roots as the document tells it, and monic lists by both sides. Conditions: the lists' cells can be read. Contracts: monic lists by both sides. Conditions: the lists' cells can be read.
-/
import Derived.Test.YtabpgkkickdopaaCn
namespace Go.Proofs.Ytabpgkkickdopaa
set_option linter.unusedVariables false
open Go Go.RowKit

set_option maxRecDepth 100000 in
set_option maxHeartbeats 1600000 in
theorem sOfRootsP (a : Option Addr) (zs : List (Nat × Nat)) (c : Nat) (w : World) (hp : Cells w a zs) :
    Calls Try.prog 35 #[.slice a zs.length c] w (RetLC (ofRootsL zs).1 (ofRootsL zs).2 w) := by
  have hlen := hp.1
  by_cases h1 : (zs.length : Int) < 1
  · rw [show ofRootsL zs = ([], 2) from if_pos (.inl (by omega))]
    clear hp
    go_enter Try.func35, Try.ntmps35
    go_wp2_with fail
    go_ret2
    exact RetLC.none _ _ 0
  by_cases h2 : 12 < (zs.length : Int)
  · rw [show ofRootsL zs = ([], 2) from if_pos (.inr (by omega))]
    clear hp
    go_enter Try.func35, Try.ntmps35
    go_wp2_with fail
    go_ret2
    exact RetLC.none _ _ 0
  have HA := Lib.hid (sAll4 a zs c w hp)
  have HS := Lib.hid (fun n => sOfRoots4 a zs c (w.drewN n) (hp.drewN n) (by omega))
  cases hf : allF zs
  · rw [show ofRootsL zs = ([], 1) by unfold ofRootsL; rw [if_neg (by omega), if_pos hf]]
    rw [hf] at HA
    clear hp hf HS
    go_enter Try.func35, Try.ntmps35
    go_wp2_with fail
    refine HA.out.mono ?_
    rintro e w' ⟨n, rfl, rfl⟩
    go_wp2_with fail
    go_ret2
    exact RetLC.none _ _ _
  · have HEQ := Lib.hid (show ofRootsL zs = if allF (rootsL zs) = true then (rootsL zs, 0) else ([], 3) by unfold ofRootsL; rw [if_neg (by omega), if_neg (by rw [hf]; simp)])
    rw [hf] at HA
    clear hp hf
    cases hr : allF (rootsL zs)
    · rw [finL_no hr] at HS
      have HR := Lib.hid hr
      clear hr
      go_enter Try.func35, Try.ntmps35
      go_wp2_with fail
      refine HA.out.mono ?_
      rintro e w' ⟨n, rfl, rfl⟩
      go_wp2_with fail
      refine (HS.out _).mono ?_
      rintro e w1 ⟨v, rfl, ho, hb⟩
      have HB := Lib.hid (show Below w.heap.size w w1 from (Below.trans (by repeat (first | exact Below.refl _ _ | refine below_drewN ?_ _)) hb))
      clear ho hb
      go_wp2_with fail
      go_ret2
      rw [HEQ.out, if_neg (by rw [HR.out]; simp)]
      exact ⟨_, rfl, OwnC.none _ _, HB.out⟩
    · rw [finL_yes hr] at HS
      have HR := Lib.hid hr
      clear hr
      go_enter Try.func35, Try.ntmps35
      go_wp2_with fail
      refine HA.out.mono ?_
      rintro e w' ⟨n, rfl, rfl⟩
      go_wp2_with fail
      refine (HS.out _).mono ?_
      rintro e w1 ⟨v, rfl, ho, hb⟩
      have HB := Lib.hid (show Below w.heap.size w w1 from (Below.trans (by repeat (first | exact Below.refl _ _ | refine below_drewN ?_ _)) hb))
      have HO := Lib.hid (show OwnC w.heap.size w1 v (rootsL zs) from ho)
      clear ho hb
      go_wp2_with fail
      go_ret2
      rw [HEQ.out, if_pos HR.out]
      exact ⟨_, rfl, HO.out, HB.out⟩

/-- The quotient of the coefficient at i by the last one. -/
def quoAt (ps : List (Nat × Nat)) (i : Nat) : Nat × Nat := qParts (ps.getD i (0, 0)).1 (ps.getD i (0, 0)).2 (ps.getD (ps.length - 1) (0, 0)).1 (ps.getD (ps.length - 1) (0, 0)).2
def monM (ps : List (Nat × Nat)) : List (Nat × Nat) := tabC (ps.length - 1) (quoAt ps) ++ [(one, 0)]
def monL (ps : List (Nat × Nat)) : List (Nat × Nat) × Int := if polyR ps = true then (if allF (monM ps) = true then (monM ps, 0) else ([], 3)) else ([], 1)
def monTo (ps : List (Nat × Nat)) (k i : Nat) : Nat × Nat := if i < k then quoAt ps i else ps.getD i (0, 0)
theorem getD_C {ps : List (Nat × Nat)} {i : Nat} (h : i < ps.length) : ps.getD i (0, 0) = ps[i] := by
  rw [List.getD_eq_getElem?_getD, List.getElem?_eq_getElem h]; rfl
theorem monTo_zero (ps : List (Nat × Nat)) : tabC ps.length (monTo ps 0) = ps := tabC_self _ _ fun i hi => by unfold monTo; rw [if_neg (Nat.not_lt_zero _), getD_C hi]
theorem monTo_step (ps : List (Nat × Nat)) (k N : Nat) : (tabC N (monTo ps k)).set k (quoAt ps k) = tabC N (monTo ps (k + 1)) := by
  refine tabC_set ?_ fun j _ hne => ?_
  · unfold monTo; rw [if_pos (by omega)]
  · unfold monTo
    by_cases h : j < k
    · rw [if_pos h, if_pos (by omega)]
    · rw [if_neg h, if_neg (by omega)]
theorem monTo_all {ps : List (Nat × Nat)} {m : Nat} (h : ps.length = m + 1) : (tabC (m + 1) (monTo ps m)).set m (one, 0) = monM ps := by
  unfold monM
  rw [tabC_succ, h, Nat.add_sub_cancel]
  have : tabC m (monTo ps m) = tabC m (quoAt ps) := tabC_congr fun j hj => by unfold monTo; rw [if_pos hj]
  rw [this, List.set_append_right _ _ (by rw [tabC_length]; exact Nat.le_refl _)]
  simp [tabC_length]
theorem polyR_len {zs : List (Nat × Nat)} (h : polyR zs = true) : 2 ≤ zs.length ∧ zs.length ≤ 13 ∧ allF zs = true ∧ isZ (zs.getD (zs.length - 1) (0, 0)).1 (zs.getD (zs.length - 1) (0, 0)).2 = false := by
  unfold polyR at h
  simp only [Bool.and_eq_true, decide_eq_true_eq] at h
  have h2 := partR_len h.2
  have h3 := h.2
  unfold partR at h3
  simp at h3
  refine ⟨h.1, h2, h3.2.1, ?_⟩
  rw [getD_C (by omega), ← lastZ_at (by omega)]
  exact h3.2.2
theorem quoAt_of {ps : List (Nat × Nat)} {i : Nat} {x y : Nat × Nat} (hx : ps.getD i (0, 0) = x) (hy : ps.getD (ps.length - 1) (0, 0) = y) : quoAt ps i = qParts x.1 x.2 y.1 y.2 := by unfold quoAt; rw [hx, hy]

set_option maxHeartbeats 800000 in
theorem iQuotOf (a b c d : Nat) (h : finC a b = true) (g : finC c d = true) (hz : isZ c d = false) (w : World) : Calls Try.prog 96 #[.complex .f64 a b, .complex .f64 c d] w (RetC (qParts a b c d).1 (qParts a b c d).2 w) := by
  obtain ⟨ha, hb⟩ := finC_split h
  obtain ⟨hc, hd⟩ := finC_split g
  obtain ⟨r, h1, h2, h3⟩ := cquo_ex Try.prog w 25 a b c d ha hb hc hd hz
  have H := Lib.hid (And.intro h2 h3)
  clear h2 h3 ha hb hc hd h g
  unfold isZ at hz
  go_enter Try.func96, Try.ntmps96
  go_wp2_with fail
  go_ret
  exact ⟨_, _, _, rfl, H.out.1, H.out.2, rfl⟩

set_option maxRecDepth 100000 in
set_option maxHeartbeats 1600000 in
theorem iMonic (a : Option Addr) (ps : List (Nat × Nat)) (c : Nat) (w : World) (hp : Cells w a ps) (h0 : polyR ps = true) (hcap : ps.length ≤ c) (hcap2 : c ≤ 9223372036854775807) :
    Calls Try.prog 71 #[.slice a ps.length c] w (RetLL (monM ps) w) := by
  obtain ⟨l1, l2, hfin, hnz⟩ := polyR_len h0
  have HK := Lib.hid (iPolyOf a ps c w (by omega) hp)
  obtain ⟨m, hm⟩ : ∃ m, ps.length = m + 1 := ⟨ps.length - 1, by omega⟩
  obtain ⟨y, hy⟩ : ∃ y, ps.getD (ps.length - 1) (0, 0) = y := ⟨_, rfl⟩
  rw [hy] at hnz
  obtain ⟨c2, o2, hb, hw2⟩ := hp.2 (ps.length - 1) (by omega)
  subst hb
  rw [show ps[ps.length - 1]'(by omega) = y by rw [← getD_C (by omega)]; exact hy] at hw2
  have e1 : ((ps.length : Int) - 1) = (m : Int) := by omega
  have e2 : (m : Int) < (ps.length : Int) := by omega
  have e3 : (m : Int) ≤ (c : Int) := by omega
  rw [show ps.length - 1 = m by omega] at hw2
  have HP := Lib.hid hp
  have HN := Lib.hid (And.intro hfin hnz)
  have HY := Lib.hid hy
  have HM := Lib.hid hm
  have FY := Lib.hid (show finC y.1 y.2 = true by rw [← hy, getD_C (by omega)]; exact allF_at hfin _ _)
  have lc2 : c2 < w.heap.size := World.block_lt_of_cell? w _ hw2
  have HW2 := Lib.hid hw2
  clear hp h0 hfin hnz hy hm hw2
  go_enter Try.func71, Try.ntmps71
  go_wp2_with fail
  refine HK.out.mono ?_
  rintro e w1 ⟨v, rfl, ho, hb⟩
  have HO := Lib.hid (show OwnC w.heap.size w1 v ps from ho)
  have HB := Lib.hid (show Below w.heap.size w w1 from hb)
  clear ho hb
  obtain ⟨g, cp, hv, hcp, hcp2⟩ := HO.out.at0 (by omega)
  subst hv
  have HG := Lib.hid (HO.out.le rfl)
  go_wp2_with fail
  go_loopw [16] (fun x wr => ∃ (k : Nat) (zs : List (Nat × Nat)) (W : World), W = wr ∧ k ≤ m ∧ x = .int .i64 k ∧ Hid (LikeL zs (tabC ps.length (monTo ps k)) ∧ OwnC w.heap.size wr (.slice (some ⟨g, 0, none⟩) ps.length cp) zs ∧ Below w.heap.size w wr)) (fun x _ => m - (intOf x).toNat)
  case atStart => exact ⟨0, ps, _, rfl, Nat.zero_le _, rfl, by rw [monTo_zero]; exact LikeL.refl _, HO.out, HB.out⟩
  case round =>
    clear HO HB HK
    obtain ⟨k, zs, W, hW, hk, rfl, HI⟩ := hrel
    subst hW
    have HZL := Lib.hid (show ps.length = zs.length by rw [HI.out.1.1, tabC_length])
    by_cases h1 : k < m
    · have h1I : (k : Int) < (m : Int) := by omega
      have hkl : (k : Int) < (ps.length : Int) := by omega
      have hc1 := (HI.out.2.2.cell (p := ⟨c2, o2 + m, none⟩) lc2).trans HW2.out
      obtain ⟨c1, o1, ha, hw1⟩ := HP.out.2 k (by omega)
      injection ha with ha
      injection ha with ha1 ha2 _
      subst ha1 ha2
      obtain ⟨x, hx⟩ : ∃ x, x = ps[k]'(by omega) := ⟨_, rfl⟩
      rw [← hx] at hw1
      have hc2 := (HI.out.2.2.cell (p := ⟨c2, o2 + k, none⟩) lc2).trans hw1
      have FX := Lib.hid (show finC x.1 x.2 = true by rw [hx]; exact allF_at HN.out.1 _ _)
      have HQA := Lib.hid (quoAt_of (ps := ps) (i := k) (x := x) (y := y) (by rw [getD_C (by omega)]; exact hx.symm) HY.out)
      have hc3 := HI.out.2.1.cellAt HZL.out k (by have := HZL.out; omega)
      have hf3 := HI.out.2.1.frozenAt HZL.out k
      have hc4 : ∀ n, (W.drewN n).cell? ⟨g, k, none⟩ = some (.complex .f64 (zs[k]'(by have := HZL.out; omega)).1 (zs[k]'(by have := HZL.out; omega)).2) := fun n => hc3
      have hf4 : ∀ n, (W.drewN n).frozen? ⟨g, k, none⟩ = false := fun n => hf3
      clear hx hw1
      go_wp2_with fail
      refine (iQuotOf _ _ _ _ FX.out FY.out HN.out.2 _).mono ?_
      rintro e w' ⟨r1, r2, n, rfl, g1, g2, rfl⟩
      have G := Lib.hid (And.intro g1 g2)
      clear g1 g2
      go_wp2_with fail
      go_roundw
      case rel => exact ⟨k + 1, zs.set k (r1, r2), _, rfl, by omega, by go_num, by rw [← monTo_step, HQA.out]; exact HI.out.1.set _ G.out, (HI.out.2.1.drewN n).stored HZL.out k _ _, (below_drewN HI.out.2.2 n).setCell HG.out _⟩
      case measure => simp [intOf]; omega
    · obtain rfl : k = m := by omega
      have hc3 := HI.out.2.1.cellAt HZL.out k (by have := HZL.out; omega)
      have hf3 := HI.out.2.1.frozenAt HZL.out k
      go_wp2_with fail
      go_ret
      exact ⟨_, zs.set k (one, 0), rfl, by rw [← monTo_all HM.out, ← HM.out]; exact HI.out.1.set _ (NZ.refl _), HI.out.2.1.stored HZL.out k _ _, HI.out.2.2.setCell HG.out _⟩

theorem monL_no {ps : List (Nat × Nat)} (h : polyR ps = false) : monL ps = ([], 1) := if_neg (by rw [h]; simp)
theorem monL_yes {ps : List (Nat × Nat)} (h : polyR ps = true) : monL ps = if allF (monM ps) = true then (monM ps, 0) else ([], 3) := if_pos h

set_option maxRecDepth 100000 in
set_option maxHeartbeats 1600000 in
theorem iMakeMonicP (a : Option Addr) (ps : List (Nat × Nat)) (c : Nat) (w : World) (hp : Cells w a ps) (hcap : ps.length ≤ c) (hcap2 : c ≤ 9223372036854775807) :
    Calls Try.prog 26 #[.slice a ps.length c] w (RetLC (monL ps).1 (monL ps).2 w) := by
  have HA := Lib.hid (iIsPoly a ps c w hp)
  cases hf : polyR ps
  · rw [hf] at HA
    rw [monL_no hf]
    clear hp hf
    go_enter Try.func26, Try.ntmps26
    go_wp2_with fail
    refine HA.out.mono ?_
    rintro e w' ⟨n, rfl, rfl⟩
    go_wp2_with fail
    go_ret2
    exact RetLC.none _ _ _
  · rw [hf] at HA
    have HM := Lib.hid (fun n => iMonic a ps c (w.drewN n) (hp.drewN n) hf hcap hcap2)
    have HEQ := Lib.hid (monL_yes hf)
    clear hp hf
    go_enter Try.func26, Try.ntmps26
    go_wp2_with fail
    refine HA.out.mono ?_
    rintro e w' ⟨n, rfl, rfl⟩
    go_wp2_with fail
    refine (HM.out _).mono ?_
    rintro e w1 ⟨v, zs, rfl, hk, ho, hb⟩
    have HK := Lib.hid hk
    have HB := Lib.hid (show Below w.heap.size w w1 from (Below.trans (by repeat (first | exact Below.refl _ _ | refine below_drewN ?_ _)) hb))
    have HO := Lib.hid (show OwnC w.heap.size w1 v zs from ho)
    clear hk hb ho
    obtain ⟨a', c', hv, hc', hc2', hcell⟩ := HO.out.parts
    subst hv
    have HL := Lib.hid (iLimitL a' zs c' w1 hcell)
    rw [HK.out.fin] at HL
    clear hcell
    cases hf : allF (monM ps)
    · rw [hf] at HL
      have HFF := Lib.hid hf
      clear hf
      go_wp2_with fail
      refine HL.out.mono ?_
      rintro e w' ⟨k, rfl, rfl⟩
      go_wp2_with fail
      go_ret2
      rw [HEQ.out, if_neg (by rw [HFF.out]; simp)]
      exact ⟨_, rfl, OwnC.none _ _, below_drewN HB.out _⟩
    · rw [hf] at HL
      have HFF := Lib.hid hf
      clear hf
      go_wp2_with fail
      refine HL.out.mono ?_
      rintro e w' ⟨k, rfl, rfl⟩
      go_wp2_with fail
      go_ret2
      rw [HEQ.out, if_pos HFF.out]
      exact ⟨_, rfl, by rw [← HK.out.eq HFF.out]; exact HO.out, below_drewN HB.out _⟩

theorem monM_no {ps : List (Nat × Nat)} {i : Nat} (hi : i + 1 < ps.length) (h : finC (quoAt ps i).1 (quoAt ps i).2 = false) : allF (monM ps) = false := by
  cases e : allF (monM ps)
  · rfl
  · have hl : i < (monM ps).length := by unfold monM; rw [List.length_append, tabC_length]; simp; omega
    have := allF_at e i hl
    have hg : (monM ps)[i] = quoAt ps i := by
      simp only [monM]
      rw [List.getElem_append_left (by rw [tabC_length]; omega), tabC_at]
    rw [hg, h] at this; cases this
theorem monM_yes {ps : List (Nat × Nat)} (h : allF (tabC (ps.length - 1) (quoAt ps)) = true) : allF (monM ps) = true := allF_snoc h (by decide +kernel)

set_option maxRecDepth 100000 in
set_option maxHeartbeats 1600000 in
theorem sMonic4 (a : Option Addr) (ps : List (Nat × Nat)) (c : Nat) (w : World) (hp : Cells w a ps) (h0 : polyR ps = true) :
    Calls Try.prog 72 #[.slice a ps.length c] w (RetLB (finL (monM ps)).1 (finL (monM ps)).2 w) := by
  obtain ⟨l1, l2, hfin, hnz⟩ := polyR_len h0
  obtain ⟨m, hm⟩ : ∃ m, ps.length = m + 1 := ⟨ps.length - 1, by omega⟩
  obtain ⟨y, hy⟩ : ∃ y, ps.getD (ps.length - 1) (0, 0) = y := ⟨_, rfl⟩
  rw [hy] at hnz
  obtain ⟨c2, o2, hb, hw2⟩ := hp.2 (ps.length - 1) (by omega)
  subst hb
  rw [show ps[ps.length - 1]'(by omega) = y by rw [← getD_C (by omega)]; exact hy] at hw2
  have e1 : ((ps.length : Int) - 1) = (m : Int) := by omega
  have e2 : (m : Int) < (ps.length : Int) := by omega
  rw [show ps.length - 1 = m by omega] at hw2
  have HP := Lib.hid hp
  have HN := Lib.hid (And.intro hfin hnz)
  have HY := Lib.hid hy
  have HM := Lib.hid hm
  have FY := Lib.hid (show finC y.1 y.2 = true by rw [← hy, getD_C (by omega)]; exact allF_at hfin _ _)
  have lc2 : c2 < w.heap.size := World.block_lt_of_cell? w _ hw2
  have HW2 := Lib.hid hw2
  clear hp h0 hfin hnz hy hm hw2
  go_enter Try.func72, Try.ntmps72
  go_wp2_with fail
  go_loopw [4, 6] (fun v x wr => ∃ (k : Nat) (V : Value) (W : World), W = wr ∧ V = v ∧ k ≤ m ∧ x = .int .i64 k ∧ Hid (OwnC w.heap.size W V (tabC k (quoAt ps)) ∧ allF (tabC k (quoAt ps)) = true ∧ Below w.heap.size w W)) (fun _ x _ => m - (intOf x).toNat)
  case atStart => exact ⟨0, _, _, rfl, rfl, Nat.zero_le _, rfl, OwnC.empty _ _ (Nat.le_refl _), rfl, (by repeat (first | exact Below.refl _ _ | assumption | refine Below.alloc ?_ (by simp <;> omega) _ | refine Below.setCell ?_ (by simp <;> omega) _ | refine below_drewN ?_ _))⟩
  case round =>
    obtain ⟨k, V, W, hW, hV, hk, rfl, HI⟩ := hrel
    subst hW hV
    have HO := Lib.hid (fun g hg => (World.ownsRow.lt HI.out.1 g hg).1)
    have HS := HI.out.2.2.size
    by_cases h1 : k < m
    · have h1I : (k : Int) + 1 < (ps.length : Int) := by omega
      have hkl : (k : Int) < (ps.length : Int) := by omega
      have hwr : IntKind.i64.wrap ((ps.length : Int) - 1) = (m : Int) := by rw [IntKind.wrap_i64]; omega
      have hwr2 : IntKind.i64.wrap (m : Int) = (m : Int) := by rw [IntKind.wrap_i64]; omega
      have hc1 := (HI.out.2.2.cell (p := ⟨c2, o2 + m, none⟩) lc2).trans HW2.out
      obtain ⟨c1, o1, ha, hw1⟩ := HP.out.2 k (by omega)
      injection ha with ha
      injection ha with ha1 ha2 _
      subst ha1 ha2
      obtain ⟨x, hx⟩ : ∃ x, x = ps[k]'(by omega) := ⟨_, rfl⟩
      rw [← hx] at hw1
      have hc2 := (HI.out.2.2.cell (p := ⟨c2, o2 + k, none⟩) lc2).trans hw1
      obtain ⟨A', hA'⟩ : ∃ A', A' = quoAt ps k := ⟨_, rfl⟩
      have HQA := Lib.hid (hA'.trans (quoAt_of (ps := ps) (i := k) (x := x) (y := y) (by rw [getD_C (by omega)]; exact hx.symm) HY.out))
      have HA' := Lib.hid hA'
      obtain ⟨ha, hb⟩ := finC_split (show finC x.1 x.2 = true by rw [hx]; exact allF_at HN.out.1 _ _)
      obtain ⟨hc, hd⟩ := finC_split FY.out
      have HX := fun W => cquo_ex Try.prog W 25 x.1 x.2 y.1 y.2 ha hb hc hd HN.out.2
      obtain ⟨f, hf⟩ := Classical.skolem.1 HX
      have hrun := fun W => (hf W).1
      have G := Lib.hid fun W => (show NZ ((f W).1, (f W).2.1) A' from by rw [HQA.out]; exact (hf W).2)
      clear HX hf ha hb hc hd hx hw1 hA'
      cases hq : finC A'.1 A'.2
      · have e5 : ∀ W, finC (f W).1 (f W).2.1 = false := fun W => by rw [← hq]; exact (G.out W).fin
        have HNO := Lib.hid (monM_no (ps := ps) (i := k) (by omega) (by rw [← HA'.out]; exact hq))
        clear hq
        go_upto_region 5 with fail
        go_region_with ((fail))
        all_goals
          go_wp2_with (go_at_call 51; refine (sFin _ _ _).mono ?_; rintro e w' ⟨_, rfl, rfl⟩)
          go_ret2
          rw [finL_no HNO.out]
          exact ⟨_, rfl, OwnC.none _ _, by repeat (first | exact HI.out.2.2 | refine below_drewN ?_ _)⟩
      · have e5 : ∀ W, (f W).1 = A'.1 := fun W => congrArg Prod.fst ((G.out W).eq hq)
        have e6 : ∀ W, (f W).2.1 = A'.2 := fun W => congrArg Prod.snd ((G.out W).eq hq)
        have HQQ := Lib.hid hq
        go_upto_region 5 with fail
        go_region_with ((fail))
        all_goals
          go_wp2_with (first | (go_at_call 51; refine (sFin _ _ _).mono ?_; rintro e w' ⟨_, rfl, rfl⟩) | (at_builtin; refine wp_appC rfl _ _ rfl _ A'.1 A'.2 rfl w.heap.size _ (tabC k (quoAt ps)) (HI.out.1.drewN _) rfl rfl (by rw [tabC_length]; omega) (by first | exact HS | (simp; omega)) ?_; intro v' w4 hown hgrow))
          have HB4 := Lib.hid (Below.grown (Below.alloc (below_drewN HI.out.2.2 _) (by first | exact HS | (simp; omega)) _) hgrow (by simp; omega) (fun g hg => HO.out g hg))
          have HO4 := Lib.hid hown
          clear hgrow hown
          go_wp2_with fail
          go_roundw
          case rel =>
            refine ⟨k + 1, _, _, rfl, rfl, by omega, by go_num, ?_, ?_, HB4.out⟩
            · rw [tabC_succ, ← HA'.out]; exact HO4.out
            · rw [tabC_succ, ← HA'.out]; exact allF_snoc HI.out.2.1 HQQ.out
          case measure => simp [intOf]; omega
    · obtain rfl : k = m := by omega
      have h1I : ¬ (k : Int) + 1 < (ps.length : Int) := by omega
      have HEQ := Lib.hid (show finL (monM ps) = (tabC k (quoAt ps) ++ [(one, 0)], true) from by
        rw [finL_yes (monM_yes (by rw [HM.out]; exact HI.out.2.1))]
        unfold monM
        rw [HM.out]; rfl)
      go_wp2_with (at_builtin; refine wp_appC rfl _ _ rfl _ one 0 rfl w.heap.size _ (tabC k (quoAt ps)) HI.out.1 rfl rfl (by rw [tabC_length]; omega) (by first | exact HS | (simp; omega)) ?_; intro v' w4 hown hgrow)
      have HB4 := Lib.hid (Below.grown (Below.alloc HI.out.2.2 (by first | exact HS | (simp; omega)) _) hgrow (by simp; omega) (fun g hg => HO.out g hg))
      have HO4 := Lib.hid hown
      clear hgrow hown
      go_wp2_with fail
      go_ret2
      rw [HEQ.out]
      exact ⟨_, rfl, HO4.out, HB4.out⟩

set_option maxRecDepth 100000 in
set_option maxHeartbeats 1600000 in
theorem sMakeMonicP (a : Option Addr) (ps : List (Nat × Nat)) (c : Nat) (w : World) (hp : Cells w a ps) :
    Calls Try.prog 27 #[.slice a ps.length c] w (RetLC (monL ps).1 (monL ps).2 w) := by
  have HA := Lib.hid (sIs4 a ps c w hp)
  cases hf : polyR ps
  · rw [hf] at HA
    rw [monL_no hf]
    clear hp hf
    go_enter Try.func27, Try.ntmps27
    go_wp2_with fail
    refine HA.out.mono ?_
    rintro e w' ⟨n, rfl, rfl⟩
    go_wp2_with fail
    go_ret2
    exact RetLC.none _ _ _
  · rw [hf] at HA
    have HM := Lib.hid (fun n => sMonic4 a ps c (w.drewN n) (hp.drewN n) hf)
    have HEQ := Lib.hid (monL_yes hf)
    clear hp hf
    cases hr : allF (monM ps)
    · rw [finL_no hr] at HM
      have HR := Lib.hid hr
      clear hr
      go_enter Try.func27, Try.ntmps27
      go_wp2_with fail
      refine HA.out.mono ?_
      rintro e w' ⟨n, rfl, rfl⟩
      go_wp2_with fail
      refine (HM.out _).mono ?_
      rintro e w1 ⟨v, rfl, ho, hb⟩
      have HB := Lib.hid (show Below w.heap.size w w1 from (Below.trans (by repeat (first | exact Below.refl _ _ | refine below_drewN ?_ _)) hb))
      clear ho hb
      go_wp2_with fail
      go_ret2
      rw [HEQ.out, if_neg (by rw [HR.out]; simp)]
      exact ⟨_, rfl, OwnC.none _ _, HB.out⟩
    · rw [finL_yes hr] at HM
      have HR := Lib.hid hr
      clear hr
      go_enter Try.func27, Try.ntmps27
      go_wp2_with fail
      refine HA.out.mono ?_
      rintro e w' ⟨n, rfl, rfl⟩
      go_wp2_with fail
      refine (HM.out _).mono ?_
      rintro e w1 ⟨v, rfl, ho, hb⟩
      have HB := Lib.hid (show Below w.heap.size w w1 from (Below.trans (by repeat (first | exact Below.refl _ _ | refine below_drewN ?_ _)) hb))
      have HO := Lib.hid (show OwnC w.heap.size w1 v (monM ps) from ho)
      clear ho hb
      go_wp2_with fail
      go_ret2
      rw [HEQ.out, if_pos HR.out]
      exact ⟨_, rfl, HO.out, HB.out⟩
end Go.Proofs.Ytabpgkkickdopaa
