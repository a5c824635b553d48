/-
  Contracts: derivatives by both sides. Conditions: the lists' cells can be read.
-/
import Derived.Test.YtabpgkkickdopaaCp
import Derived.Deep.RegionHeld3
import Derived.Deep.AppendLies
import Derived.Deep.DeepCutAuto
namespace Go.Proofs.Ytabpgkkickdopaa
set_option linter.unusedVariables false
open Go Go.RowKit
section
open Ieee
theorem mul_read {x y m n : Nat} {s t : Bool} {i j : Int} (hx : f64.read x = .number s m i) (hy : f64.read y = .number t n j) : floatBits .mul .f64 x y = some (f64.word (s ^^ t) (rungOf (m * n) (i + j))) := by
  have h : floatBits .mul .f64 x y = some (f64.nearest (s ^^ t) (m * n) (i + j)) := by
    show ((f64.read x).product (f64.read y)).map f64.write = _
    rw [hx, hy]
    exact product_word _ _ _ _ _ _
  rw [h, nearest_rung]
theorem word_nz {s : Bool} {R : Nat} (h1 : 1 ≤ R) (h2 : R ≤ 0x7ff0000000000000) : (f64.order (f64.word s R) 0 == some .eq) = false := by
  by_cases h : R < 0x7ff0000000000000
  · obtain ⟨m, i, hc, hr⟩ := rung_number h
    subst hr
    rw [order_zero (read_word hc h)]
    have hm : m ≠ 0 := by
      intro e
      subst e
      have := rungOf_zero i
      unfold rungOf at this
      omega
    rw [if_neg hm]
    cases s <;> rfl
  · obtain rfl : R = 0x7ff0000000000000 := by omega
    unfold Format.order
    rw [read_inf, read_zero]
    cases s <;> rfl
theorem rung_pos {m : Nat} {i : Int} (hc : Canon f64 m i) (hm : m ≠ 0) : 1 ≤ rungOf m i := by
  have := rawRung_canon f64 hc
  unfold rungOf
  rw [this, f64_bin]
  omega
theorem nat_fit (n : Nat) (h : n ≤ 12) : Fit n 0 := Fit.of (by omega) (by omega) (by omega)
theorem nat_word (n : Nat) (h : n ≤ 12) : ∃ k : Nat, f64.read (floatOfInt .f64 (n : Int)) = .number false (n * 2 ^ k) (0 - k) := by
  obtain ⟨k, hk, _⟩ := read_fw false (nat_fit n h)
  refine ⟨k, ?_⟩
  rw [ofInt_fw, show decide ((n : Int) < 0) = false from decide_eq_false (by omega), Int.natAbs_natCast]
  exact hk
theorem mul_nat {x n : Nat} (h : n ≤ 12) (hx : isF .f64 x = true) : floatBits .mul .f64 x (floatOfInt .f64 (n : Int)) = some (cf .mul .f64 x (floatOfInt .f64 (n : Int))) := by
  obtain ⟨s, m, i, e⟩ := isF_read hx
  obtain ⟨k, hk⟩ := nat_word n h
  unfold cf
  rw [mul_read e hk]; rfl
theorem mul_nz {x n : Nat} (h0 : 1 ≤ n) (h : n ≤ 12) (hx : isF .f64 x = true) (hz : (f64.order x 0 == some .eq) = false) : (f64.order (cf .mul .f64 x (floatOfInt .f64 (n : Int))) 0 == some .eq) = false := by
  obtain ⟨s, m, i, e⟩ := isF_read hx
  obtain ⟨k, hk⟩ := nat_word n h
  have hm : m ≠ 0 := by
    intro e0
    rw [order_zero e, if_pos e0] at hz
    simp at hz
  have h1 := mul_read e hk
  unfold cf
  rw [h1, Option.getD_some]
  refine word_nz (Nat.le_trans (rung_pos (read_canon e).1 hm) (rungOf_mono (i := i) (j := i + (0 - (k : Int))) ⟨i - k, by omega, by omega, ?_⟩)) (rungOf_le _ _)
  rw [show (i - (i - (k : Int))).toNat = k by omega, show (i + (0 - (k : Int)) - (i - (k : Int))).toNat = 0 by omega, Nat.pow_zero, Nat.mul_one, ← Nat.mul_assoc]
  exact Nat.mul_le_mul_right _ (Nat.le_mul_of_pos_right _ h0)
end

/-- The coefficient at n of the derivative. -/
def derAt (ps : List (Nat × Nat)) (n : Nat) : Nat × Nat := (cf .mul .f64 (ps.getD (n + 1) (0, 0)).1 (floatOfInt .f64 ((n + 1 : Nat) : Int)), cf .mul .f64 (ps.getD (n + 1) (0, 0)).2 (floatOfInt .f64 ((n + 1 : Nat) : Int)))
def derM (ps : List (Nat × Nat)) : List (Nat × Nat) := tabC (ps.length - 1) (derAt ps)
def derL (ps : List (Nat × Nat)) : List (Nat × Nat) × Int := if polyR ps = true then fitC (derM ps) else ([], 1)
theorem derL_no {ps : List (Nat × Nat)} (h : polyR ps = false) : derL ps = ([], 1) := if_neg (by rw [h]; simp)
theorem derL_yes {ps : List (Nat × Nat)} (h : polyR ps = true) : derL ps = fitC (derM ps) := if_pos h
theorem derM_length (ps : List (Nat × Nat)) : (derM ps).length = ps.length - 1 := tabC_length _ _
theorem trim_self {zs : List (Nat × Nat)} (h : lastZ zs = false) : trimL zs = zs := by
  have : trimN zs = zs.length := by
    unfold trimN
    cases hl : zs.length with
    | zero => rfl
    | succ k => exact trimK_no (by omega) (by omega) (by rw [lastZ_at (by omega)] at h; simp only [hl, Nat.add_sub_cancel] at h ⊢; exact h)
  unfold trimL
  rw [this, List.take_length]
theorem der_last {ps : List (Nat × Nat)} (h : polyR ps = true) : lastZ (derM ps) = false := by
  obtain ⟨l1, l2, hfin, hnz⟩ := polyR_len h
  rw [lastZ_at (by rw [derM_length]; omega)]
  have hg : (derM ps)[(derM ps).length - 1]'(by rw [derM_length]; omega) = derAt ps (ps.length - 2) := by
    simp only [derM, tabC_length]
    rw [tabC_at]
    congr 1
  rw [hg]
  unfold derAt
  rw [show ps.length - 2 + 1 = ps.length - 1 by omega]
  have hff : finC (ps.getD (ps.length - 1) (0, 0)).1 (ps.getD (ps.length - 1) (0, 0)).2 = true := by rw [getD_C (by omega)]; exact allF_at hfin _ _
  obtain ⟨f1, f2⟩ := finC_split hff
  unfold isZ at hnz ⊢
  rw [Bool.and_eq_false_iff] at hnz ⊢
  rcases hnz with hnz | hnz
  · exact .inl (mul_nz (by omega) (by omega) f1 hnz)
  · exact .inr (mul_nz (by omega) (by omega) f2 hnz)
theorem der_fit {ps : List (Nat × Nat)} (h : polyR ps = true) : fitC (derM ps) = if allF (derM ps) = true then (derM ps, 0) else ([], 3) := by
  obtain ⟨l1, l2, _, _⟩ := polyR_len h
  cases e : allF (derM ps)
  · rw [fitC_inf e, if_neg (by simp)]
  · rw [fitC_ok (by rw [derM_length]; omega) e, if_pos rfl, trim_self (der_last h)]
def derTo (ps : List (Nat × Nat)) (k n : Nat) : Nat × Nat := if n < k then derAt ps n else ps.getD (n + 1) (0, 0)
theorem derTo_zero {ps : List (Nat × Nat)} {m : Nat} (h : ps.length = m + 1) : tabC m (derTo ps 0) = ps.drop 1 := by
  have : tabC (ps.drop 1).length (derTo ps 0) = ps.drop 1 := tabC_self _ _ fun i hi => by
    rw [List.length_drop] at hi
    unfold derTo
    rw [if_neg (Nat.not_lt_zero _), getD_C (by omega), List.getElem_drop]
    congr 1; omega
  rwa [List.length_drop, h, Nat.add_sub_cancel] at this
theorem derTo_step (ps : List (Nat × Nat)) (k N : Nat) : (tabC N (derTo ps k)).set k (derAt ps k) = tabC N (derTo ps (k + 1)) := by
  refine tabC_set ?_ fun j _ hne => ?_
  · unfold derTo; rw [if_pos (by omega)]
  · unfold derTo
    by_cases h : j < k
    · rw [if_pos h, if_pos (by omega)]
    · rw [if_neg h, if_neg (by omega)]
theorem derTo_all {ps : List (Nat × Nat)} {m : Nat} (h : ps.length = m + 1) : tabC m (derTo ps m) = derM ps := by
  unfold derM
  rw [h, Nat.add_sub_cancel]
  exact tabC_congr fun j hj => by unfold derTo; rw [if_pos hj]
theorem Cells.drop1 {w : World} {c o : Nat} {zs : List (Nat × Nat)} (h : Cells w (some ⟨c, o, Option.none⟩) zs) (n : Nat) : Cells w (some ⟨c, o + n, Option.none⟩) (zs.drop n) := by
  refine ⟨by have := h.1; rw [List.length_drop]; omega, fun i hi => ?_⟩
  rw [List.length_drop] at hi
  obtain ⟨c', o', ha, hc⟩ := h.2 (n + i) (by omega)
  injection ha with ha
  injection ha with ha1 ha2 _
  subst ha1 ha2
  refine ⟨_, _, rfl, ?_⟩
  rw [List.getElem_drop, Nat.add_assoc]
  exact hc

/-- A product of finite floats that may be infinite, but draws nothing. -/
theorem fmul_nat (P : Program) (t : TypeId) {x n : Nat} (h : n ≤ 12) (hx : isF .f64 x = true) (W : World) : (binOp .mul t (.float .f64 x) (.float .f64 (floatOfInt .f64 (n : Int)))).run P W = .ok (.float .f64 (cf .mul .f64 x (floatOfInt .f64 (n : Int)))) W := run_float_arith W _ _ _ _ _ _ (mul_nat h hx)

theorem derM_fin {ps : List (Nat × Nat)} (h : polyR ps = true) (n : Nat) (hn : n + 1 < ps.length) : isF .f64 (ps.getD (n + 1) (0, 0)).1 = true ∧ isF .f64 (ps.getD (n + 1) (0, 0)).2 = true := by
  obtain ⟨_, _, hfin, _⟩ := polyR_len h
  rw [getD_C hn]
  exact finC_split (allF_at hfin _ _)

attribute [-go_sem] run_fmul
set_option maxRecDepth 100000 in
set_option maxHeartbeats 1600000 in
theorem iDerivP (a : Option Addr) (ps : List (Nat × Nat)) (c : Nat) (w : World) (hp : Cells w a ps) (hcap : ps.length ≤ c) (hcap2 : c ≤ 9223372036854775807) :
    Calls Try.prog 29 #[.slice a ps.length c] w (RetLC (derL ps).1 (derL ps).2 w) := by
  have HA := Lib.hid (iIsPoly a ps c w hp)
  cases hf : polyR ps
  · rw [hf] at HA
    rw [derL_no hf]
    clear hp hf
    go_enter Try.func29, Try.ntmps29
    go_wp2_with fail
    refine HA.out.mono ?_
    rintro e w' ⟨n, rfl, rfl⟩
    go_wp2_with fail
    go_ret2
    exact RetLC.none _ _ _
  · rw [hf] at HA
    obtain ⟨l1, l2, hfin, hnz⟩ := polyR_len hf
    have HEQ := Lib.hid ((derL_yes hf).trans (der_fit hf))
    obtain ⟨c1, o1, ha, hw1⟩ := hp.2 0 (by omega)
    subst ha
    obtain ⟨m, hm⟩ : ∃ m, ps.length = m + 1 := ⟨ps.length - 1, by omega⟩
    have hdl : (ps.drop 1).length = m := by rw [List.length_drop]; omega
    have HC := Lib.hid (fun n => iPolyOf (some ⟨c1, o1 + 1, none⟩) (ps.drop 1) (c - 1) (w.drewN n) (by omega) ((hp.drop1 1).drewN n))
    rw [hdl] at HC
    have e1 : (ps.length : Int) - 1 = (m : Int) := by omega
    have e2 : (1 : Int) ≤ (ps.length : Int) := by omega
    have e3 : ((ps.length : Int) - 1).toNat = m := by omega
    have e4 : ((c : Int) - 1).toNat = c - 1 := by omega
    have e5 : ps.length - 1 = m := by omega
    have HM := Lib.hid hm
    have HPO := Lib.hid hf
    have hm12 : m ≤ 12 := by omega
    clear hp hf hfin hnz hw1 hm hdl
    go_enter Try.func29, Try.ntmps29
    go_wp2_with fail
    refine HA.out.mono ?_
    rintro e w' ⟨n, rfl, rfl⟩
    go_wp2_with fail
    refine (HC.out _).mono ?_
    rintro e w1 ⟨v, rfl, ho, hb⟩
    have HB := Lib.hid (show Below w.heap.size w w1 from (Below.trans (by repeat (first | exact Below.refl _ _ | refine below_drewN ?_ _)) hb))
    have HO := Lib.hid (show OwnC w.heap.size w1 v (ps.drop 1) from ho)
    clear hb ho
    obtain ⟨g, cp, hv, hcp, hcp2⟩ := HO.out.at0 (by rw [List.length_drop]; omega)
    rw [show (ps.drop 1).length = m by rw [List.length_drop]; omega] at hv hcp
    subst hv
    have HG := Lib.hid (HO.out.le (by rw [List.length_drop]; omega))
    go_wp2_with fail
    go_loopw [16] (fun x wr => ∃ (k : Nat) (zs : List (Nat × Nat)) (W : World), W = wr ∧ k ≤ m ∧ x = .int .i64 k ∧ Hid (LikeL zs (tabC m (derTo ps k)) ∧ OwnC w.heap.size wr (.slice (some ⟨g, 0, none⟩) m cp) zs ∧ Below w.heap.size w wr)) (fun x _ => m - (intOf x).toNat)
    case atStart => exact ⟨0, ps.drop 1, _, rfl, Nat.zero_le _, rfl, by rw [derTo_zero HM.out]; exact LikeL.refl _, HO.out, HB.out⟩
    case round =>
      clear HO HB HC HA
      obtain ⟨k, zs, W, hW, hk, rfl, HI⟩ := hrel
      subst hW
      have HZL := Lib.hid (show m = zs.length by rw [HI.out.1.1, tabC_length])
      by_cases h1 : k < m
      · have h1I : (k : Int) < (m : Int) := by omega
        obtain ⟨x, hx⟩ : ∃ x, x = ps.getD (k + 1) (0, 0) := ⟨_, rfl⟩
        have hff := derM_fin HPO.out k (by have := HM.out; omega)
        rw [← hx] at hff
        have hzk : zs[k]'(by have := HZL.out; omega) = x := by
          have := HI.out.1.2 k (by have := HZL.out; omega) (by rw [tabC_length]; omega)
          rw [tabC_at] at this
          have e : derTo ps k k = x := by unfold derTo; rw [if_neg (Nat.lt_irrefl _)]; exact hx.symm
          rw [e] at this
          exact this.eq (by unfold finC; rw [hff.1, hff.2]; rfl)
        have hc3 := HI.out.2.1.cellAt HZL.out k (by have := HZL.out; omega)
        rw [hzk] at hc3
        have hf3 := HI.out.2.1.frozenAt HZL.out k
        obtain ⟨A', hA'⟩ : ∃ A', A' = derAt ps k := ⟨_, rfl⟩
        have hr1 : ∀ V, (binOp .mul 42 (.float .f64 x.1) (.float .f64 (floatOfInt .f64 ((k : Int) + 1)))).run Try.prog V = .ok (.float .f64 A'.1) V := fun V => by
          rw [hA', derAt, ← hx]
          exact fmul_nat _ _ (n := k + 1) (by omega) hff.1 V
        have hr2 : ∀ V, (binOp .mul 42 (.float .f64 x.2) (.float .f64 (floatOfInt .f64 ((k : Int) + 1)))).run Try.prog V = .ok (.float .f64 A'.2) V := fun V => by
          rw [hA', derAt, ← hx]
          exact fmul_nat _ _ (n := k + 1) (by omega) hff.2 V
        have HA' := Lib.hid hA'
        clear hzk hx hff hA'
        go_wp2_with fail
        go_roundw
        case rel => exact ⟨k + 1, zs.set k (A'.1, A'.2), _, rfl, by omega, by go_num, by rw [← derTo_step, ← HA'.out]; exact HI.out.1.set _ (NZ.refl _), HI.out.2.1.stored HZL.out k _ _, HI.out.2.2.setCell HG.out _⟩
        case measure => simp [intOf]; omega
      · obtain rfl : k = m := by omega
        have HLK := Lib.hid (show LikeL zs (derM ps) by rw [← derTo_all HM.out]; exact HI.out.1)
        obtain ⟨q, cq, hq, hcells⟩ := HI.out.2.1.cells
        rw [← HZL.out] at hq
        injection hq with hq1 hq2 hq3
        subst hq1 hq3
        have HL := Lib.hid (iLimitL (some ⟨g, 0, none⟩) zs cp W hcells)
        rw [HLK.out.fin, ← HZL.out] at HL
        clear hcells
        cases hf : allF (derM ps)
        · rw [hf] at HL
          have HFF := Lib.hid hf
          clear hf
          go_wp2_with fail
          refine HL.out.mono ?_
          rintro e w' ⟨n2, rfl, rfl⟩
          go_wp2_with fail
          go_ret2
          rw [HEQ.out, if_neg (by rw [HFF.out]; simp)]
          exact ⟨_, rfl, OwnC.none _ _, below_drewN HI.out.2.2 _⟩
        · rw [hf] at HL
          have HFF := Lib.hid hf
          clear hf
          go_wp2_with fail
          refine HL.out.mono ?_
          rintro e w' ⟨n2, rfl, rfl⟩
          go_wp2_with fail
          go_ret2
          rw [HEQ.out, if_pos HFF.out]
          exact ⟨_, rfl, by rw [← HLK.out.eq HFF.out]; exact HI.out.2.1, below_drewN HI.out.2.2 _⟩

set_option maxRecDepth 100000 in
set_option maxHeartbeats 1600000 in
theorem sDerive4 (a : Option Addr) (ps : List (Nat × Nat)) (c : Nat) (w : World) (hp : Cells w a ps) (h0 : polyR ps = true) :
    Calls Try.prog 73 #[.slice a ps.length c] w (RetCL (derM ps) w) := by
  obtain ⟨l1, l2, hfin, hnz⟩ := polyR_len h0
  obtain ⟨m, hm⟩ : ∃ m, ps.length = m + 1 := ⟨ps.length - 1, by omega⟩
  have HP := Lib.hid hp
  have HPO := Lib.hid h0
  have HM := Lib.hid hm
  have hm12 : m ≤ 12 := by omega
  clear hp h0 hfin hnz hm
  go_enter Try.func73, Try.ntmps73
  go_wp2_with fail
  go_loopw [3, 4] (fun v x wr => ∃ (k : Nat) (V : Value) (W : World) (zs : List (Nat × Nat)), W = wr ∧ V = v ∧ k ≤ m ∧ zs.length = k ∧ x = .int .i64 ((k : Int) + 1) ∧ Hid (zs = tabC k (derAt ps) ∧ OwnC w.heap.size W V zs ∧ Below w.heap.size w W)) (fun _ x _ => m + 1 - (intOf x).toNat)
  case atStart => exact ⟨0, _, _, [], rfl, rfl, Nat.zero_le _, rfl, rfl, rfl, OwnC.empty _ _ (Nat.le_refl _), (by repeat (first | exact Below.refl _ _ | assumption | refine Below.alloc ?_ (by simp <;> omega) _ | refine Below.setCell ?_ (by simp <;> omega) _ | refine below_drewN ?_ _))⟩
  case round =>
    obtain ⟨k, V, W, zs, hW, hV, hk, hzl, rfl, HI⟩ := hrel
    subst hW hV hzl
    by_cases h1 : zs.length < m
    · have h1I : (zs.length : Int) + 1 < (ps.length : Int) := by have := HM.out; omega
      have h0I : (0 : Int) ≤ (zs.length : Int) + 1 := by omega
      have h2I : ¬ ((zs.length : Int) + 1 < 0) := by omega
      have hk1 : ((zs.length : Int) + 1).toNat = zs.length + 1 := by omega
      obtain ⟨c1, o1, ha, hw1⟩ := HP.out.2 (zs.length + 1) (by have := HM.out; omega)
      subst ha
      obtain ⟨x, hx⟩ : ∃ x, x = ps.getD (zs.length + 1) (0, 0) := ⟨_, rfl⟩
      rw [show ps[zs.length + 1]'(by have := HM.out; omega) = x by rw [← getD_C (by have := HM.out; omega)]; exact hx.symm] at hw1
      have lc1 : c1 < w.heap.size := World.block_lt_of_cell? w _ hw1
      have hc1 := (HI.out.2.2.cell (p := ⟨c1, o1 + (zs.length + 1), none⟩) lc1).trans hw1
      have hff := derM_fin HPO.out zs.length (by have := HM.out; omega)
      rw [← hx] at hff
      obtain ⟨A', hA'⟩ : ∃ A', A' = derAt ps zs.length := ⟨_, rfl⟩
      have hr1 : ∀ V, (binOp .mul 42 (.float .f64 x.1) (.float .f64 (floatOfInt .f64 ((zs.length : Int) + 1)))).run Try.prog V = .ok (.float .f64 A'.1) V := fun V => by
        rw [hA', derAt, ← hx]
        exact fmul_nat _ _ (n := zs.length + 1) (by omega) hff.1 V
      have hr2 : ∀ V, (binOp .mul 42 (.float .f64 x.2) (.float .f64 (floatOfInt .f64 ((zs.length : Int) + 1)))).run Try.prog V = .ok (.float .f64 A'.2) V := fun V => by
        rw [hA', derAt, ← hx]
        exact fmul_nat _ _ (n := zs.length + 1) (by omega) hff.2 V
      have HA' := Lib.hid hA'
      clear hx hff hA' hw1
      have HS := HI.out.2.2.size
      have HO := Lib.hid (fun g hg => (World.ownsRow.lt HI.out.2.1 g hg).1)
      have HW := Lib.hid HI.out.2.1
      obtain ⟨i0, hi, hz0, hz1, hz2⟩ := info_parts info24
      go_upto_region 6 with fail
      have HS := HI.out.2.2.size
      go_region_held3 (fun X => X.cell? ⟨c1, o1 + (zs.length + 1), none⟩ = some (.complex .f64 x.1 x.2))
        (first
          | go_keep
          | exact hc1
          | (rw [hgrow.cell_far _ (by first | omega | (simp; omega)) (fun e => absurd (HO.out _ e.symm) (by first | omega | (simp; omega)))]; first | assumption | exact hc1))
        ((refine step_append_lies _ (by rfl) _ _ _ (by rfl) w.heap.size 25 i0 (.complex .f64 0 0) 1 16 Try.underlying24 hi hz0 hz1 hz2 rfl (by omega) _ zs.length (zs.map cv) (by rfl) ((World.ownsRow.drew HW.out).alloc _) ⟨W.heap.size, 0, none⟩ 1 1 [.complex .f64 A'.1 A'.2] (by rfl) (by rfl) (World.news_of_block (cs := #[.complex .f64 A'.1 A'.2]) (t := 25) (fr := (0, 0)) (heap_alloc_new W.drew _)) (by simp [Value.oneCell']) (by omega) (by unfold maxLen; omega) (by omega) (by simp; omega) (W.heap.size + 1) (by simp) ?_; intro gg cap w4 hown hgrow hat hlt))
      all_goals
        have HB4 := Lib.hid (Below.grown (Below.drew (Below.alloc HI.out.2.2 HS _)) hgrow (by first | omega | (simp; omega)) (fun g hg => HO.out g hg))
        have HO4 := Lib.hid (show OwnC w.heap.size w4 (.slice (some ⟨gg, 0, none⟩) (zs.length + 1) cap) (zs ++ [(A'.1, A'.2)]) from by unfold OwnC; rw [List.length_append, List.map_append]; exact hown)
        clear hgrow hown hr1 hr2 hi
        go_wp2_with fail
        go_roundw
        case rel => exact ⟨zs.length + 1, _, _, zs ++ [(A'.1, A'.2)], rfl, rfl, by omega, by simp, by simp, by rw [tabC_succ, ← HI.out.1, ← HA'.out], HO4.out, HB4.out⟩
        case measure => simp [intOf]; omega
    · have h1I : ¬ (zs.length : Int) + 1 < (ps.length : Int) := by have := HM.out; omega
      have HE := Lib.hid (show zs = derM ps by unfold derM; rw [show ps.length - 1 = zs.length by have := HM.out; omega]; exact HI.out.1)
      go_wp2_with fail
      go_ret
      exact ⟨_, rfl, by rw [← HE.out]; exact HI.out.2.1, HI.out.2.2⟩

set_option maxRecDepth 100000 in
set_option maxHeartbeats 1600000 in
theorem sDerivP (a : Option Addr) (ps : List (Nat × Nat)) (c : Nat) (w : World) (hp : Cells w a ps) :
    Calls Try.prog 30 #[.slice a ps.length c] w (RetLC (derL ps).1 (derL ps).2 w) := by
  have HA := Lib.hid (sIs4 a ps c w hp)
  cases hf : polyR ps
  · rw [hf] at HA
    rw [derL_no hf]
    clear hp hf
    go_enter Try.func30, Try.ntmps30
    go_wp2_with fail
    refine HA.out.mono ?_
    rintro e w' ⟨n, rfl, rfl⟩
    go_wp2_with fail
    go_ret2
    exact RetLC.none _ _ _
  · rw [hf] at HA
    have HM := Lib.hid (fun n => sDerive4 a ps c (w.drewN n) (hp.drewN n) hf)
    have HEQ := Lib.hid (derL_yes hf)
    have HLN := Lib.hid (polyR_len hf).2.1
    clear hp hf
    go_enter Try.func30, Try.ntmps30
    go_wp2_with fail
    refine HA.out.mono ?_
    rintro e w' ⟨n, rfl, rfl⟩
    go_wp2_with fail
    refine (HM.out _).mono ?_
    rintro e w1 ⟨v, rfl, ho, hb⟩
    have HB := Lib.hid (show Below w.heap.size w w1 from (Below.trans (by repeat (first | exact Below.refl _ _ | refine below_drewN ?_ _)) hb))
    have HO := Lib.hid (show OwnC w.heap.size w1 v (derM ps) from ho)
    clear ho hb
    obtain ⟨a', c', hv, hc', hc2', hcell⟩ := HO.out.parts
    subst hv
    have HF := Lib.hid (sFitC a' (derM ps) c' w1 hcell hc' hc2' (by rw [derM_length]; have := HLN.out; omega))
    clear hcell
    go_wp2_with fail
    refine HF.out.mono ?_
    rintro e w2 ⟨v2, rfl, ho2, hb2⟩
    have HB2 := Lib.hid (HB.out.trans (hb2.mono HB.out.size))
    have HO2 := Lib.hid (OwnC.lower ho2 HB.out.size)
    clear ho2 hb2
    go_wp2_with fail
    go_ret2
    rw [HEQ.out]
    exact ⟨_, rfl, HO2.out, HB2.out⟩
end Go.Proofs.Ytabpgkkickdopaa
