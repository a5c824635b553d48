/-
  Contracts: scaled polynomials by both sides. Conditions: the lists' cells can be read. Contracts: scaled polynomials as the document tells them. Conditions: the lists' cells can be read.
-/
import Derived.Test.YtabpgkkickdopaaCq
import Derived.Deep.RegionHeld3
import Derived.Deep.AppendLies
import Derived.Deep.DeepCutAuto
namespace Go.Proofs.Ytabpgkkickdopaa
set_option linter.unusedVariables false
open Go Go.RowKit

def sclAt (ps : List (Nat × Nat)) (k : Int) (i : Nat) : Nat × Nat := (scaled (ps.getD i (0, 0)).1 (k * i), scaled (ps.getD i (0, 0)).2 (k * i))
def sclM (ps : List (Nat × Nat)) (k : Int) : List (Nat × Nat) := tabC ps.length (sclAt ps k)
def sclL (ps : List (Nat × Nat)) (k : Int) : List (Nat × Nat) × Int := if polyR ps = true then (if k < -60 ∨ 60 < k then ([], 2) else if polyR (sclM ps k) = true then (sclM ps k, 0) else ([], 3)) else ([], 1)
theorem sclM_length (ps : List (Nat × Nat)) (k : Int) : (sclM ps k).length = ps.length := tabC_length _ _
def sclTo (ps : List (Nat × Nat)) (k : Int) (j i : Nat) : Nat × Nat := if i < j then sclAt ps k i else ps.getD i (0, 0)
theorem sclTo_zero (ps : List (Nat × Nat)) (k : Int) : tabC ps.length (sclTo ps k 0) = ps := tabC_self _ _ fun i hi => by unfold sclTo; rw [if_neg (Nat.not_lt_zero _), getD_C hi]
theorem sclTo_step (ps : List (Nat × Nat)) (k : Int) (j N : Nat) : (tabC N (sclTo ps k j)).set j (sclAt ps k j) = tabC N (sclTo ps k (j + 1)) := by
  refine tabC_set ?_ fun i _ hne => ?_
  · unfold sclTo; rw [if_pos (by omega)]
  · unfold sclTo
    by_cases h : i < j
    · rw [if_pos h, if_pos (by omega)]
    · rw [if_neg h, if_neg (by omega)]
theorem sclTo_all (ps : List (Nat × Nat)) (k : Int) : tabC ps.length (sclTo ps k ps.length) = sclM ps k := tabC_congr fun i hi => by unfold sclTo; rw [if_pos hi]
theorem scl_bad {ps : List (Nat × Nat)} {k : Int} {i : Nat} (hi : i < ps.length) (h : finC (sclAt ps k i).1 (sclAt ps k i).2 = false) : polyR (sclM ps k) = false :=
  polyR_no (partR_no (allF_no i (by rw [sclM_length]; exact hi) (by
    have : (sclM ps k)[i]'(by rw [sclM_length]; exact hi) = sclAt ps k i := tabC_at (n := ps.length) (f := sclAt ps k) _
    rw [this]; exact h)))
theorem polyR_like {zs ys : List (Nat × Nat)} (h : LikeL zs ys) : polyR zs = polyR ys := by
  cases e : allF ys
  · rw [polyR_no (partR_no e), polyR_no (partR_no (h.fin.trans e))]
  · rw [h.eq e]

theorem scl_small {k : Int} {i : Nat} (h1 : -60 ≤ k) (h2 : k ≤ 60) (hi : i ≤ 13) : -780 ≤ k * i ∧ k * i ≤ 780 := by
  have h := Int.mul_le_mul_of_nonneg_right h2 (show (0 : Int) ≤ (i : Int) by omega)
  have g := Int.mul_le_mul_of_nonneg_right h1 (show (0 : Int) ≤ (i : Int) by omega)
  omega

set_option maxRecDepth 100000 in
set_option maxHeartbeats 1600000 in
theorem iScaleP (a : Option Addr) (ps : List (Nat × Nat)) (c : Nat) (k : Int) (w : World) (hp : Cells w a ps) :
    Calls Try.prog 32 #[.slice a ps.length c, .int .i64 k] w (RetLC (sclL ps k).1 (sclL ps k).2 w) := by
  have HA := Lib.hid (iIsPoly a ps c w hp)
  have HBY := Lib.hid (fun W => iBeyond k 60 W (by omega) (by omega))
  cases hf : polyR ps
  · rw [hf] at HA
    rw [show sclL ps k = ([], 1) from if_neg (by rw [hf]; simp)]
    clear hp hf
    go_enter Try.func32, Try.ntmps32
    go_wp2_with fail
    refine HA.out.mono ?_
    rintro e w' ⟨n, rfl, rfl⟩
    go_wp2_with fail
    go_ret2
    exact RetLC.none _ _ _
  rw [hf] at HA
  by_cases hk : k < -60 ∨ 60 < k
  · rw [show sclL ps k = ([], 2) by unfold sclL; rw [if_pos hf, if_pos hk]]
    rw [show decide (k < -60 ∨ 60 < k) = true from decide_eq_true hk] at HBY
    clear hp hf hk
    go_enter Try.func32, Try.ntmps32
    go_wp2_with fail
    refine HA.out.mono ?_
    rintro e w' ⟨n, rfl, rfl⟩
    go_wp2_with fail
    refine (HBY.out _).mono ?_
    rintro e w' ⟨rfl, rfl⟩
    go_wp2_with fail
    go_ret2
    exact RetLC.none _ _ _
  · rw [show decide (k < -60 ∨ 60 < k) = false from decide_eq_false hk] at HBY
    obtain ⟨l1, l2, hfin, hnz⟩ := polyR_len hf
    have HEQ := Lib.hid (show sclL ps k = if polyR (sclM ps k) = true then (sclM ps k, 0) else ([], 3) by unfold sclL; rw [if_pos hf, if_neg hk])
    have HC := Lib.hid (fun n => iPolyOf a ps c (w.drewN n) (by omega) (hp.drewN n))
    have HP := Lib.hid hp
    have HN := Lib.hid hfin
    have hk1 : -60 ≤ k := by omega
    have hk2 : k ≤ 60 := by omega
    clear hp hf hk hfin hnz
    go_enter Try.func32, Try.ntmps32
    go_wp2_with fail
    refine HA.out.mono ?_
    rintro e w' ⟨n, rfl, rfl⟩
    go_wp2_with fail
    refine (HBY.out _).mono ?_
    rintro e w' ⟨rfl, rfl⟩
    go_wp2_with fail
    refine (HC.out _).mono ?_
    rintro e w1 ⟨v, rfl, ho, hb⟩
    have HB := Lib.hid (show Below w.heap.size w w1 from (Below.trans (by repeat (first | exact Below.refl _ _ | refine below_drewN ?_ _)) hb))
    have HO := Lib.hid (show OwnC w.heap.size w1 v ps from ho)
    clear hb ho
    obtain ⟨g, cp, hv, hcp, hcp2⟩ := HO.out.at0 (by omega)
    subst hv
    have HG := Lib.hid (HO.out.le rfl)
    go_wp2_with fail
    go_loopw [20] (fun x wr => ∃ (j : Nat) (zs : List (Nat × Nat)) (W : World), W = wr ∧ j ≤ ps.length ∧ x = .int .i64 j ∧ Hid (zs = tabC ps.length (sclTo ps k j) ∧ OwnC w.heap.size wr (.slice (some ⟨g, 0, none⟩) ps.length cp) zs ∧ Below w.heap.size w wr)) (fun x _ => ps.length - (intOf x).toNat)
    case atStart => exact ⟨0, ps, _, rfl, Nat.zero_le _, rfl, (sclTo_zero ps k).symm, HO.out, HB.out⟩
    case round =>
      clear HO HB HC HA
      obtain ⟨j, zs, W, hW, hj, rfl, HI⟩ := hrel
      subst hW
      have HZL := Lib.hid (show ps.length = zs.length by rw [HI.out.1, tabC_length])
      by_cases h1 : j < ps.length
      · have h1I : (j : Int) < (ps.length : Int) := by omega
        obtain ⟨c1, o1, ha, hw1⟩ := HP.out.2 j h1
        subst ha
        obtain ⟨x, hx⟩ : ∃ x, x = ps[j] := ⟨_, rfl⟩
        rw [← hx] at hw1
        have lc1 : c1 < w.heap.size := World.block_lt_of_cell? w _ hw1
        have hc1 := (HI.out.2.2.cell (p := ⟨c1, o1 + j, none⟩) lc1).trans hw1
        obtain ⟨b1, b2⟩ := scl_small (i := j) hk1 hk2 (by omega)
        obtain ⟨K, hK⟩ : ∃ K : Int, K = k * (j : Int) := ⟨_, rfl⟩
        have hwr : IntKind.i64.wrap (k * (j : Int)) = K := by rw [IntKind.wrap_i64, ← hK]; omega
        have hff : finC x.1 x.2 = true := by rw [hx]; exact allF_at HN.out _ _
        obtain ⟨A', hA'⟩ : ∃ A', A' = sclAt ps k j := ⟨_, rfl⟩
        have hsc : scaleR x.1 x.2 K = limC A'.1 A'.2 := by
          unfold scaleR
          rw [if_pos hff, if_pos (by omega), hA']
          unfold sclAt
          rw [getD_C h1, ← hx, hK]
        have HS := Lib.hid (fun W => iScaleW x.1 x.2 K W)
        rw [hsc] at HS
        have HA' := Lib.hid hA'
        have hc3 := HI.out.2.1.cellAt HZL.out j (by have := HZL.out; omega)
        have hf3 := HI.out.2.1.frozenAt HZL.out j
        have hc4 : ∀ n, (W.drewN n).cell? ⟨g, j, none⟩ = some (.complex .f64 (zs[j]'(by have := HZL.out; omega)).1 (zs[j]'(by have := HZL.out; omega)).2) := fun n => hc3
        have hf4 : ∀ n, (W.drewN n).frozen? ⟨g, j, none⟩ = false := fun n => hf3
        clear hx hw1 hsc hff hA' hK b1 b2
        cases hq : finC A'.1 A'.2
        · have HNO := Lib.hid (scl_bad (ps := ps) (k := k) (i := j) h1 (by rw [← HA'.out]; exact hq))
          rw [limC_no hq] at HS
          clear hq
          go_wp2_with fail
          refine (HS.out _).mono ?_
          rintro e w' ⟨n2, rfl, rfl⟩
          unfold pairV
          go_wp2_with fail
          go_ret2
          rw [HEQ.out, if_neg (by rw [HNO.out]; simp)]
          exact ⟨_, rfl, OwnC.none _ _, below_drewN HI.out.2.2 _⟩
        · rw [limC_yes hq] at HS
          clear hq
          go_wp2_with fail
          refine (HS.out _).mono ?_
          rintro e w' ⟨n2, rfl, rfl⟩
          unfold pairV
          go_wp2_with fail
          go_roundw
          case rel => exact ⟨j + 1, zs.set j (A'.1, A'.2), _, rfl, by omega, by go_num, by rw [← sclTo_step, ← HA'.out, HI.out.1], (HI.out.2.1.drewN n2).stored HZL.out j _ _, (below_drewN HI.out.2.2 n2).setCell HG.out _⟩
          case measure => simp [intOf]; omega
      · obtain rfl : j = ps.length := by omega
        have HE := Lib.hid (show zs = sclM ps k from HI.out.1.trans (sclTo_all ps k))
        obtain ⟨q, cq, hq, hcells⟩ := HI.out.2.1.cells
        rw [← HZL.out] at hq
        injection hq with hq1 hq2 hq3
        subst hq1 hq3
        have HL := Lib.hid (iPoly (some ⟨g, 0, none⟩) zs cp W hcells)
        rw [HE.out, sclM_length] at HL
        clear hcells
        cases hf : polyR (sclM ps k)
        · rw [hf] at HL
          have HFF := Lib.hid hf
          clear hf
          go_wp2_with fail
          refine HL.out.mono ?_
          rintro e w' ⟨n2, rfl, rfl⟩
          go_wp2_with fail
          go_ret2
          rw [HEQ.out, if_neg (by rw [HFF.out]; simp)]
          exact ⟨_, rfl, OwnC.none _ _, below_drewN HI.out.2.2 _⟩
        · rw [hf] at HL
          have HFF := Lib.hid hf
          clear hf
          go_wp2_with fail
          refine HL.out.mono ?_
          rintro e w' ⟨n2, rfl, rfl⟩
          go_wp2_with fail
          go_ret2
          rw [HEQ.out, if_pos HFF.out]
          exact ⟨_, rfl, by rw [← HE.out]; exact HI.out.2.1, below_drewN HI.out.2.2 _⟩

set_option maxRecDepth 100000 in
set_option maxHeartbeats 1600000 in
theorem sScaleP (a : Option Addr) (ps : List (Nat × Nat)) (c : Nat) (k : Int) (w : World) (hp : Cells w a ps) (kb1 : -9223372036854775808 ≤ k) (kb2 : k ≤ 9223372036854775807) :
    Calls Try.prog 33 #[.slice a ps.length c, .int .i64 k] w (RetLC (sclL ps k).1 (sclL ps k).2 w) := by
  have HA := Lib.hid (sIs4 a ps c w hp)
  have HBY := Lib.hid (fun W => in_any k (-60) 60 W)
  cases hf : polyR ps
  · rw [hf] at HA
    rw [show sclL ps k = ([], 1) from if_neg (by rw [hf]; simp)]
    clear hp hf
    go_enter Try.func33, Try.ntmps33
    go_wp2_with fail
    refine HA.out.mono ?_
    rintro e w' ⟨n, rfl, rfl⟩
    go_wp2_with fail
    go_ret2
    exact RetLC.none _ _ _
  rw [hf] at HA
  by_cases hk : k < -60 ∨ 60 < k
  · rw [show sclL ps k = ([], 2) by unfold sclL; rw [if_pos hf, if_pos hk]]
    rw [show decide (-60 ≤ k ∧ k ≤ 60) = false from decide_eq_false (by omega)] at HBY
    clear hp hf hk
    go_enter Try.func33, Try.ntmps33
    go_wp2_with fail
    refine HA.out.mono ?_
    rintro e w' ⟨n, rfl, rfl⟩
    go_wp2_with fail
    refine (HBY.out _).mono ?_
    rintro e w' ⟨rfl, rfl⟩
    go_wp2_with fail
    go_ret2
    exact RetLC.none _ _ _
  · rw [show decide (-60 ≤ k ∧ k ≤ 60) = true from decide_eq_true (by omega)] at HBY
    obtain ⟨l1, l2, hfin, hnz⟩ := polyR_len hf
    have HEQ := Lib.hid (show sclL ps k = if polyR (sclM ps k) = true then (sclM ps k, 0) else ([], 3) by unfold sclL; rw [if_pos hf, if_neg hk])
    have HP := Lib.hid hp
    have hk1 : -60 ≤ k := by omega
    have hk2 : k ≤ 60 := by omega
    clear hp hf hk hfin hnz kb1 kb2
    go_enter Try.func33, Try.ntmps33
    go_wp2_with fail
    refine HA.out.mono ?_
    rintro e w' ⟨n, rfl, rfl⟩
    go_wp2_with fail
    refine (HBY.out _).mono ?_
    rintro e w' ⟨rfl, rfl⟩
    go_wp2_with fail
    clear HA HBY
    go_loopw [6, 7] (fun v x wr => ∃ (j : Nat) (V : Value) (W : World) (zs : List (Nat × Nat)), W = wr ∧ V = v ∧ j ≤ ps.length ∧ zs.length = j ∧ x = .int .i64 (j : Int) ∧ Hid (LikeL zs (tabC j (sclAt ps k)) ∧ OwnC w.heap.size W V zs ∧ Below w.heap.size w W)) (fun _ x _ => ps.length - (intOf x).toNat)
    case atStart => exact ⟨0, _, _, [], rfl, rfl, Nat.zero_le _, rfl, rfl, LikeL.refl _, OwnC.empty _ _ (by simp), (by repeat (first | exact Below.refl _ _ | assumption | refine Below.alloc ?_ (by simp <;> omega) _ | refine Below.setCell ?_ (by simp <;> omega) _ | refine below_drewN ?_ _))⟩
    case round =>
      obtain ⟨j, V, W, zs, hW, hV, hj, hzl, rfl, HI⟩ := hrel
      subst hW hV hzl
      by_cases h1 : zs.length < ps.length
      · have h1I : (zs.length : Int) < (ps.length : Int) := by omega
        obtain ⟨c1, o1, ha, hw1⟩ := HP.out.2 zs.length h1
        subst ha
        obtain ⟨x, hx⟩ : ∃ x, x = ps[zs.length] := ⟨_, rfl⟩
        rw [← hx] at hw1
        have lc1 : c1 < w.heap.size := World.block_lt_of_cell? w _ hw1
        have hc1 := (HI.out.2.2.cell (p := ⟨c1, o1 + zs.length, none⟩) lc1).trans hw1
        obtain ⟨b1, b2⟩ := scl_small (i := zs.length) hk1 hk2 (by omega)
        obtain ⟨K, hK⟩ : ∃ K : Int, K = k * (zs.length : Int) := ⟨_, rfl⟩
        have hwr : IntKind.i64.wrap (k * (zs.length : Int)) = K := by rw [IntKind.wrap_i64, ← hK]; omega
        have S1 := Lib.hid (fun W => scale_any x.1 K W (by omega) (by omega))
        have S2 := Lib.hid (fun W => scale_any x.2 K W (by omega) (by omega))
        have HST := Lib.hid (fun (r1 r2 : Nat) (g1 : NEq .f64 r1 (scaled x.1 K)) (g2 : NEq .f64 r2 (scaled x.2 K)) => (show LikeL (zs ++ [(r1, r2)]) (tabC (zs.length + 1) (sclAt ps k)) from by
          rw [tabC_succ]
          refine HI.out.1.snoc ?_
          unfold sclAt
          rw [getD_C h1, ← hx, ← hK]
          exact ⟨g1, g2⟩))
        clear hx hw1 hK b1 b2
        obtain ⟨x1, x2⟩ := x
        dsimp only at hc1 S1 S2 HST
        have HS := HI.out.2.2.size
        have HO := Lib.hid (fun g hg => (World.ownsRow.lt HI.out.2.1 g hg).1)
        have OWD := Lib.hid (fun n => HI.out.2.1.drewN n)
        obtain ⟨i0, hi, hz0, hz1, hz2⟩ := info_parts info24
        go_upto_region 9 with fail
        have HS := HI.out.2.2.size
        go_region_held3 (fun X => X.cell? ⟨c1, o1 + zs.length, none⟩ = some (.complex .f64 x1 x2))
          (first
            | go_keep
            | exact hc1
            | (rw [hgrow.cell_far _ (by first | omega | (simp; omega)) (fun e => absurd (HO.out _ e.symm) (by first | omega | (simp; omega)))]; first | assumption | exact hc1))
          (first
          | (go_at_call 79; (with_reducible refine (S1.out _).mono ?_); rintro e w' ⟨r1, n1, _, rfl, g1, rfl⟩)
          | (go_at_call 79; (with_reducible refine (S2.out _).mono ?_); rintro e w' ⟨r2, n2, _, rfl, g2, rfl⟩)
          | (refine step_append_lies _ (by rfl) _ _ _ (by rfl) w.heap.size 25 i0 (.complex .f64 0 0) 1 16 Try.underlying24 hi hz0 hz1 hz2 rfl (by omega) _ zs.length (zs.map cv) (by rfl) ((OWD.out _).alloc _) ⟨W.heap.size, 0, none⟩ 1 1 [.complex .f64 r1 r2] (by rfl) (by rfl) (World.news_of_block (cs := #[.complex .f64 r1 r2]) (t := 25) (fr := (0, 0)) (heap_alloc_new (W.drewN _) _)) (by simp [Value.oneCell']) (by omega) (by unfold maxLen; omega) (by omega) (by simp; omega) (W.heap.size + 1) (by simp) ?_; intro gg cap w4 hown hgrow hat hlt))
        all_goals
          have HB4 := Lib.hid (Below.grown (by first | exact below_drewN (Below.alloc HI.out.2.2 HS _) _ | exact Below.alloc (below_drewN HI.out.2.2 _) (by simpa using HS) _) hgrow (by first | omega | (simp; omega)) (fun g hg => HO.out g hg))
          have HO4 := Lib.hid (show OwnC w.heap.size w4 (.slice (some ⟨gg, 0, none⟩) (zs.length + 1) cap) (zs ++ [(r1, r2)]) from by unfold OwnC; rw [List.length_append, List.map_append]; exact hown)
          have HL4 := Lib.hid (HST.out r1 r2 g1 g2)
          clear hgrow hown hi g1 g2
          go_wp2_with fail
          go_roundw
          case rel => exact ⟨zs.length + 1, _, _, zs ++ [(r1, r2)], rfl, rfl, by omega, by simp, by simp, HL4.out, HO4.out, HB4.out⟩
          case measure => simp [intOf]; omega
      · have h1I : ¬ (zs.length : Int) < (ps.length : Int) := by omega
        have hzl : zs.length = ps.length := by omega
        have HLK := Lib.hid (show LikeL zs (sclM ps k) by have := HI.out.1; rw [hzl] at this; exact this)
        obtain ⟨q, cq, hv, hq1, hq2, hcells⟩ := HI.out.2.1.parts
        subst hv
        have HL := Lib.hid (sIs4 q zs cq W hcells)
        rw [polyR_like HLK.out] at HL
        clear hcells hzl
        cases hf : polyR (sclM ps k)
        · rw [hf] at HL
          have HFF := Lib.hid hf
          clear hf
          go_wp2_with fail
          refine HL.out.mono ?_
          rintro e w' ⟨n2, rfl, rfl⟩
          go_wp2_with fail
          go_ret2
          rw [HEQ.out, if_neg (by rw [HFF.out]; simp)]
          exact ⟨_, rfl, OwnC.none _ _, below_drewN HI.out.2.2 _⟩
        · rw [hf] at HL
          have HFF := Lib.hid hf
          have HFA := Lib.hid (polyR_len hf).2.2.1
          clear hf
          go_wp2_with fail
          refine HL.out.mono ?_
          rintro e w' ⟨n2, rfl, rfl⟩
          go_wp2_with fail
          go_ret2
          rw [HEQ.out, if_pos HFF.out]
          exact ⟨_, rfl, by rw [← HLK.out.eq HFA.out]; exact HI.out.2.1, below_drewN HI.out.2.2 _⟩
end Go.Proofs.Ytabpgkkickdopaa
