/-
  Contracts: the polynomial with some roots as the document tells it. Conditions: the lists' cells can be read.
-/
import Derived.Test.YtabpgkkickdopaaCm
namespace Go.Proofs.Ytabpgkkickdopaa
set_option linter.unusedVariables false
open Go Go.RowKit

theorem csubF (P : Program) (t : TypeId) (a b c d : Nat) (h : finC (cf .sub .f64 a c) (cf .sub .f64 b d) = true) :
    (∀ W, (cadd P W .sub t .f64 a b c d).1 = cf .sub .f64 a c) ∧ (∀ W, (cadd P W .sub t .f64 a b c d).2.1 = cf .sub .f64 b d) := by
  obtain ⟨f1, f2⟩ := finC_split h
  exact ⟨fun W => (cadd_spec P W .sub (.inr rfl) t .f64 a b c d).2.1.eq f1, fun W => (cadd_spec P W .sub (.inr rfl) t .f64 a b c d).2.2.eq f2⟩
theorem csubN (P : Program) (t : TypeId) (a b c d : Nat) (h : finC (cf .sub .f64 a c) (cf .sub .f64 b d) = false) :
    ∀ W, finC (cadd P W .sub t .f64 a b c d).1 (cadd P W .sub t .f64 a b c d).2.1 = false := fun W => by
  have g := (cadd_spec P W .sub (.inr rfl) t .f64 a b c d).2
  rw [finC_congr g.1 g.2]; exact h
/-- Two lists of the call's own in one world: the first one stays while the other one grows. -/
theorem OwnC.grownBy {base : Nat} {w w' : World} {v : Value} {zs : List (Nat × Nat)} (h : OwnC base w v zs) {row : Option Nat} (hg : w.grownBy w' row) (hne : v.ownBlock = Option.none ∨ v.ownBlock ≠ row) : OwnC base w' v zs := World.ownsRow.kept h hg hne
theorem wrL_bad {ps : List (Nat × Nat)} {z : Nat × Nat} {n : Nat} (hn : n ≤ ps.length) (h : finC (wrAt ps z n).1 (wrAt ps z n).2 = false) : allF (wrL ps z) = false := by
  cases e : allF (wrL ps z)
  · rfl
  · have := allF_at e n (by rw [wrL_length]; omega)
    rw [wrL_at] at this
    rw [this] at h; cases h

theorem shiftAt_pred {ps : List (Nat × Nat)} {n : Nat} (h : 0 < n) (h' : n - 1 < ps.length) : shiftAt ps n = ps[n - 1] := by
  obtain ⟨r, rfl⟩ : ∃ r, n = r + 1 := ⟨n - 1, by omega⟩
  exact shiftAt_succ (by omega)

set_option maxRecDepth 100000 in
set_option maxHeartbeats 1600000 in
theorem sOfRoots4 (a : Option Addr) (zs : List (Nat × Nat)) (c : Nat) (w : World) (hp : Cells w a zs) (hlen : zs.length ≤ 1000) :
    Calls Try.prog 43 #[.slice a zs.length c] w (RetLB (finL (rootsL zs)).1 (finL (rootsL zs)).2 w) := by
  have HP := Lib.hid hp
  clear hp
  go_enter Try.func43, Try.ntmps43
  go_wp2_with fail
  go_loopw [4, 5] (fun v x wr => ∃ (k : Nat) (V : Value) (W : World), W = wr ∧ V = v ∧ k ≤ zs.length ∧ x = .int .i64 k ∧ Hid (OwnC w.heap.size W V (rootsTo zs k) ∧ allF (rootsTo zs k) = true ∧ Below w.heap.size w W)) (fun _ x _ => zs.length - (intOf x).toNat)
  case atStart => exact ⟨0, _, _, rfl, rfl, Nat.zero_le _, rfl, OwnC.lit w [(one, 0)] 1 rfl _ (Nat.le_refl _) (by simp) _ rfl, by rw [rootsTo_zero]; decide +kernel, (by repeat (first | exact Below.refl _ _ | assumption | refine Below.alloc ?_ (by simp <;> omega) _ | refine Below.setCell ?_ (by simp <;> omega) _ | refine below_drewN ?_ _))⟩
  case round =>
    obtain ⟨k, V, W, hW, hV, hk, rfl, HQ⟩ := hrel
    subst hW hV
    obtain ⟨ps, hps⟩ : ∃ ps, ps = rootsTo zs k := ⟨_, rfl⟩
    have HPL := Lib.hid (show ps.length = k + 1 by rw [hps]; exact rootsTo_length zs k hk)
    rw [← hps] at HQ
    have HPS := Lib.hid hps
    clear hps
    by_cases h3 : k < zs.length
    · have h3I : (k : Int) < (zs.length : Int) := by omega
      obtain ⟨g, cp, hv, hcp, hcp2⟩ := HQ.out.1.at0 (by have := HPL.out; omega)
      subst hv
      have HGB := Lib.hid (HQ.out.1.le rfl)
      have HGL := Lib.hid (HQ.out.1.lt')
      have HW0 := Lib.hid HQ.out.2.2.size
      obtain ⟨y, hy⟩ : ∃ y, y = zs[k] := ⟨_, rfl⟩
      obtain ⟨c1, o1, ha, hw1⟩ := HP.out.2 k h3
      subst ha
      rw [← hy] at hw1
      have lc1 : c1 < w.heap.size := World.block_lt_of_cell? w _ hw1
      have HC1 := Lib.hid ((HQ.out.2.2.cell (p := ⟨c1, o1 + k, none⟩) lc1).trans hw1)
      have HY := Lib.hid hy
      clear hw1 hy
      have hpl : ps.length ≤ 2000 := by have := HPL.out; omega
      go_upto_region 7 with fail
      go_loopw [6, 7] (fun u x wr => ∃ (n : Nat) (U : Value) (X : World), X = wr ∧ U = u ∧ n ≤ ps.length + 1 ∧ x = .int .i64 n ∧ Hid (OwnC W.heap.size X U (tabC n (wrAt ps y)) ∧ allF (tabC n (wrAt ps y)) = true ∧ Below W.heap.size W X)) (fun _ x _ => ps.length + 1 - (intOf x).toNat)
      case atStart => exact ⟨0, _, _, rfl, rfl, by omega, rfl, OwnC.empty W _ (Nat.le_refl _), rfl, (by repeat (first | exact Below.refl _ _ | assumption | refine Below.alloc ?_ (by simp <;> omega) _ | refine Below.setCell ?_ (by simp <;> omega) _ | refine below_drewN ?_ _))⟩
      case round =>
        obtain ⟨n, U, X, hX, hU, hn, rfl, HI⟩ := hrel
        subst hX hU
        by_cases h4 : n ≤ ps.length
        · have h4I : (n : Int) ≤ (ps.length : Int) := by omega
          have HO := Lib.hid (fun g hg => (World.ownsRow.lt HI.out.1 g hg).1)
          have HS := HI.out.2.2.size
          obtain ⟨A', hA'⟩ : ∃ A', A' = wrAt ps y n := ⟨_, rfl⟩
          have HA' := Lib.hid hA'
          obtain ⟨S, hS⟩ : ∃ S, S = shiftAt ps n := ⟨_, rfl⟩
          have HSS := Lib.hid hS
          clear hA' hS
          by_cases h5 : n < ps.length
          · have h5I : (n : Int) < (ps.length : Int) := by omega
            have hc1 : ∀ m, (X.drewN m).cell? ⟨c1, o1 + k, none⟩ = some (.complex .f64 y.1 y.2) := fun m => (HI.out.2.2.cell (p := ⟨c1, o1 + k, none⟩) (by have := HW0.out; show c1 < _; omega)).trans HC1.out
            obtain ⟨x, hx⟩ : ∃ x, x = ps[n] := ⟨_, rfl⟩
            have hc2 : ∀ m, (X.drewN m).cell? ⟨g, n, none⟩ = some (.complex .f64 x.1 x.2) := fun m => (HI.out.2.2.cell (p := ⟨g, n, none⟩) HGL.out).trans (by rw [hx]; exact HQ.out.1.cellAt rfl n h5)
            have hcx1 : X.cell? ⟨c1, o1 + k, none⟩ = some (.complex .f64 y.1 y.2) := hc1 0
            have hcx2 : X.cell? ⟨g, n, none⟩ = some (.complex .f64 x.1 x.2) := hc2 0
            have hAn : A' = subF S.1 S.2 (mulF x.1 x.2 y.1 y.2).1 (mulF x.1 x.2 y.1 y.2).2 := by rw [HA'.out, HSS.out, hx]; exact wrAt_yes h5
            have HAN := Lib.hid hAn
            clear hx hAn
            by_cases h6 : n = 0
            · have h6I : ¬ (0 : Int) < (n : Int) := by omega
              have hS0 : S = (0, 0) := by rw [HSS.out, h6]; rfl
              have HS0 := Lib.hid hS0
              clear h6 hS0
              cases hq : finC A'.1 A'.2
              · have CF := Lib.hid (fun (r1 r2 : Nat) (g1 : NEq .f64 r1 (mRe x.1 x.2 y.1 y.2)) (g2 : NEq .f64 r2 (mIm x.1 x.2 y.1 y.2)) => csubN Try.prog 25 0 0 r1 r2 (by
                  rw [← hq, HAN.out, HS0.out]
                  exact (NZ.sub (a := (0, 0)) (b := (0, 0)) (c := (r1, r2)) (NZ.refl _) ⟨g1, g2⟩).fin))
                have HNO := Lib.hid (rootsL_no (zs := zs) (k := k + 1) (by omega) (by rw [rootsTo_succ h3, ← HPS.out, ← HY.out]; exact wrL_bad h4 (by rw [← HA'.out]; exact hq)))
                clear hq
                go_upto_region 13 with fail
                go_region_with ((go_at_call 90; refine (times_any _ _ _ _ _).mono ?_; rintro e w' ⟨r1, r2, m, rfl, g1, g2, rfl⟩; have e1 := CF.out r1 r2 g1 g2))
                all_goals
                  clear g1 g2
                  go_wp2_with (go_at_call 51; refine (sFin _ _ _).mono ?_; rintro e w' ⟨_, rfl, rfl⟩)
                  go_ret2
                  rw [finL_no HNO.out]
                  exact ⟨_, rfl, OwnC.none _ _, by repeat (first | exact HQ.out.2.2.trans (HI.out.2.2.mono HQ.out.2.2.size) | refine below_drewN ?_ _)⟩
              · have CF := Lib.hid (fun (r1 r2 : Nat) (g1 : NEq .f64 r1 (mRe x.1 x.2 y.1 y.2)) (g2 : NEq .f64 r2 (mIm x.1 x.2 y.1 y.2)) => (show (∀ W, (cadd Try.prog W .sub 25 .f64 0 0 r1 r2).1 = A'.1) ∧ ∀ W, (cadd Try.prog W .sub 25 .f64 0 0 r1 r2).2.1 = A'.2 from by
                  have k1 : cf .sub .f64 0 r1 = A'.1 := by rw [HAN.out, HS0.out]; exact cf_congr (NEq.refl _ _) g1
                  have k2 : cf .sub .f64 0 r2 = A'.2 := by rw [HAN.out, HS0.out]; exact cf_congr (NEq.refl _ _) g2
                  have := csubF Try.prog 25 0 0 r1 r2 (by rw [k1, k2]; exact hq)
                  rwa [k1, k2] at this))
                have HQQ := Lib.hid hq
                go_upto_region 13 with fail
                go_region_with ((go_at_call 90; refine (times_any _ _ _ _ _).mono ?_; rintro e w' ⟨r1, r2, m, rfl, g1, g2, rfl⟩; obtain ⟨e1, e2⟩ := CF.out r1 r2 g1 g2))
                all_goals
                  clear g1 g2
                  go_wp2_with (first | (go_at_call 51; refine (sFin _ _ _).mono ?_; rintro e w' ⟨_, rfl, rfl⟩) | (at_builtin; refine wp_appC rfl _ _ rfl _ A'.1 A'.2 rfl W.heap.size _ (tabC n (wrAt ps y)) (HI.out.1.drewN _) rfl rfl (by rw [tabC_length]; omega) (by first | exact HS | (simp; omega)) ?_; intro v' w4 hown hgrow))
                  have HB4 := Lib.hid (Below.grown (Below.alloc (below_drewN HI.out.2.2 _) (by first | exact HS | (simp; omega)) _) hgrow (by simp; omega) (fun g hg => HO.out g hg))
                  have HO4 := Lib.hid hown
                  clear hgrow hown
                  go_wp2_with fail
                  go_roundw
                  case rel =>
                    refine ⟨n + 1, _, _, rfl, rfl, by omega, by go_num, ?_, ?_, HB4.out⟩
                    · rw [tabC_succ, ← HA'.out]; exact HO4.out
                    · rw [tabC_succ, ← HA'.out]; exact allF_snoc HI.out.2.1 HQQ.out
                  case measure => simp [intOf]; omega
            · have h6I : (0 : Int) < (n : Int) := by omega
              have hn1 : ((n : Int) - 1).toNat = n - 1 := by omega
              have hn2 : (0 : Int) ≤ (n : Int) - 1 := by omega
              have hn3 : (n : Int) - 1 < (ps.length : Int) := by omega
              have hc0 : X.cell? ⟨g, n - 1, none⟩ = some (.complex .f64 S.1 S.2) := (HI.out.2.2.cell (p := ⟨g, n - 1, none⟩) HGL.out).trans (by rw [HSS.out, shiftAt_pred (by omega) (by omega)]; exact HQ.out.1.cellAt rfl (n - 1) (by omega))
              clear h6
              cases hq : finC A'.1 A'.2
              · have CF := Lib.hid (fun (r1 r2 : Nat) (g1 : NEq .f64 r1 (mRe x.1 x.2 y.1 y.2)) (g2 : NEq .f64 r2 (mIm x.1 x.2 y.1 y.2)) => csubN Try.prog 25 S.1 S.2 r1 r2 (by
                  rw [← hq, HAN.out]
                  exact (NZ.sub (a := S) (b := S) (c := (r1, r2)) (NZ.refl _) ⟨g1, g2⟩).fin))
                have HNO := Lib.hid (rootsL_no (zs := zs) (k := k + 1) (by omega) (by rw [rootsTo_succ h3, ← HPS.out, ← HY.out]; exact wrL_bad h4 (by rw [← HA'.out]; exact hq)))
                clear hq
                go_upto_region 13 with fail
                go_region_with ((go_at_call 90; refine (times_any _ _ _ _ _).mono ?_; rintro e w' ⟨r1, r2, m, rfl, g1, g2, rfl⟩; have e1 := CF.out r1 r2 g1 g2))
                all_goals
                  clear g1 g2
                  go_wp2_with (go_at_call 51; refine (sFin _ _ _).mono ?_; rintro e w' ⟨_, rfl, rfl⟩)
                  go_ret2
                  rw [finL_no HNO.out]
                  exact ⟨_, rfl, OwnC.none _ _, by repeat (first | exact HQ.out.2.2.trans (HI.out.2.2.mono HQ.out.2.2.size) | refine below_drewN ?_ _)⟩
              · have CF := Lib.hid (fun (r1 r2 : Nat) (g1 : NEq .f64 r1 (mRe x.1 x.2 y.1 y.2)) (g2 : NEq .f64 r2 (mIm x.1 x.2 y.1 y.2)) => (show (∀ W, (cadd Try.prog W .sub 25 .f64 S.1 S.2 r1 r2).1 = A'.1) ∧ ∀ W, (cadd Try.prog W .sub 25 .f64 S.1 S.2 r1 r2).2.1 = A'.2 from by
                  have k1 : cf .sub .f64 S.1 r1 = A'.1 := by rw [HAN.out]; exact cf_congr (NEq.refl _ _) g1
                  have k2 : cf .sub .f64 S.2 r2 = A'.2 := by rw [HAN.out]; exact cf_congr (NEq.refl _ _) g2
                  have := csubF Try.prog 25 S.1 S.2 r1 r2 (by rw [k1, k2]; exact hq)
                  rwa [k1, k2] at this))
                have HQQ := Lib.hid hq
                go_upto_region 13 with fail
                go_region_with ((go_at_call 90; refine (times_any _ _ _ _ _).mono ?_; rintro e w' ⟨r1, r2, m, rfl, g1, g2, rfl⟩; obtain ⟨e1, e2⟩ := CF.out r1 r2 g1 g2))
                all_goals
                  clear g1 g2
                  go_wp2_with (first | (go_at_call 51; refine (sFin _ _ _).mono ?_; rintro e w' ⟨_, rfl, rfl⟩) | (at_builtin; refine wp_appC rfl _ _ rfl _ A'.1 A'.2 rfl W.heap.size _ (tabC n (wrAt ps y)) (HI.out.1.drewN _) rfl rfl (by rw [tabC_length]; omega) (by first | exact HS | (simp; omega)) ?_; intro v' w4 hown hgrow))
                  have HB4 := Lib.hid (Below.grown (Below.alloc (below_drewN HI.out.2.2 _) (by first | exact HS | (simp; omega)) _) hgrow (by simp; omega) (fun g hg => HO.out g hg))
                  have HO4 := Lib.hid hown
                  clear hgrow hown
                  go_wp2_with fail
                  go_roundw
                  case rel =>
                    refine ⟨n + 1, _, _, rfl, rfl, by omega, by go_num, ?_, ?_, HB4.out⟩
                    · rw [tabC_succ, ← HA'.out]; exact HO4.out
                    · rw [tabC_succ, ← HA'.out]; exact allF_snoc HI.out.2.1 HQQ.out
                  case measure => simp [intOf]; omega
          · have h5I : ¬ (n : Int) < (ps.length : Int) := by omega
            have h6I : (0 : Int) < (n : Int) := by have := HPL.out; omega
            have hn1 : ((n : Int) - 1).toNat = n - 1 := by omega
            have hn2 : (0 : Int) ≤ (n : Int) - 1 := by omega
            have hn3 : (n : Int) - 1 < (ps.length : Int) := by omega
            have HSE := Lib.hid (show S = ps[n - 1]'(by omega) from by rw [HSS.out, shiftAt_pred (by omega) (by omega)])
            have hc0 : X.cell? ⟨g, n - 1, none⟩ = some (.complex .f64 S.1 S.2) := (HI.out.2.2.cell (p := ⟨g, n - 1, none⟩) HGL.out).trans (by rw [HSE.out]; exact HQ.out.1.cellAt rfl (n - 1) (by omega))
            obtain rfl : A' = S := by rw [HA'.out, HSS.out]; exact wrAt_no h5
            have hq : finC A'.1 A'.2 = true := by rw [HSE.out]; exact allF_at HQ.out.2.1 _ _
            have HQQ := Lib.hid hq
            go_wp2_with (first | (go_at_call 51; refine (sFin _ _ _).mono ?_; rintro e w' ⟨_, rfl, rfl⟩) | (at_builtin; refine wp_appC rfl _ _ rfl _ A'.1 A'.2 rfl W.heap.size _ (tabC n (wrAt ps y)) (HI.out.1.drewN _) rfl rfl (by rw [tabC_length]; omega) (by first | exact HS | (simp; omega)) ?_; intro v' w4 hown hgrow))
            have HB4 := Lib.hid (Below.grown (Below.alloc (below_drewN HI.out.2.2 _) (by first | exact HS | (simp; omega)) _) hgrow (by simp; omega) (fun g hg => HO.out g hg))
            have HO4 := Lib.hid hown
            clear hgrow hown
            go_wp2_with fail
            go_roundw
            case rel =>
              refine ⟨n + 1, _, _, rfl, rfl, by omega, by go_num, ?_, ?_, HB4.out⟩
              · rw [tabC_succ, ← HA'.out]; exact HO4.out
              · rw [tabC_succ, ← HA'.out]; exact allF_snoc HI.out.2.1 HQQ.out
            case measure => simp [intOf]; omega
        · have h4I : ¬ (n : Int) ≤ (ps.length : Int) := by omega
          have HNX := Lib.hid (show OwnC w.heap.size X U (rootsTo zs (k + 1)) ∧ allF (rootsTo zs (k + 1)) = true ∧ Below w.heap.size w X from by
            have e : tabC n (wrAt ps y) = rootsTo zs (k + 1) := by
              rw [rootsTo_succ h3, ← HPS.out, ← HY.out, show n = ps.length + 1 by omega]; rfl
            rw [← e]
            exact ⟨OwnC.lower HI.out.1 HQ.out.2.2.size, HI.out.2.1, HQ.out.2.2.trans (HI.out.2.2.mono HQ.out.2.2.size)⟩)
          go_wp2_with fail
          go_roundw
          case rel => exact ⟨k + 1, _, _, rfl, rfl, by omega, by go_num, HNX.out⟩
          case measure => simp [intOf]; omega
    · obtain rfl : k = zs.length := by omega
      have HEQ := Lib.hid (show finL (rootsL zs) = (ps, true) from by rw [HPS.out]; exact finL_yes (by unfold rootsL; rw [← HPS.out]; exact HQ.out.2.1))
      go_wp2_with fail
      go_ret2
      rw [HEQ.out]
      exact ⟨_, rfl, HQ.out.1, HQ.out.2.2⟩
end Go.Proofs.Ytabpgkkickdopaa
