/-
  Contracts: sums of parts, as the document tells them. Conditions: the lists' cells can be read.
-/
import Derived.Test.YtabpgkkickdopaaCe
import Derived.Test.YtabpgkkickdopaaGa
import Derived.Deep.RegionHeld3
import Derived.Deep.AppendLies
import Derived.Deep.DeepCutAuto
namespace Go.Proofs.Ytabpgkkickdopaa
set_option linter.unusedVariables false
open Go Go.RowKit

/-- The coefficient at i of a sum, up to a NaN's bits. -/
def addAt (ps qs : List (Nat × Nat)) (i : Nat) : Nat × Nat :=
  if h : i < ps.length then (if h' : i < qs.length then (cf .add .f64 ps[i].1 qs[i].1, cf .add .f64 ps[i].2 qs[i].2) else ps[i]) else if h' : i < qs.length then qs[i] else (0, 0)
/-- The numbers of a list are those of f, up to a NaN's bits. -/
def LikeF (f : Nat → Nat × Nat) (zs : List (Nat × Nat)) : Prop := ∀ (i : Nat) (h : i < zs.length), NEq .f64 zs[i].1 (f i).1 ∧ NEq .f64 zs[i].2 (f i).2
theorem LikeF.nil (f : Nat → Nat × Nat) : LikeF f [] := fun _ h => absurd h (Nat.not_lt_zero _)
theorem LikeF.snoc {f : Nat → Nat × Nat} {zs : List (Nat × Nat)} (h : LikeF f zs) {x y : Nat} (hx : NEq .f64 x (f zs.length).1) (hy : NEq .f64 y (f zs.length).2) : LikeF f (zs ++ [(x, y)]) := by
  intro i hi
  rw [List.length_append, List.length_singleton] at hi
  by_cases hl : i < zs.length
  · rw [List.getElem_append_left hl]; exact h i hl
  · obtain rfl : i = zs.length := by omega
    simp only [List.getElem_concat_length]
    exact ⟨hx, hy⟩
theorem addAt_both {ps qs : List (Nat × Nat)} {i : Nat} (h : i < ps.length) (h' : i < qs.length) : addAt ps qs i = (cf .add .f64 ps[i].1 qs[i].1, cf .add .f64 ps[i].2 qs[i].2) := by unfold addAt; rw [dif_pos h, dif_pos h']
theorem addAt_left {ps qs : List (Nat × Nat)} {i : Nat} (h : i < ps.length) (h' : ¬ i < qs.length) : addAt ps qs i = ps[i] := by unfold addAt; rw [dif_pos h, dif_neg h']
theorem addAt_right {ps qs : List (Nat × Nat)} {i : Nat} (h : ¬ i < ps.length) (h' : i < qs.length) : addAt ps qs i = qs[i] := by unfold addAt; rw [dif_neg h, dif_pos h']

theorem OwnC.lower {base base' : Nat} {w : World} {v : Value} {zs : List (Nat × Nat)} (h : OwnC base w v zs) (hb : base' ≤ base) : OwnC base' w v zs := by
  obtain ⟨h1, h2⟩ := h
  refine ⟨h1, ?_⟩
  rcases h2 with h2 | ⟨g, c, cur, hv, hg, hrest⟩
  · exact .inl h2
  · exact .inr ⟨g, c, cur, hv, Nat.le_trans hb hg, hrest⟩
/-- The call returns a sum of parts, or why there is none. -/
def AddR (ps qs : List (Nat × Nat)) (w : World) (e : Ending) (w' : World) : Prop :=
  if partR ps = true ∧ partR qs = true then ∃ zs, zs.length = max ps.length qs.length ∧ LikeF (addAt ps qs) zs ∧ RetLC (fitC zs).1 (fitC zs).2 w e w'
  else RetLC [] 1 w e w'

theorem AddR_no {ps qs : List (Nat × Nat)} {w : World} (h : ¬ (partR ps = true ∧ partR qs = true)) : AddR ps qs w = RetLC [] 1 w := by
  funext e w'; unfold AddR; rw [if_neg h]
theorem AddR_yes {ps qs : List (Nat × Nat)} {w : World} (h : partR ps = true ∧ partR qs = true) : AddR ps qs w = fun e w' => ∃ zs, zs.length = max ps.length qs.length ∧ LikeF (addAt ps qs) zs ∧ RetLC (fitC zs).1 (fitC zs).2 w e w' := by
  funext e w'; unfold AddR; rw [if_pos h]

theorem fadd_some {x y : Nat} (h : isF .f64 x = true) (g : isF .f64 y = true) : floatBits .add .f64 x y = some (cf .add .f64 x y) := by
  have : ∃ r, floatBits .add .f64 x y = some r := by
    unfold isF at h g
    unfold floatBits Ieee.Format.add
    split at h
    · rename_i e
      split at g
      · rename_i e'
        rw [e, e']
        exact ⟨_, rfl⟩
      · cases g
    · cases h
  obtain ⟨r, e⟩ := this
  simp [cf, e]
/-- The sum of two finite numbers draws nothing. -/
theorem cadd_fin (P : Program) (t : TypeId) {a b c d : Nat} (h : finC a b = true) (g : finC c d = true) (W : World) :
    (binOp .add t (.complex .f64 a b) (.complex .f64 c d)).run P W = .ok (.complex .f64 (cf .add .f64 a c) (cf .add .f64 b d)) W := by
  obtain ⟨h1, h2⟩ := finC_split h
  obtain ⟨g1, g2⟩ := finC_split g
  have e1 := run_carith (P := P) W (fadd_some h1 g1)
  have e2 := run_carith (P := P) W (fadd_some h2 g2)
  simp [binOp, Op.complexOp, e1, e2]

attribute [-go_sem] run_cadd
set_option maxRecDepth 100000 in
set_option maxHeartbeats 1600000 in
theorem sAddParts (a b : Option Addr) (ps qs : List (Nat × Nat)) (c d : Nat) (w : World) (hp : Cells w a ps) (hq : Cells w b qs) :
    Calls Try.prog 24 #[.slice a ps.length c, .slice b qs.length d] w (AddR ps qs w) := by
  have HP := Lib.hid (sPart a ps c w hp)
  have HQ := Lib.hid (fun n => sPart b qs d (w.drewN n) (hq.drewN n))
  cases ep : partR ps
  · rw [ep] at HP
    rw [AddR_no (by rw [ep]; simp)]
    clear ep hp hq HQ
    go_enter Try.func24, Try.ntmps24
    go_wp2_with fail
    refine HP.out.mono ?_
    rintro e w' ⟨n, rfl, rfl⟩
    go_wp2_with fail
    go_ret2
    exact RetLC.none _ _ _
  · rw [ep] at HP
    cases eq : partR qs
    · rw [eq] at HQ
      rw [AddR_no (by rw [eq]; simp)]
      clear ep eq hp hq
      go_enter Try.func24, Try.ntmps24
      go_wp2_with fail
      refine HP.out.mono ?_
      rintro e w' ⟨n, rfl, rfl⟩
      go_wp2_with fail
      refine (HQ.out _).mono ?_
      rintro e w' ⟨n, rfl, rfl⟩
      go_wp2_with fail
      go_ret2
      exact RetLC.none _ _ (_ + _)
    · rw [eq] at HQ
      rw [AddR_yes ⟨ep, eq⟩]
      have lp : ps.length ≤ 13 := by unfold partR at ep; simp at ep; omega
      have lq : qs.length ≤ 13 := by unfold partR at eq; simp at eq; omega
      have CP := Lib.hid hp
      have CQ := Lib.hid hq
      have FP := Lib.hid (show allF ps = true by unfold partR at ep; simp at ep; exact ep.2.1)
      have FQ := Lib.hid (show allF qs = true by unfold partR at eq; simp at eq; exact eq.2.1)
      clear ep eq hp hq
      go_enter Try.func24, Try.ntmps24
      go_wp2_with fail
      refine HP.out.mono ?_
      rintro e w' ⟨n, rfl, rfl⟩
      go_wp2_with fail
      refine (HQ.out _).mono ?_
      rintro e w' ⟨m, rfl, rfl⟩
      go_wp2_with fail
      go_loopw [6, 7] (fun v i wr => ∃ (zs : List (Nat × Nat)), zs.length ≤ max ps.length qs.length ∧ i = .int .i64 zs.length ∧ Hid (OwnC w.heap.size wr v zs ∧ Below w.heap.size w wr ∧ LikeF (addAt ps qs) zs)) (fun _ i _ => 13 - (intOf i).toNat)
      case atStart => exact ⟨[], Nat.zero_le _, rfl, OwnC.empty _ _ (by simp), (by repeat (first | exact Below.refl _ _ | assumption | refine Below.alloc ?_ (by simp <;> omega) _ | refine Below.setCell ?_ (by simp <;> omega) _ | refine below_drewN ?_ _)), LikeF.nil _⟩
      case round =>
        rename_i v _ wr
        obtain ⟨zs, hl, rfl, HI⟩ := hrel
        by_cases h1 : zs.length < ps.length
        · obtain ⟨c1, o1, ha, hw1⟩ := CP.out.2 zs.length h1
          subst ha
          have lc1 : c1 < w.heap.size := World.block_lt_of_cell? w _ hw1
          have hc1 := (HI.out.2.1.cell (p := ⟨c1, o1 + zs.length, none⟩) lc1).trans hw1
          clear hw1
          have h1I : (zs.length : Int) < (ps.length : Int) := by omega
          have h1J : ¬ ps.length ≤ zs.length := by omega
          by_cases h2 : zs.length < qs.length
          · obtain ⟨c2, o2, hb2, hw2⟩ := CQ.out.2 zs.length h2
            subst hb2
            have lc2 : c2 < w.heap.size := World.block_lt_of_cell? w _ hw2
            have hc2 := (HI.out.2.1.cell (p := ⟨c2, o2 + zs.length, none⟩) lc2).trans hw2
            clear hw2
            have h2I : (zs.length : Int) < (qs.length : Int) := by omega
            have h2J : ¬ qs.length ≤ zs.length := by omega
            have HF := Lib.hid (addAt_both h1 h2)
            have HO := Lib.hid (fun g hg => (World.ownsRow.lt HI.out.1 g hg).1)
            have HS := HI.out.2.1.size
            go_upto_region 7 with fail
            have HS := HI.out.2.1.size
            have HO := Lib.hid (fun g hg => (World.ownsRow.lt HI.out.1 g hg).1)
            have HW := Lib.hid HI.out.1
            obtain ⟨i0, hi, hz0, hz1, hz2⟩ := info_parts info24
            have hrun := cadd_fin Try.prog 25 (allF_at FP.out zs.length h1) (allF_at FQ.out zs.length h2)
            go_region_held3 (fun W => W.cell? ⟨c1, o1 + zs.length, none⟩ = some (.complex .f64 ps[zs.length].1 ps[zs.length].2) ∧ W.cell? ⟨c2, o2 + zs.length, none⟩ = some (.complex .f64 qs[zs.length].1 qs[zs.length].2))
              (first
                | go_keep
                | (go_split_ands
                   refine ⟨?_, ?_⟩
                   · (rw [hgrow.cell_far _ (by first | omega | (simp; omega)) (fun e => absurd (HO.out _ e.symm) (by first | omega | (simp; omega)))]; assumption)
                   · (rw [hgrow.cell_far _ (by first | omega | (simp; omega)) (fun e => absurd (HO.out _ e.symm) (by first | omega | (simp; omega)))]; assumption)))
              ((refine step_append_lies _ (by rfl) _ _ _ (by rfl) w.heap.size 25 i0 (.complex .f64 0 0) 1 16 Try.underlying24 hi hz0 hz1 hz2 rfl (by omega) _ zs.length (zs.map cv) (by rfl) ((World.ownsRow.drew HW.out).alloc _) ⟨wr.heap.size, 0, none⟩ 1 1 [.complex .f64 (cf .add .f64 ps[zs.length].1 qs[zs.length].1) (cf .add .f64 ps[zs.length].2 qs[zs.length].2)] (by rfl) (by rfl) (World.news_of_block (cs := #[.complex .f64 (cf .add .f64 ps[zs.length].1 qs[zs.length].1) (cf .add .f64 ps[zs.length].2 qs[zs.length].2)]) (t := 25) (fr := (0, 0)) (heap_alloc_new wr.drew _)) (by simp [Value.oneCell']) (by omega) (by unfold maxLen; omega) (by omega) (by simp; omega) (wr.heap.size + 1) (by simp) ?_; intro gg cap w4 hown hgrow hat hlt))
            have HB4 := Lib.hid (Below.grown (Below.drew (Below.alloc HI.out.2.1 HS _)) hgrow (by first | omega | (simp; omega)) (fun g hg => HO.out g hg))
            have HO4 := Lib.hid (show OwnC w.heap.size w4 (.slice (some ⟨gg, 0, none⟩) (zs.length + 1) cap) (zs ++ [(cf .add .f64 ps[zs.length].1 qs[zs.length].1, cf .add .f64 ps[zs.length].2 qs[zs.length].2)]) from by unfold OwnC; rw [List.length_append, List.map_append]; exact hown)
            clear hgrow hown hrun hi
            go_wp2_with fail
            go_roundw
            case rel => exact ⟨_, by simp; omega, by simp, HO4.out, HB4.out, HI.out.2.2.snoc (by rw [HF.out]; exact NEq.refl _ _) (by rw [HF.out]; exact NEq.refl _ _)⟩
            case measure => simp [intOf]; omega
          · have h2I : ¬ (zs.length : Int) < (qs.length : Int) := by omega
            have h2J : qs.length ≤ zs.length := by omega
            have HF := Lib.hid (addAt_left h1 h2)
            have HO := Lib.hid (fun g hg => (World.ownsRow.lt HI.out.1 g hg).1)
            have HS := HI.out.2.1.size
            go_wp2_with (at_builtin; refine wp_appC rfl _ _ rfl _ _ _ rfl w.heap.size _ zs HI.out.1 rfl rfl (by omega) (by first | exact HS | (simp; omega)) ?_; intro v' w4 hown hgrow)
            have HB4 := Lib.hid (Below.grown (Below.alloc HI.out.2.1 (by first | exact HS | (simp; omega)) _) hgrow (by simp; omega) (fun g hg => HO.out g hg))
            have HO4 := Lib.hid hown
            clear hgrow hown
            go_wp2_with fail
            go_roundw
            case rel => exact ⟨_, by simp; omega, by simp, HO4.out, HB4.out, HI.out.2.2.snoc (by rw [HF.out]; exact NEq.refl _ _) (by rw [HF.out]; exact NEq.refl _ _)⟩
            case measure => simp [intOf]; omega
        · have h1I : ¬ (zs.length : Int) < (ps.length : Int) := by omega
          have h1J : ps.length ≤ zs.length := by omega
          by_cases h2 : zs.length < qs.length
          · obtain ⟨c2, o2, hb2, hc2⟩ := (CQ.out.below (Nat.le_refl _) HI.out.2.1).2 zs.length h2
            subst hb2
            have h2I : (zs.length : Int) < (qs.length : Int) := by omega
            have h2J : ¬ qs.length ≤ zs.length := by omega
            have HF := Lib.hid (addAt_right h1 h2)
            have HO := Lib.hid (fun g hg => (World.ownsRow.lt HI.out.1 g hg).1)
            have HS := HI.out.2.1.size
            go_wp2_with (at_builtin; refine wp_appC rfl _ _ rfl _ _ _ rfl w.heap.size _ zs HI.out.1 rfl rfl (by omega) (by first | exact HS | (simp; omega)) ?_; intro v' w4 hown hgrow)
            have HB4 := Lib.hid (Below.grown (Below.alloc HI.out.2.1 (by first | exact HS | (simp; omega)) _) hgrow (by simp; omega) (fun g hg => HO.out g hg))
            have HO4 := Lib.hid hown
            clear hgrow hown
            go_wp2_with fail
            go_roundw
            case rel => exact ⟨_, by simp; omega, by simp, HO4.out, HB4.out, HI.out.2.2.snoc (by rw [HF.out]; exact NEq.refl _ _) (by rw [HF.out]; exact NEq.refl _ _)⟩
            case measure => simp [intOf]; omega
          · have h2I : ¬ (zs.length : Int) < (qs.length : Int) := by omega
            have hmax : zs.length = max ps.length qs.length := by omega
            have HM := Lib.hid hmax
            obtain ⟨a', c', hv, hc', hc2', hcell⟩ := HI.out.1.parts
            subst hv
            have HF := Lib.hid (sFitC a' zs c' wr hcell hc' hc2' (by omega))
            clear hcell hmax
            go_wp2_with fail
            refine HF.out.mono ?_
            rintro e w' ⟨v, rfl, ho, hb⟩
            have HO := Lib.hid (OwnC.lower ho HI.out.2.1.size)
            have HB := Lib.hid (Below.trans HI.out.2.1 (hb.mono HI.out.2.1.size))
            clear ho hb
            go_wp2_with fail
            go_ret2
            exact ⟨zs, HM.out, HI.out.2.2, _, rfl, HO.out, HB.out⟩
end Go.Proofs.Ytabpgkkickdopaa
