/-
  Contracts: products of lists of complex numbers by the program. Conditions: the lists' cells can be read. Contracts: products of lists of complex numbers as the document tells them. Conditions: the lists' cells can be read.
-/
import Derived.Test.YtabpgkkickdopaaCh
import Derived.Deep.RegionHeld3
import Derived.Deep.RegionWith
namespace Go.Proofs.Ytabpgkkickdopaa
set_option linter.unusedVariables false
open Go Go.RowKit

theorem mk_row (n : Nat) (h : 16 * n ≤ 281474976710656) : ∀ w, (Instr.makeSlice 62 (.int .i64 (n : Int)) (.int .i64 (n : Int))).run Try.prog w = .ok (.slice (some ⟨w.heap.size, 0, none⟩) n n) (w.alloc (.cells (madeCells #[.complex .f64 0 0] n) 25)) := fun w =>
  run_make_row' 62 25 (.complex .f64 0 0) 16 Try.underlying62 info24 rfl .i64 .i64 n h (by omega) w

set_option maxHeartbeats 400000 in
theorem iProdOf (a b c d : Nat) (w : World) : Calls Try.prog 48 #[.complex .f64 a b, .complex .f64 c d] w (RetC (mRe a b c d) (mIm a b c d) w) := by
  have H := Lib.hid (productWide_any a b c d w)
  go_enter Try.func48, Try.ntmps48
  go_wp2_with fail
  refine H.out.mono ?_
  rintro e w' ⟨r1, r2, n, rfl, h1, h2, rfl⟩
  have H1 := Lib.hid h1
  have H2 := Lib.hid h2
  clear h1 h2
  go_wp2_with fail
  go_ret
  exact ⟨_, _, _, rfl, H1.out, H2.out, rfl⟩

/-- The coefficient at j of a product, as far as the rows below i go. -/
def accT (ps qs : List (Nat × Nat)) : Nat → Nat → Nat × Nat
  | 0, _ => (0, 0)
  | i + 1, j => if h : i < ps.length ∧ i ≤ j ∧ j - i < qs.length then addF (accT ps qs i j).1 (accT ps qs i j).2 (mulF ps[i].1 ps[i].2 (qs[j - i]'h.2.2).1 (qs[j - i]'h.2.2).2).1 (mulF ps[i].1 ps[i].2 (qs[j - i]'h.2.2).1 (qs[j - i]'h.2.2).2).2 else accT ps qs i j
theorem accT_yes {ps qs : List (Nat × Nat)} {i k : Nat} (h : i < ps.length) (h' : k < qs.length) : accT ps qs (i + 1) (i + k) = addF (accT ps qs i (i + k)).1 (accT ps qs i (i + k)).2 (mulF ps[i].1 ps[i].2 qs[k].1 qs[k].2).1 (mulF ps[i].1 ps[i].2 qs[k].1 qs[k].2).2 := by
  rw [accT, dif_pos ⟨h, by omega, by omega⟩]
  simp only [Nat.add_sub_cancel_left]
theorem accT_no {ps qs : List (Nat × Nat)} {i j : Nat} (h : ¬ (i < ps.length ∧ i ≤ j ∧ j - i < qs.length)) : accT ps qs (i + 1) j = accT ps qs i j := by
  rw [accT, dif_neg h]
/-- The same, and the first k of the row i. -/
def rowT (ps qs : List (Nat × Nat)) (i k j : Nat) : Nat × Nat := if i ≤ j ∧ j - i < k then accT ps qs (i + 1) j else accT ps qs i j
theorem rowT_zero (ps qs : List (Nat × Nat)) (i n : Nat) : tabC n (rowT ps qs i 0) = tabC n (accT ps qs i) := tabC_congr fun j _ => by unfold rowT; rw [if_neg (by omega)]
theorem rowT_all (ps qs : List (Nat × Nat)) (i n : Nat) : tabC n (rowT ps qs i qs.length) = tabC n (accT ps qs (i + 1)) := tabC_congr fun j _ => by
  unfold rowT
  by_cases h : i ≤ j ∧ j - i < qs.length
  · rw [if_pos h]
  · rw [if_neg h, accT_no (by omega)]
theorem rowT_at (ps qs : List (Nat × Nat)) (i k : Nat) : rowT ps qs i k (i + k) = accT ps qs i (i + k) := by unfold rowT; rw [if_neg (by omega)]
theorem rowT_step (ps qs : List (Nat × Nat)) (i k n : Nat) : (tabC n (rowT ps qs i k)).set (i + k) (accT ps qs (i + 1) (i + k)) = tabC n (rowT ps qs i (k + 1)) := by
  refine tabC_set ?_ fun j _ hne => ?_
  · unfold rowT; rw [if_pos (by omega)]
  · unfold rowT
    by_cases h : i ≤ j ∧ j - i < k
    · rw [if_pos h, if_pos (by omega)]
    · rw [if_neg h, if_neg (by omega)]
def timesL (ps qs : List (Nat × Nat)) : List (Nat × Nat) := if ps.length = 0 ∨ qs.length = 0 then [] else tabC (ps.length + qs.length - 1) (accT ps qs ps.length)
theorem accT_zeros (ps qs : List (Nat × Nat)) (n : Nat) : tabC n (accT ps qs 0) = List.replicate n (0, 0) := by
  apply List.ext_getElem
  · simp [tabC_length]
  · intro i h1 h2
    rw [tabC_at, List.getElem_replicate]; rfl

set_option maxRecDepth 100000 in
set_option maxHeartbeats 1600000 in
theorem iTimes4 (a b : Option Addr) (ps qs : List (Nat × Nat)) (c d : Nat) (w : World) (hp : Cells w a ps) (hq : Cells w b qs) (lp : ps.length ≤ 10000) (lq : qs.length ≤ 10000) :
    Calls Try.prog 66 #[.slice a ps.length c, .slice b qs.length d] w (RetLL (timesL ps qs) w) := by
  have HP := Lib.hid hp
  have HQ := Lib.hid hq
  clear hp hq
  by_cases h1 : ps.length = 0
  · have e1 : ((ps.length : Int) == 0) = true := beq_iff_eq.2 (by omega)
    rw [show timesL ps qs = [] by unfold timesL; rw [if_pos (.inl h1)]]
    clear HP HQ h1
    go_enter Try.func66, Try.ntmps66
    go_wp2_with fail
    go_ret
    exact ⟨_, [], rfl, LikeL.refl _, OwnC.empty w _ (Nat.le_refl _), (by repeat (first | exact Below.refl _ _ | assumption | refine Below.alloc ?_ (by simp <;> omega) _ | refine Below.setCell ?_ (by simp <;> omega) _ | refine below_drewN ?_ _))⟩
  have e1 : ((ps.length : Int) == 0) = false := beq_eq_false_iff_ne.2 (by omega)
  by_cases h2 : qs.length = 0
  · have e2 : ((qs.length : Int) == 0) = true := beq_iff_eq.2 (by omega)
    rw [show timesL ps qs = [] by unfold timesL; rw [if_pos (.inr h2)]]
    clear HP HQ h1 h2
    go_enter Try.func66, Try.ntmps66
    go_wp2_with fail
    go_ret
    exact ⟨_, [], rfl, LikeL.refl _, OwnC.empty w _ (Nat.le_refl _), (by repeat (first | exact Below.refl _ _ | assumption | refine Below.alloc ?_ (by simp <;> omega) _ | refine Below.setCell ?_ (by simp <;> omega) _ | refine below_drewN ?_ _))⟩
  have e2 : ((qs.length : Int) == 0) = false := beq_eq_false_iff_ne.2 (by omega)
  rw [show timesL ps qs = tabC (ps.length + qs.length - 1) (accT ps qs ps.length) by unfold timesL; rw [if_neg (by omega)]]
  obtain ⟨N, hN⟩ : ∃ N, N = ps.length + qs.length - 1 := ⟨_, rfl⟩
  rw [← hN]
  have hN1 : (ps.length : Int) + (qs.length : Int) - 1 = (N : Int) := by omega
  have hmk := mk_row N (by omega)
  have HNN := Lib.hid hN
  have H1 := Lib.hid (show 0 < ps.length ∧ 0 < qs.length by omega)
  clear hN h1 h2
  go_enter Try.func66, Try.ntmps66
  go_wp2_with fail
  clear hmk e1 e2 hN1
  go_loopw [28] (fun x wr => ∃ (i : Nat) (zs : List (Nat × Nat)), i ≤ ps.length ∧ x = .int .i64 i ∧ Hid (LikeL zs (tabC N (accT ps qs i)) ∧ OwnC w.heap.size wr (.slice (some ⟨w.heap.size, 0, none⟩) N N) zs ∧ Below w.heap.size w wr)) (fun x _ => ps.length - (intOf x).toNat)
  case atStart =>
    refine ⟨0, List.replicate N (0, 0), Nat.zero_le _, rfl, by rw [accT_zeros]; exact LikeL.refl _, OwnC.lit w _ N (by simp) _ (Nat.le_refl _) (by have := HNN.out; simp; omega) _ ?_, (by repeat (first | exact Below.refl _ _ | assumption | refine Below.alloc ?_ (by simp <;> omega) _ | refine Below.setCell ?_ (by simp <;> omega) _ | refine below_drewN ?_ _))⟩
    rw [toList_madeCells_one]; simp [cv]
  case round =>
    rename_i _ wr
    obtain ⟨i, zs, hi, rfl, HI⟩ := hrel
    by_cases h1 : i < ps.length
    · have h1I : (i : Int) < (ps.length : Int) := by omega
      obtain ⟨c1, o1, ha, hw1⟩ := HP.out.2 i h1
      subst ha
      have lc1 : c1 < w.heap.size := World.block_lt_of_cell? w _ hw1
      have hc1 := (HI.out.2.2.cell (p := ⟨c1, o1 + i, none⟩) lc1).trans hw1
      clear hw1
      go_upto_region 8 with fail
      go_loopw [35] (fun x wr => ∃ (k : Nat) (zs : List (Nat × Nat)) (W : World), W = wr ∧ k ≤ qs.length ∧ x = .int .i64 k ∧ Hid (LikeL zs (tabC N (rowT ps qs i k)) ∧ OwnC w.heap.size wr (.slice (some ⟨w.heap.size, 0, none⟩) N N) zs ∧ Below w.heap.size w wr)) (fun x _ => qs.length - (intOf x).toNat)
      case atStart => exact ⟨0, zs, _, rfl, Nat.zero_le _, rfl, by rw [rowT_zero]; exact HI.out.1, HI.out.2.1, HI.out.2.2⟩
      case round =>
        clear HI hc1
        obtain ⟨k, zs, W, hW, hk, rfl, HI⟩ := hrel
        subst hW
        by_cases h2 : k < qs.length
        · have h2I : (k : Int) < (qs.length : Int) := by omega
          obtain ⟨c2, o2, hb, hw2⟩ := HQ.out.2 k h2
          subst hb
          have lc2 : c2 < w.heap.size := World.block_lt_of_cell? w _ hw2
          have hc2 := (HI.out.2.2.cell (p := ⟨c2, o2 + k, none⟩) lc2).trans hw2
          clear hw2
          have HZL := Lib.hid (show N = zs.length by rw [HI.out.1.1, tabC_length])
          have HIK := Lib.hid (show i + k < zs.length by have := HZL.out; have := HNN.out; omega)
          have hik : (i : Int) + (k : Int) < (N : Int) := by have := HIK.out; have := HZL.out; omega
          have hwr : IntKind.i64.wrap ((i : Int) + (k : Int)) = (i : Int) + (k : Int) := by rw [IntKind.wrap_i64]; omega
          have hik0 : (0 : Int) ≤ (i : Int) + (k : Int) := by omega
          have hik1 : ((i : Int) + (k : Int)).toNat = i + k := by omega
          obtain ⟨x, hx⟩ : ∃ x, x = zs[i + k]'(HIK.out) := ⟨_, rfl⟩
          have hc3 := HI.out.2.1.cellAt HZL.out (i + k) HIK.out
          have hf3 := HI.out.2.1.frozenAt HZL.out (i + k)
          rw [← hx] at hc3
          have HX := Lib.hid hx
          clear hx
          go_upto_region 10 with fail
          have hc4 : ∀ n, (W.drewN n).cell? ⟨w.heap.size, i + k, none⟩ = some (.complex .f64 x.1 x.2) := fun n => hc3
          have hf4 : ∀ n, (W.drewN n).frozen? ⟨w.heap.size, i + k, none⟩ = false := fun n => hf3
          have hc5 : ∀ n, (W.drew.drewN n).cell? ⟨w.heap.size, i + k, none⟩ = some (.complex .f64 x.1 x.2) := fun n => hc3
          have hf5 : ∀ n, (W.drew.drewN n).frozen? ⟨w.heap.size, i + k, none⟩ = false := fun n => hf3
          have hbd := HI.out.2.2
          have HST := Lib.hid (fun (r1 r2 : Nat) (u v : Nat) (g : NZ (u, v) (addF x.1 x.2 r1 r2)) (g' : NZ (r1, r2) (mulF ps[i].1 ps[i].2 qs[k].1 qs[k].2)) => (show LikeL (zs.set (i + k) (u, v)) (tabC N (rowT ps qs i (k + 1))) from by
            have hn := HI.out.1.2 (i + k) HIK.out (by rw [tabC_length]; have := HIK.out; have := HZL.out; omega)
            rw [tabC_at, rowT_at, ← HX.out] at hn
            rw [← rowT_step, accT_yes h1 h2]
            exact HI.out.1.set _ (g.trans (NZ.add hn g'))))
          go_region_with ((go_at_call 48; refine (iProdOf _ _ _ _ _).mono ?_; rintro e w' ⟨r1, r2, n, rfl, g1, g2, rfl⟩))
          all_goals
            have G := Lib.hid (And.intro g1 g2)
            clear g1 g2
            go_wp2_with fail
            go_roundw
            case rel => exact ⟨k + 1, zs.set (i + k) (_, _), _, rfl, by omega, by go_num, HST.out r1 r2 _ _ (cadd_spec _ _ .add (.inl rfl) _ .f64 _ _ _ _).2 G.out, (HI.out.2.1.drewN _).stored HZL.out (i + k) _ _, (below_drewN HI.out.2.2 _).setCell (Nat.le_refl _) _⟩
            case measure => simp [intOf]; omega
        · obtain rfl : k = qs.length := by omega
          go_wp2_with fail
          go_roundw
          case rel => exact ⟨i + 1, zs, by omega, by go_num, by rw [← rowT_all]; exact HI.out.1, HI.out.2.1, HI.out.2.2⟩
          case measure => simp [intOf]; omega
    · obtain rfl : i = ps.length := by omega
      go_wp2_with fail
      go_ret
      exact ⟨_, zs, rfl, HI.out.1, HI.out.2.1, HI.out.2.2⟩

theorem isF_add_left {x y : Nat} (h : isF .f64 (cf .add .f64 x y) = true) : isF .f64 x = true := by
  cases e : isF .f64 x
  · exfalso
    have hq : isF .f64 (qn .f64) = false := by decide +kernel
    have hi : ∀ s, isF .f64 (FloatKind.f64.format.write (.infinity s)) = false := by decide +kernel
    unfold isF at e
    unfold cf floatBits Ieee.Format.add at h
    cases e2 : FloatKind.f64.format.read x <;> rw [e2] at h e
    · simp at e
    · rename_i s
      cases e3 : FloatKind.f64.format.read y <;> rw [e3] at h
      · simp [Ieee.Datum.sum] at h
        rw [hi] at h; cases h
      · rename_i t
        cases s <;> cases t <;> simp [Ieee.Datum.sum] at h
        all_goals first | (rw [hi] at h; cases h) | (rw [hq] at h; cases h)
      · simp [Ieee.Datum.sum] at h
        rw [hq] at h; cases h
    · simp [Ieee.Datum.sum] at h
      rw [hq] at h; cases h
  · rfl
theorem addF_fin_left {a b c d : Nat} (h : finC (addF a b c d).1 (addF a b c d).2 = true) : finC a b = true := by
  obtain ⟨h1, h2⟩ := finC_split h
  unfold finC
  rw [isF_add_left h1, isF_add_left h2]; rfl
theorem accT_mono {ps qs : List (Nat × Nat)} {j : Nat} (i : Nat) : ∀ d, finC (accT ps qs (i + d) j).1 (accT ps qs (i + d) j).2 = true → finC (accT ps qs i j).1 (accT ps qs i j).2 = true
  | 0, h => h
  | d + 1, h => by
    refine accT_mono i d ?_
    rw [← Nat.add_assoc] at h
    by_cases hc : i + d < ps.length ∧ i + d ≤ j ∧ j - (i + d) < qs.length
    · rw [accT, dif_pos hc] at h
      exact addF_fin_left h
    · rwa [accT_no hc] at h
theorem accT_low {ps qs : List (Nat × Nat)} {j : Nat} : ∀ i, i + qs.length ≤ j + 1 → accT ps qs i j = (0, 0)
  | 0, _ => rfl
  | i + 1, h => by rw [accT_no (by omega)]; exact accT_low i (by omega)
theorem accT_high {ps qs : List (Nat × Nat)} {j : Nat} (i : Nat) (h : j < i) : ∀ d, accT ps qs (i + d) j = accT ps qs i j
  | 0 => rfl
  | d + 1 => by rw [← Nat.add_assoc, accT_no (by omega)]; exact accT_high i h d
theorem accT_end {ps qs : List (Nat × Nat)} {i n : Nat} (h : ¬ (i ≤ n ∧ i < ps.length)) (hi : i ≤ ps.length) : accT ps qs i n = accT ps qs ps.length n := by
  by_cases e : i = ps.length
  · rw [e]
  · obtain ⟨d, hd⟩ : ∃ d, ps.length = i + d := ⟨ps.length - i, by omega⟩
    rw [hd, accT_high i (by omega)]
theorem tabC_succ (n : Nat) (f : Nat → Nat × Nat) : tabC (n + 1) f = tabC n f ++ [f n] := by unfold tabC; rw [List.range_succ, List.map_append]; rfl
/-- The call returns a list that it made, and a truth value. -/
def RetLB (zs : List (Nat × Nat)) (b : Bool) (w : World) (e : Ending) (w' : World) : Prop := ∃ v, e = .returned (.tuple #[v, .bool b]) ∧ OwnC w.heap.size w' v zs ∧ Below w.heap.size w w'
def finL (zs : List (Nat × Nat)) : List (Nat × Nat) × Bool := if allF zs = true then (zs, true) else ([], false)
theorem finL_yes {zs : List (Nat × Nat)} (h : allF zs = true) : finL zs = (zs, true) := if_pos h
theorem finL_no {zs : List (Nat × Nat)} (h : allF zs = false) : finL zs = ([], false) := if_neg (by rw [h]; simp)
theorem timesL_no {ps qs : List (Nat × Nat)} {i n : Nat} (h1 : 0 < ps.length ∧ 0 < qs.length) (hn : n + 1 < ps.length + qs.length) (hi : i ≤ ps.length) (h : finC (accT ps qs i n).1 (accT ps qs i n).2 = false) : finL (timesL ps qs) = ([], false) := by
  refine finL_no ?_
  unfold timesL
  rw [if_neg (by omega)]
  cases e : allF (tabC (ps.length + qs.length - 1) (accT ps qs ps.length))
  · rfl
  · have := allF_at e n (by rw [tabC_length]; omega)
    rw [tabC_at] at this
    obtain ⟨d, hd⟩ : ∃ d, ps.length = i + d := ⟨ps.length - i, by omega⟩
    rw [hd] at this
    rw [accT_mono i d this] at h
    cases h
theorem accT_next {ps qs : List (Nat × Nat)} {i n : Nat} (h : i < ps.length) (h' : n - i < qs.length) (hn : i ≤ n) : accT ps qs (i + 1) n = addF (accT ps qs i n).1 (accT ps qs i n).2 (mulF ps[i].1 ps[i].2 qs[n - i].1 qs[n - i].2).1 (mulF ps[i].1 ps[i].2 qs[n - i].1 qs[n - i].2).2 := by
  have := accT_yes (ps := ps) (qs := qs) h h'
  rwa [show i + (n - i) = n by omega] at this

theorem allF_snoc {zs : List (Nat × Nat)} {z : Nat × Nat} (h : allF zs = true) (g : finC z.1 z.2 = true) : allF (zs ++ [z]) = true := by
  unfold allF at h ⊢
  rw [List.all_append, h]
  simp [g]

set_option maxRecDepth 100000 in
set_option maxHeartbeats 1600000 in
theorem sTimes0 (a b : Option Addr) (ps qs : List (Nat × Nat)) (c d : Nat) (w : World) (lp : ps.length ≤ 10000) (lq : qs.length ≤ 10000) (h : ps.length = 0 ∨ qs.length = 0) :
    Calls Try.prog 58 #[.slice a ps.length c, .slice b qs.length d] w (RetLB (finL (timesL ps qs)).1 (finL (timesL ps qs)).2 w) := by
  rw [show timesL ps qs = [] by unfold timesL; rw [if_pos h]]
  rw [finL_yes (by rfl)]
  rcases h with h | h
  · by_cases h2 : qs.length = 0
    · rw [h, h2]
      clear h h2 lp lq
      go_enter Try.func58, Try.ntmps58
      go_wp2_with fail
      go_loopw [6, 7] (fun v x wr => x = .int .i64 0 ∧ Hid (OwnC w.heap.size wr v [] ∧ Below w.heap.size w wr)) (fun _ _ _ => 0)
      case atStart => exact ⟨rfl, OwnC.empty _ _ (Nat.le_refl _), (by repeat (first | exact Below.refl _ _ | assumption | refine Below.alloc ?_ (by simp <;> omega) _ | refine Below.setCell ?_ (by simp <;> omega) _ | refine below_drewN ?_ _))⟩
      case round =>
        obtain ⟨rfl, HI⟩ := hrel
        go_wp2_with fail
        go_ret2
        exact ⟨_, rfl, HI.out.1, HI.out.2⟩
    · have e1 : ((0 : Int) + 1 < (qs.length : Int)) ∨ ¬ ((0 : Int) + 1 < (qs.length : Int)) := by omega
      rw [h]
      clear h h2 lp
      rcases e1 with e1 | e1
      all_goals
        have e1' := e1
        go_enter Try.func58, Try.ntmps58
        go_wp2_with fail
        go_loopw [6, 7] (fun v x wr => x = .int .i64 0 ∧ Hid (OwnC w.heap.size wr v [] ∧ Below w.heap.size w wr)) (fun _ _ _ => 0)
        case atStart => exact ⟨rfl, OwnC.empty _ _ (Nat.le_refl _), (by repeat (first | exact Below.refl _ _ | assumption | refine Below.alloc ?_ (by simp <;> omega) _ | refine Below.setCell ?_ (by simp <;> omega) _ | refine below_drewN ?_ _))⟩
        case round =>
          obtain ⟨rfl, HI⟩ := hrel
          go_wp2_with fail
          go_ret2
          exact ⟨_, rfl, HI.out.1, HI.out.2⟩
  · have e1 : ((0 : Int) + 1 < (ps.length : Int)) ∨ ¬ ((0 : Int) + 1 < (ps.length : Int)) := by omega
    have e2 : (0 < (ps.length : Int)) ∨ ¬ (0 < (ps.length : Int)) := by omega
    rw [h]
    clear h lq
    rcases e1 with e1 | e1 <;> rcases e2 with e2 | e2
    all_goals (try (exfalso; omega))
    all_goals
      have e1' := e1
      go_enter Try.func58, Try.ntmps58
      go_wp2_with fail
      go_loopw [6, 7] (fun v x wr => x = .int .i64 0 ∧ Hid (OwnC w.heap.size wr v [] ∧ Below w.heap.size w wr)) (fun _ _ _ => 0)
      case atStart => exact ⟨rfl, OwnC.empty _ _ (Nat.le_refl _), (by repeat (first | exact Below.refl _ _ | assumption | refine Below.alloc ?_ (by simp <;> omega) _ | refine Below.setCell ?_ (by simp <;> omega) _ | refine below_drewN ?_ _))⟩
      case round =>
        obtain ⟨rfl, HI⟩ := hrel
        go_wp2_with fail
        go_ret2
        exact ⟨_, rfl, HI.out.1, HI.out.2⟩

set_option maxRecDepth 100000 in
set_option maxHeartbeats 1600000 in
theorem sTimes1 (a b : Option Addr) (ps qs : List (Nat × Nat)) (c d : Nat) (w : World) (hp : Cells w a ps) (hq : Cells w b qs) (lp : ps.length ≤ 10000) (lq : qs.length ≤ 10000) (h0 : 0 < ps.length ∧ 0 < qs.length) :
    Calls Try.prog 58 #[.slice a ps.length c, .slice b qs.length d] w (RetLB (finL (timesL ps qs)).1 (finL (timesL ps qs)).2 w) := by
  have HP := Lib.hid hp
  have HQ := Lib.hid hq
  have H0 := Lib.hid h0
  have hpn : 0 < ps.length := h0.1
  have hqn : 0 < qs.length := h0.2
  clear hp hq h0
  go_enter Try.func58, Try.ntmps58
  go_wp2_with fail
  go_loopw [6, 7] (fun v x wr => ∃ (n : Nat) (W : World), W = wr ∧ n < ps.length + qs.length ∧ x = .int .i64 n ∧ Hid (OwnC w.heap.size W v (tabC n (accT ps qs ps.length)) ∧ allF (tabC n (accT ps qs ps.length)) = true ∧ Below w.heap.size w W)) (fun _ x _ => 20000 - (intOf x).toNat)
  case atStart => exact ⟨0, _, rfl, by have := H0.out; omega, rfl, OwnC.empty _ _ (by simp), rfl, (by repeat (first | exact Below.refl _ _ | assumption | refine Below.alloc ?_ (by simp <;> omega) _ | refine Below.setCell ?_ (by simp <;> omega) _ | refine below_drewN ?_ _))⟩
  case round =>
    obtain ⟨n, W, hW, hn, rfl, HI⟩ := hrel
    subst hW
    by_cases h1 : n + 1 < ps.length + qs.length
    · have h1I : (n : Int) + 1 < (ps.length : Int) + (qs.length : Int) := by omega
      obtain ⟨lo, hlo⟩ : ∃ lo : Nat, lo = n + 1 - qs.length := ⟨_, rfl⟩
      have hmx : max (0 : Int) ((n : Int) - (qs.length : Int) + 1) = (lo : Int) := by omega
      have HLO := Lib.hid hlo
      have hnb : n ≤ 20000 := by omega
      clear hlo
      go_upto_region 7 with fail
      clear hmx h1I
      go_loopw [8, 9] (fun s x wr => ∃ (i k : Nat) (V : World), V = wr ∧ V = W.drewN k ∧ lo ≤ i ∧ i ≤ ps.length ∧ i ≤ n + 1 ∧ x = .int .i64 i ∧ s = .complex .f64 (accT ps qs i n).1 (accT ps qs i n).2 ∧ Hid (finC (accT ps qs i n).1 (accT ps qs i n).2 = true)) (fun _ x _ => ps.length - (intOf x).toNat)
      case atStart => exact ⟨lo, 0, _, rfl, rfl, Nat.le_refl _, by have := HLO.out; have := H0.out; omega, by have := HLO.out; omega, rfl, by rw [show accT ps qs lo n = (0, 0) by (rcases Nat.eq_zero_or_pos lo with h | h; (rw [h]; rfl); exact accT_low lo (by have := HLO.out; omega))], Lib.hid (by rw [show accT ps qs lo n = (0, 0) by (rcases Nat.eq_zero_or_pos lo with h | h; (rw [h]; rfl); exact accT_low lo (by have := HLO.out; omega))]; decide +kernel)⟩
      case round =>
        obtain ⟨i, k, V, hV, hk, hi1, hi2, hi3, rfl, rfl, hfi⟩ := hrel
        subst hV
        subst hk
        by_cases h2 : i ≤ n
        · have h2I : (i : Int) ≤ (n : Int) := by omega
          by_cases h3 : i < ps.length
          · have h3I : (i : Int) < (ps.length : Int) := by omega
            have h4 : n - i < qs.length := by have := HLO.out; omega
            obtain ⟨c1, o1, ha, hw1⟩ := HP.out.2 i h3
            subst ha
            have lc1 : c1 < w.heap.size := World.block_lt_of_cell? w _ hw1
            have hc1 : ∀ m, (W.drewN m).cell? ⟨c1, o1 + i, none⟩ = _ := fun m => (HI.out.2.2.cell (p := ⟨c1, o1 + i, none⟩) lc1).trans hw1
            clear hw1
            obtain ⟨c2, o2, hb, hw2⟩ := HQ.out.2 (n - i) h4
            subst hb
            have lc2 : c2 < w.heap.size := World.block_lt_of_cell? w _ hw2
            have hc2 : ∀ m, (W.drewN m).cell? ⟨c2, o2 + (n - i), none⟩ = _ := fun m => (HI.out.2.2.cell (p := ⟨c2, o2 + (n - i), none⟩) lc2).trans hw2
            clear hw2
            have hs1 : (0 : Int) ≤ (n : Int) - (i : Int) := by omega
            have hs2 : (n : Int) - (i : Int) < (qs.length : Int) := by omega
            have hs3 : ((n : Int) - (i : Int)).toNat = n - i := by omega
            have hs4 : IntKind.i64.wrap ((n : Int) - (i : Int)) = (n : Int) - (i : Int) := by rw [IntKind.wrap_i64]; omega
            obtain ⟨A, hA⟩ : ∃ A, A = accT ps qs i n := ⟨_, rfl⟩
            obtain ⟨A', hA'⟩ : ∃ A', A' = accT ps qs (i + 1) n := ⟨_, rfl⟩
            obtain ⟨x, hx⟩ : ∃ x, x = ps[i] := ⟨_, rfl⟩
            obtain ⟨y, hy⟩ : ∃ y, y = qs[n - i] := ⟨_, rfl⟩
            rw [← hx] at hc1
            rw [← hy] at hc2
            rw [← hA]
            have hAn : A' = addF A.1 A.2 (mulF x.1 x.2 y.1 y.2).1 (mulF x.1 x.2 y.1 y.2).2 := by rw [hA', hA, hx, hy]; exact accT_next h3 h4 h2
            have HAN := Lib.hid hAn
            have HA' := Lib.hid hA'
            clear hx hy hA hAn hA'
            cases hq : finC A'.1 A'.2
            · have CF := Lib.hid (fun (r1 r2 : Nat) (g1 : NEq .f64 r1 (mRe x.1 x.2 y.1 y.2)) (g2 : NEq .f64 r2 (mIm x.1 x.2 y.1 y.2)) => caddN Try.prog 25 A.1 A.2 r1 r2 (by
                rw [← hq, HAN.out]
                exact (NZ.add (a := A) (b := A) (c := (r1, r2)) (NZ.refl _) ⟨g1, g2⟩).fin))
              have HNO := Lib.hid (timesL_no (i := i + 1) H0.out h1 (by omega) (show finC (accT ps qs (i + 1) n).1 (accT ps qs (i + 1) n).2 = false by rw [← HA'.out]; exact hq))
              clear hq
              go_upto_region 9 with fail
              go_region_with ((go_at_call 90; refine (times_any _ _ _ _ _).mono ?_; rintro e w' ⟨r1, r2, m, rfl, g1, g2, rfl⟩; have e1 := CF.out r1 r2 g1 g2))
              all_goals
                clear g1 g2
                go_wp2_with (go_at_call 51; refine (sFin _ _ _).mono ?_; rintro e w' ⟨_, rfl, rfl⟩)
                go_ret2
                rw [HNO.out]
                exact ⟨_, rfl, OwnC.none _ _, by repeat (first | exact HI.out.2.2 | refine below_drewN ?_ _)⟩
            · have CF := Lib.hid (fun (r1 r2 : Nat) (g1 : NEq .f64 r1 (mRe x.1 x.2 y.1 y.2)) (g2 : NEq .f64 r2 (mIm x.1 x.2 y.1 y.2)) => (show (∀ W, (cadd Try.prog W .add 25 .f64 A.1 A.2 r1 r2).1 = A'.1) ∧ ∀ W, (cadd Try.prog W .add 25 .f64 A.1 A.2 r1 r2).2.1 = A'.2 from by
                have k1 : cf .add .f64 A.1 r1 = A'.1 := by rw [HAN.out]; exact cf_congr (NEq.refl _ _) g1
                have k2 : cf .add .f64 A.2 r2 = A'.2 := by rw [HAN.out]; exact cf_congr (NEq.refl _ _) g2
                have := caddF Try.prog 25 A.1 A.2 r1 r2 (by rw [k1, k2]; exact hq)
                rwa [k1, k2] at this))
              have HQQ := Lib.hid hq
              go_upto_region 9 with fail
              go_region_with ((go_at_call 90; refine (times_any _ _ _ _ _).mono ?_; rintro e w' ⟨r1, r2, m, rfl, g1, g2, rfl⟩; obtain ⟨e1, e2⟩ := CF.out r1 r2 g1 g2))
              all_goals
                clear g1 g2
                go_wp2_with (go_at_call 51; refine (sFin _ _ _).mono ?_; rintro e w' ⟨_, rfl, rfl⟩)
                go_roundw
                case rel => exact ⟨i + 1, _, _, rfl, rfl, by omega, by omega, by omega, by go_num, by rw [← HA'.out], Lib.hid (by rw [← HA'.out]; exact HQQ.out)⟩
                case measure => simp [intOf]; omega
          · have h3I : ¬ (i : Int) < (ps.length : Int) := by omega
            have HEND := Lib.hid (accT_end (ps := ps) (qs := qs) (i := i) (n := n) (by omega) hi2)
            have HO := Lib.hid (fun g hg => (World.ownsRow.lt HI.out.1 g hg).1)
            have HS := HI.out.2.2.size
            go_wp2_with (at_builtin; refine wp_appC rfl _ _ rfl _ _ _ rfl w.heap.size _ (tabC n (accT ps qs ps.length)) (HI.out.1.drewN _) rfl rfl (by rw [tabC_length]; omega) (by first | exact HS | (simp; omega)) ?_; intro v' w4 hown hgrow)
            have HB4 := Lib.hid (Below.grown (Below.alloc (below_drewN HI.out.2.2 _) (by first | exact HS | (simp; omega)) _) hgrow (by simp; omega) (fun g hg => HO.out g hg))
            have HO4 := Lib.hid hown
            clear hgrow hown
            go_wp2_with fail
            go_roundw
            case rel =>
              refine ⟨n + 1, _, rfl, by omega, by go_num, ?_, ?_, HB4.out⟩
              · rw [tabC_succ, ← HEND.out]; exact HO4.out
              · rw [tabC_succ, ← HEND.out]; exact allF_snoc HI.out.2.1 hfi.out
            case measure => simp [intOf]; omega
        · have h2I : ¬ (i : Int) ≤ (n : Int) := by omega
          have HEND := Lib.hid (accT_end (ps := ps) (qs := qs) (i := i) (n := n) (by omega) hi2)
          have HO := Lib.hid (fun g hg => (World.ownsRow.lt HI.out.1 g hg).1)
          have HS := HI.out.2.2.size
          go_wp2_with (at_builtin; refine wp_appC rfl _ _ rfl _ _ _ rfl w.heap.size _ (tabC n (accT ps qs ps.length)) (HI.out.1.drewN _) rfl rfl (by rw [tabC_length]; omega) (by first | exact HS | (simp; omega)) ?_; intro v' w4 hown hgrow)
          have HB4 := Lib.hid (Below.grown (Below.alloc (below_drewN HI.out.2.2 _) (by first | exact HS | (simp; omega)) _) hgrow (by simp; omega) (fun g hg => HO.out g hg))
          have HO4 := Lib.hid hown
          clear hgrow hown
          go_wp2_with fail
          go_roundw
          case rel =>
            refine ⟨n + 1, _, rfl, by omega, by go_num, ?_, ?_, HB4.out⟩
            · rw [tabC_succ, ← HEND.out]; exact HO4.out
            · rw [tabC_succ, ← HEND.out]; exact allF_snoc HI.out.2.1 hfi.out
          case measure => simp [intOf]; omega
    · have h1I : ¬ (n : Int) + 1 < (ps.length : Int) + (qs.length : Int) := by omega
      have hnN : n = ps.length + qs.length - 1 := by omega
      have HEQ := Lib.hid (show finL (timesL ps qs) = (tabC n (accT ps qs ps.length), true) from by
        have : timesL ps qs = tabC n (accT ps qs ps.length) := by unfold timesL; rw [if_neg (by have := H0.out; omega), ← hnN]
        rw [this]; exact finL_yes HI.out.2.1)
      clear hnN
      go_wp2_with fail
      go_ret2
      rw [HEQ.out]
      exact ⟨_, rfl, HI.out.1, HI.out.2.2⟩
end Go.Proofs.Ytabpgkkickdopaa
