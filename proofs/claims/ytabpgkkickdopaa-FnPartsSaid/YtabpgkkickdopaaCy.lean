/-
  What the law FnParts draws. No conditions. What the law FnParts asks of lists: comparing, and facts on products, sums, monic lists and polynomials with some roots. Conditions: the lists' cells can be read.
-/
import Derived.Test.YtabpgkkickdopaaCw
namespace Go.Proofs.Ytabpgkkickdopaa
set_option linter.unusedVariables false
open Go Go.RowKit

theorem Cells.stay {B : Nat} {a : Option Addr} {len cap b : Nat} {W W' : World} {x : Option Addr} {zs : List (Nat × Nat)} {lo : Nat} (h : Cells W x zs) (hx : ∀ ad, x = some ad → lo ≤ ad.block) (hb : b < lo) (g : Stay B a len cap b W W') : Cells W' x zs := by
  refine ⟨h.1, fun i hi => ?_⟩
  obtain ⟨c, o, ha, hc⟩ := h.2 i hi
  refine ⟨c, o, ha, ?_⟩
  have h1 := hx _ ha
  have h2 : c < W.heap.size := World.block_lt_of_cell? W _ hc
  rw [g.cell (p := ⟨c, o + i, Option.none⟩) h2 (by show c ≠ b; simp at h1; omega)]
  exact hc
def Got1 (hi : Nat) (w : World) (e : Ending) (w' : World) : Prop := ∃ x zs c, e = .returned (.slice x zs.length c) ∧ zs.length ≤ hi ∧ zs.length ≤ c ∧ c ≤ 9223372036854775807 ∧ Cells w' x zs ∧ Below w.heap.size w w'
def Got2 (hi : Nat) (w : World) (e : Ending) (w' : World) : Prop := ∃ x zs c y ys d, e = .returned (.tuple #[.slice x zs.length c, .slice y ys.length d]) ∧ zs.length ≤ hi ∧ ys.length ≤ hi ∧ Cells w' x zs ∧ Cells w' y ys ∧ Below w.heap.size w w'
def GotK (hi : Nat) (w : World) (e : Ending) (w' : World) : Prop := ∃ x zs c k, e = .returned (.tuple #[.slice x zs.length c, .int .i64 k]) ∧ zs.length ≤ hi ∧ (-61 ≤ k ∧ k ≤ 61) ∧ Cells w' x zs ∧ Below w.heap.size w w'
theorem below_stay {B : Nat} {a : Option Addr} {len cap b : Nat} {w w1 W : World} (h : Below w.heap.size w w1) (hB : B = w.heap.size) (g : Stay B a len cap b w1 W) : Below w.heap.size w W := h.trans (by have := g.below (by rw [hB]; exact h.size); rw [hB] at this; exact this)

set_option maxRecDepth 100000 in
set_option maxHeartbeats 1600000 in
theorem drawMon (a : Option Addr) (len cap : Nat) (w : World) (hlen : len ≤ 9223372036854775807) (hcode : Code8 w.heap.size a len w) :
    Calls Try.prog 25 #[.slice a len cap] w (Got1 26 w) := by
  have HC := Lib.hid hcode
  have HL := Lib.hid hlen
  clear hcode hlen
  go_enter Try.func25, Try.ntmps25
  go_wp2_with fail
  refine (from_any a len cap w HL.out HC.out).mono ?_
  rintro e w1 ⟨b, rfl, hbel, hsrc⟩
  have BE := Lib.hid hbel
  clear hbel
  have hb1 := hsrc.hi
  go_wp2_with fail
  refine (spoil4 _ a len cap b w1 hsrc).mono ?_
  rintro e w2 ⟨v, zs, rfl, hl1, hl2, L⟩
  obtain ⟨x, c, hv, hc, hc2, hcells⟩ := L.own.parts
  subst hv
  have HR := Lib.hid (show Cells w2 x zs ∧ Below w.heap.size w w2 from ⟨hcells, below_stay BE.out rfl L.st⟩)
  clear hcells L
  go_wp2_with fail
  go_ret
  exact ⟨x, zs, c, rfl, hl2, hc, hc2, HR.out.1, HR.out.2⟩

set_option maxRecDepth 100000 in
set_option maxHeartbeats 1600000 in
theorem drawDer (a : Option Addr) (len cap : Nat) (w : World) (hlen : len ≤ 9223372036854775807) (hcode : Code8 w.heap.size a len w) :
    Calls Try.prog 28 #[.slice a len cap] w (Got1 26 w) := by
  have HC := Lib.hid hcode
  have HL := Lib.hid hlen
  clear hcode hlen
  go_enter Try.func28, Try.ntmps28
  go_wp2_with fail
  refine (from_any a len cap w HL.out HC.out).mono ?_
  rintro e w1 ⟨b, rfl, hbel, hsrc⟩
  have BE := Lib.hid hbel
  clear hbel
  have hb1 := hsrc.hi
  go_wp2_with fail
  refine (spoil4 _ a len cap b w1 hsrc).mono ?_
  rintro e w2 ⟨v, zs, rfl, hl1, hl2, L⟩
  obtain ⟨x, c, hv, hc, hc2, hcells⟩ := L.own.parts
  subst hv
  have HR := Lib.hid (show Cells w2 x zs ∧ Below w.heap.size w w2 from ⟨hcells, below_stay BE.out rfl L.st⟩)
  clear hcells L
  go_wp2_with fail
  go_ret
  exact ⟨x, zs, c, rfl, hl2, hc, hc2, HR.out.1, HR.out.2⟩

set_option maxRecDepth 100000 in
set_option maxHeartbeats 1600000 in
theorem drawMul (a : Option Addr) (len cap : Nat) (w : World) (hlen : len ≤ 9223372036854775807) (hcode : Code8 w.heap.size a len w) :
    Calls Try.prog 20 #[.slice a len cap] w (Got2 26 w) := by
  have HC := Lib.hid hcode
  have HL := Lib.hid hlen
  clear hcode hlen
  go_enter Try.func20, Try.ntmps20
  go_wp2_with fail
  refine (from_any a len cap w HL.out HC.out).mono ?_
  rintro e w1 ⟨b, rfl, hbel, hsrc⟩
  have BE := Lib.hid hbel
  clear hbel
  have hb1 := hsrc.hi
  go_wp2_with fail
  refine (part4 _ a len cap b w1 hsrc).mono ?_
  rintro e w2 ⟨x, zs, c, rfl, hl1, hc1, hc2, hcells, hx, ST⟩
  go_wp2_with fail
  refine (part4 _ a len cap b w2 ST.src).mono ?_
  rintro e w3 ⟨y, ys, d, rfl, hl2, hd1, hd2, hcells2, hy, ST2⟩
  have HR := Lib.hid (show Cells w3 x zs ∧ Cells w3 y ys ∧ Below w.heap.size w w3 from ⟨hcells.stay hx hb1 ST2, hcells2, below_stay BE.out rfl (ST.trans ST2)⟩)
  clear hcells hcells2 hx hy ST ST2
  go_wp2_with fail
  go_ret2
  exact ⟨x, zs, c, y, ys, d, rfl, hl1, hl2, HR.out.1, HR.out.2.1, HR.out.2.2⟩

set_option maxRecDepth 100000 in
set_option maxHeartbeats 1600000 in
theorem drawSclP (a : Option Addr) (len cap : Nat) (w : World) (hlen : len ≤ 9223372036854775807) (hcode : Code8 w.heap.size a len w) :
    Calls Try.prog 31 #[.slice a len cap] w (GotK 26 w) := by
  have HC := Lib.hid hcode
  have HL := Lib.hid hlen
  clear hcode hlen
  go_enter Try.func31, Try.ntmps31
  go_wp2_with fail
  refine (from_any a len cap w HL.out HC.out).mono ?_
  rintro e w1 ⟨b, rfl, hbel, hsrc⟩
  have BE := Lib.hid hbel
  clear hbel
  have hb1 := hsrc.hi
  go_wp2_with fail
  refine (spoil4 _ a len cap b w1 hsrc).mono ?_
  rintro e w2 ⟨v, zs, rfl, hl1, hl2, L⟩
  obtain ⟨x, c, hv, hc, hc2, hcells⟩ := L.own.parts
  subst hv
  clear hcells
  go_wp2_with fail
  refine (next_ls (by with_reducible (first | exact L | exact L.drewN _ | exact L.alloc' _ | exact (L.alloc' _).drewN _ | exact (L.drewN _).alloc' _)) 9 (by omega) (by omega)).mono ?_
  rintro e w3 ⟨v1, hv1, rfl, L⟩
  go_wp2_with fail
  refine (next_ls (by with_reducible (first | exact L | exact L.drewN _ | exact L.alloc' _ | exact (L.alloc' _).drewN _ | exact (L.drewN _).alloc' _)) 121 (by omega) (by omega)).mono ?_
  rintro e w4 ⟨v2, hv2, rfl, L⟩
  go_wp2_with fail
  refine (pick_ls (by with_reducible (first | exact L | exact L.drewN _ | exact L.alloc' _ | exact (L.alloc' _).drewN _ | exact (L.drewN _).alloc' _)) [(v1 : Int) - 4, (v2 : Int) - 60, 60, 61, -61] _ 5 rfl (by decide) (by decide) (fun x => -61 ≤ x ∧ x ≤ 61) (by intro x hx; simp at hx; omega) _ rfl).mono ?_
  rintro e w5 ⟨k, hk, rfl, L⟩
  obtain ⟨q, cq, hq, hcells⟩ := L.own.cells
  injection hq with hq1 hq2 hq3
  subst hq1 hq3
  have HR := Lib.hid (show Cells w5 x zs ∧ Below w.heap.size w w5 from ⟨hcells, below_stay BE.out rfl L.st⟩)
  clear hcells L
  go_wp2_with fail
  go_ret2
  exact ⟨x, zs, c, k, rfl, hl2, hk, HR.out.1, HR.out.2⟩

set_option maxRecDepth 100000 in
set_option maxHeartbeats 1600000 in
theorem drawAddP (a : Option Addr) (len cap : Nat) (w : World) (hlen : len ≤ 9223372036854775807) (hcode : Code8 w.heap.size a len w) :
    Calls Try.prog 22 #[.slice a len cap] w (Got2 26 w) := by
  have HC := Lib.hid hcode
  have HL := Lib.hid hlen
  clear hcode hlen
  go_enter Try.func22, Try.ntmps22
  go_wp2_with fail
  refine (from_any a len cap w HL.out HC.out).mono ?_
  rintro e w1 ⟨b, rfl, hbel, hsrc⟩
  have BE := Lib.hid hbel
  clear hbel
  have hb1 := hsrc.hi
  go_wp2_with fail
  refine (part4 _ a len cap b w1 hsrc).mono ?_
  rintro e w2 ⟨x, zs, c, rfl, hl1, hc1, hc2, hcells, hx, ST⟩
  go_wp2_with fail
  refine (part4 _ a len cap b w2 ST.src).mono ?_
  rintro e w3 ⟨y, ys, d, rfl, hl2, hd1, hd2, hcells2, hy, ST2⟩
  have hcells := hcells.stay hx hb1 ST2
  have ST3 := ST.trans ST2
  go_wp2_with fail
  refine (next_from (w := w3) (Stay.refl ST3.src) 6 (by omega) (by omega)).mono ?_
  rintro e w4 ⟨v4, hv4, rfl, ST4⟩
  have S4 := ST3.trans ST4
  have hcells := hcells.stay hx hb1 ST4
  have hcells2 := hcells2.stay hy (by have := ST.size; omega) ST4
  by_cases k0 : (v4 : Int) = 0
  · have kb : ((v4 : Int) == 0) = true := beq_iff_eq.2 k0
    clear hv4 k0 hcells2
    have HX := Lib.hid hx
    have HP := Lib.hid hcells
    have HS4 := Lib.hid S4
    have hb4 : b < w4.heap.size := by have := S4.size; omega
    have L : LS w.heap.size a len cap b w4 (w4.alloc (.cells #[] 25)) (.slice (some ⟨w4.heap.size, 0, none⟩) 0 0) [] :=
      ⟨(Stay.refl S4.src).alloc' _, OwnC.empty w4 _ (Nat.le_refl _), hb4⟩
    clear hx hy hcells ST ST2 ST3 ST4 S4
    go_wp2_with fail
    go_loopw [6, 7] (fun u i wr => ∃ (qs : List (Nat × Nat)) (V : Value) (W : World), W = wr ∧ V = u ∧ qs.length ≤ zs.length ∧ i = .int .i64 (qs.length : Int) ∧ LS w.heap.size a len cap b w4 W V qs) (fun _ i _ => zs.length - (intOf i).toNat)
    case atStart => exact ⟨[], _, _, rfl, rfl, by simp, rfl, L⟩
    case round =>
      clear L
      obtain ⟨qs, V, W, hW, hV, hk, rfl, L⟩ := hrel
      subst hW hV
      have hp := HP.out.stay HX.out hb1 L.st
      by_cases h1 : qs.length < zs.length
      · have h1I : (qs.length : Int) < (zs.length : Int) := by omega
        obtain ⟨c1, o1, ha, hc⟩ := hp.2 qs.length h1
        subst ha
        have HO := Lib.hid (fun g hg => (L.own.lt g hg).1)
        clear hp
        go_wp2_with (at_builtin; refine wp_appC rfl _ _ rfl _ _ _ rfl w4.heap.size _ qs L.own rfl rfl (by omega) (by have := L.st.size; simpa using this) ?_; intro v' w5 hown hgrow)
        have L4 : LS w.heap.size a len cap b w4 w5 v' (qs ++ [_]) := ⟨(L.alloc' _).st.grownC hgrow HO.out L.hb, hown, L.hb⟩
        clear hgrow hown
        go_wp2_with fail
        go_roundw
        case rel => exact ⟨qs ++ [_], _, _, rfl, rfl, by simp; omega, by simp, L4⟩
        case measure => simp [intOf]; omega
      · have h1I : ¬ (qs.length : Int) < (zs.length : Int) := by omega
        obtain ⟨x2, c2, hv, _, _, hc2⟩ := L.own.parts
        subst hv
        have HR := Lib.hid (show Cells W x zs ∧ Cells W x2 qs ∧ Below w.heap.size w W from ⟨hp, hc2, below_stay BE.out rfl (HS4.out.trans L.st)⟩)
        clear hp hc2
        go_wp2_with fail
        go_ret2
        exact ⟨x, zs, c, x2, qs, c2, rfl, hl1, by omega, HR.out.1, HR.out.2.1, HR.out.2.2⟩
  · have kb : ((v4 : Int) == 0) = false := beq_eq_false_iff_ne.2 k0
    clear hv4 k0
    have HR := Lib.hid (show Cells w4 x zs ∧ Cells w4 y ys ∧ Below w.heap.size w w4 from ⟨hcells, hcells2, below_stay BE.out rfl S4⟩)
    clear hcells hcells2 hx hy ST ST2 ST3 ST4 S4
    go_wp2_with fail
    go_ret2
    exact ⟨x, zs, c, y, ys, d, rfl, hl1, hl2, HR.out.1, HR.out.2.1, HR.out.2.2⟩

set_option maxRecDepth 100000 in
set_option maxHeartbeats 1600000 in
theorem drawRootsP (a : Option Addr) (len cap : Nat) (w : World) (hlen : len ≤ 9223372036854775807) (hcode : Code8 w.heap.size a len w) :
    Calls Try.prog 34 #[.slice a len cap] w (Got1 26 w) := by
  have HC := Lib.hid hcode
  have HL := Lib.hid hlen
  clear hcode hlen
  go_enter Try.func34, Try.ntmps34
  go_wp2_with fail
  refine (from_any a len cap w HL.out HC.out).mono ?_
  rintro e w1 ⟨b, rfl, hbel, hsrc⟩
  have BE := Lib.hid hbel
  clear hbel
  have hb1 := hsrc.hi
  go_wp2_with fail
  have ST := Stay.refl hsrc
  clear hsrc
  refine (next_from (w := w1) (by with_reducible (first | exact ST | exact ST.drewN _ | exact ST.alloc' _ | exact (ST.alloc' _).drewN _ | exact (ST.drewN _).alloc' _)) 5 (by omega) (by omega)).mono ?_
  rintro e w2 ⟨v1, hv1, rfl, ST⟩
  go_wp2_with fail
  refine (next_from (w := w1) (by with_reducible (first | exact ST | exact ST.drewN _ | exact ST.alloc' _ | exact (ST.alloc' _).drewN _ | exact (ST.drewN _).alloc' _)) 12 (by omega) (by omega)).mono ?_
  rintro e w3 ⟨v2, hv2, rfl, ST⟩
  go_wp2_with fail
  refine (pick_mem (w := w1) (by with_reducible (first | exact ST | exact ST.drewN _ | exact ST.alloc' _ | exact (ST.alloc' _).drewN _ | exact (ST.drewN _).alloc' _)) [1 + (v1 : Int), 1 + (v2 : Int), 0, 13] _ 4 rfl (by decide) (by decide) (fun x => 0 ≤ x ∧ x ≤ 13) (by intro x hx; simp at hx; omega) _ rfl).mono ?_
  rintro e w4 ⟨z, hz, rfl, ST⟩
  clear hv1 hv2
  go_wp2_with fail
  refine (roots_any _ a len cap b z w4 ST.src hz.2 hz.1).mono ?_
  rintro e w5 ⟨v, zs, rfl, hl1, hl2, L⟩
  have L := L.trans ST hb1
  clear hz
  by_cases h0 : 0 < zs.length
  · have h0I : (0 : Int) < (zs.length : Int) := by omega
    obtain ⟨g, cp, hv, hcp, hcp2⟩ := L.own.at0 h0
    subst hv
    go_wp2_with fail
    refine (next_ls (by with_reducible (first | exact L | exact L.drewN _ | exact L.alloc' _ | exact (L.alloc' _).drewN _ | exact (L.drewN _).alloc' _)) 12 (by omega) (by omega)).mono ?_
    rintro e w6 ⟨v6, hv6, rfl, L⟩
    by_cases k0 : (v6 : Int) = 0
    · have kb : ((v6 : Int) == 0) = true := beq_iff_eq.2 k0
      clear hv6 k0
      go_wp2_with fail
      refine (spoil_ls (by with_reducible (first | exact L | exact L.drewN _ | exact L.alloc' _ | exact (L.alloc' _).drewN _ | exact (L.drewN _).alloc' _))).mono ?_
      rintro e w7 ⟨p, q, rfl, L⟩
      have hc := L.own.cellAt rfl 0 h0
      have hf := L.own.frozenAt rfl 0
      have L2 := L.set rfl 0 p q
      obtain ⟨q', cq, hq, hcells⟩ := L2.own.cells
      rw [List.length_set] at hq
      injection hq with hq1 hq2 hq3
      subst hq1 hq3
      have HR := Lib.hid (And.intro hcells (below_stay BE.out rfl L2.st))
      clear hcells L2
      go_wp2_with fail
      go_ret
      exact ⟨_, zs.set 0 (p, q), cp, by rw [List.length_set]; rfl, by rw [List.length_set]; omega, by rw [List.length_set]; exact hcp, hcp2, HR.out.1, HR.out.2⟩
    · have kb : ((v6 : Int) == 0) = false := beq_eq_false_iff_ne.2 k0
      clear hv6 k0
      obtain ⟨q', cq, hq, hcells⟩ := L.own.cells
      injection hq with hq1 hq2 hq3
      subst hq1 hq3
      have HR := Lib.hid (And.intro hcells (below_stay BE.out rfl L.st))
      clear hcells L
      go_wp2_with fail
      go_ret
      exact ⟨_, zs, cp, rfl, by omega, hcp, hcp2, HR.out.1, HR.out.2⟩
  · have h0I : ¬ (0 : Int) < (zs.length : Int) := by omega
    obtain ⟨x, c, hv, hc, hc2, hcells⟩ := L.own.parts
    subst hv
    have HR := Lib.hid (And.intro hcells (below_stay BE.out rfl L.st))
    clear hcells L
    go_wp2_with fail
    go_ret
    exact ⟨_, zs, c, rfl, by omega, hc, hc2, HR.out.1, HR.out.2⟩

set_option maxRecDepth 100000 in
set_option maxHeartbeats 1600000 in
theorem list5_same (x y : Option Addr) (zs : List (Nat × Nat)) (c d : Nat) (w : World) (hx : Cells w x zs) (hy : Cells w y zs) (hf : allF zs = true) :
    Calls Try.prog 10 #[.slice x zs.length c, .slice y zs.length d] w (Ret (.bool true) w) := by
  have HX := Lib.hid hx
  have HY := Lib.hid hy
  have HF := Lib.hid hf
  have hl := hx.1
  clear hx hy hf
  go_enter Try.func10, Try.ntmps10
  go_wp2_with fail
  go_loopw [5] (fun i wr => ∃ (j n : Nat) (W : World), W = wr ∧ j ≤ zs.length ∧ i = .int .i64 j ∧ W = w.drewN n) (fun i _ => zs.length - (intOf i).toNat)
  case atStart => exact ⟨0, 0, _, rfl, Nat.zero_le _, rfl, rfl⟩
  case round =>
    obtain ⟨j, n, W, hW, hj, rfl, hn⟩ := hrel
    subst hW hn
    by_cases h1 : j < zs.length
    · have h1I : (j : Int) < (zs.length : Int) := by omega
      obtain ⟨c1, o1, ha, hc1⟩ := HX.out.2 j h1
      subst ha
      obtain ⟨c2, o2, hb, hc2⟩ := HY.out.2 j h1
      subst hb
      have FZ := Lib.hid (allF_at HF.out j h1)
      have hc1' : ∀ m, (w.drewN m).cell? ⟨c1, o1 + j, none⟩ = some (.complex .f64 zs[j].1 zs[j].2) := fun m => hc1
      have hc2' : ∀ m, (w.drewN m).cell? ⟨c2, o2 + j, none⟩ = some (.complex .f64 zs[j].1 zs[j].2) := fun m => hc2
      go_upto_region 6 with fail
      go_region_with ((go_at_call 11; refine (same5_same _ _ FZ.out _).mono ?_; rintro e w' ⟨_, rfl, rfl⟩))
      all_goals
        go_wp2_with fail
        go_roundw
        case rel => exact ⟨j + 1, _, _, rfl, by omega, by go_num, rfl⟩
        case measure => simp [intOf]; omega
    · have h1I : ¬ (j : Int) < (zs.length : Int) := by omega
      go_wp2_with fail
      go_ret
      exact ⟨_, rfl, rfl⟩

theorem fitC_fin (zs : List (Nat × Nat)) : allF (fitC zs).1 = true := by
  unfold fitC
  split
  · rfl
  · rename_i h
    rw [allF_trim]
    cases e : allF zs
    · exact absurd (.inr e) h
    · rfl
theorem mulL_fin (ps qs : List (Nat × Nat)) : allF (mulL ps qs).1 = true := by unfold mulL; split; exact fitC_fin _; rfl
theorem addL_fin (ps qs : List (Nat × Nat)) : allF (addL ps qs).1 = true := by unfold addL; split; exact fitC_fin _; rfl
theorem derL_fin (ps : List (Nat × Nat)) : allF (derL ps).1 = true := by unfold derL; split; exact fitC_fin _; rfl
theorem monL_fin (ps : List (Nat × Nat)) : allF (monL ps).1 = true := by
  unfold monL
  split
  · split
    · assumption
    · rfl
  · rfl
theorem sclL_fin (ps : List (Nat × Nat)) (k : Int) : allF (sclL ps k).1 = true := by
  unfold sclL
  split
  · split
    · rfl
    · split
      · rename_i h; exact (polyR_len h).2.2.1
      · rfl
  · rfl
theorem ofRootsL_fin (zs : List (Nat × Nat)) : allF (ofRootsL zs).1 = true := by
  unfold ofRootsL
  split
  · rfl
  · split
    · rfl
    · split
      · assumption
      · rfl
theorem mulF_comm (a b c d : Nat) : mulF a b c d = mulF c d a b := by
  unfold mulF mRe mIm
  rw [cf_mul_comm .f64 a c, cf_mul_comm .f64 b d, cf_mul_comm .f64 a d, cf_mul_comm .f64 b c, cf_add_comm .f64 (cf .mul .f64 d a)]
theorem times_turn {ps qs : List (Nat × Nat)} (h : ps.length = 1) : timesL qs ps = timesL ps qs := by
  unfold timesL
  by_cases hq : qs.length = 0
  · rw [if_pos (.inl hq), if_pos (.inr hq)]
  · rw [if_neg (by omega), if_neg (by omega)]
    rw [show qs.length + ps.length - 1 = ps.length + qs.length - 1 by omega]
    refine tabC_congr fun j hj => ?_
    have hj' : j < qs.length := by omega
    have e1 : accT qs ps qs.length j = addF 0 0 (mulF (qs[j]).1 (qs[j]).2 (ps[0]).1 (ps[0]).2).1 (mulF (qs[j]).1 (qs[j]).2 (ps[0]).1 (ps[0]).2).2 := by
      obtain ⟨d, hd⟩ : ∃ d, qs.length = (j + 1) + d := ⟨qs.length - (j + 1), by omega⟩
      have hh := accT_high (ps := qs) (qs := ps) (j := j) (j + 1) (by omega) d
      rw [← hd] at hh
      rw [hh]
      have := accT_yes (ps := qs) (qs := ps) (i := j) (k := 0) hj' (by omega)
      simp only [Nat.add_zero] at this
      rw [this, accT_low j (by omega)]
    have e2 : accT ps qs ps.length j = addF 0 0 (mulF (ps[0]).1 (ps[0]).2 (qs[j]).1 (qs[j]).2).1 (mulF (ps[0]).1 (ps[0]).2 (qs[j]).1 (qs[j]).2).2 := by
      have e3 : accT ps qs ps.length j = accT ps qs 1 j := congrArg (fun n => accT ps qs n j) h
      rw [e3]
      have := accT_yes (ps := ps) (qs := qs) (i := 0) (k := j) (by omega) hj'
      simp only [Nat.zero_add] at this
      rw [this]; rfl
    rw [e1, e2, mulF_comm]
theorem mulL_turn {ps qs : List (Nat × Nat)} (h : ps.length = 1) : mulL qs ps = mulL ps qs := by
  unfold mulL
  rw [times_turn h]
  by_cases hc : partR ps = true ∧ partR qs = true
  · rw [if_pos hc, if_pos hc.symm]
  · rw [if_neg hc, if_neg (fun g => hc g.symm)]
theorem addL_turn (ps qs : List (Nat × Nat)) : addL qs ps = addL ps qs := by
  unfold addL
  rw [addAt_swap qs ps]
  by_cases hc : partR ps = true ∧ partR qs = true
  · rw [if_pos hc, if_pos hc.symm]
  · rw [if_neg hc, if_neg (fun g => hc g.symm)]
theorem monL_zero {ps : List (Nat × Nat)} (h : (monL ps).2 = 0) : (monL ps).1.length = ps.length ∧ 2 ≤ ps.length ∧ ∃ h' : ps.length - 1 < (monL ps).1.length, (monL ps).1[ps.length - 1] = (one, 0) := by
  unfold monL at h ⊢
  split at h
  · rename_i hp
    obtain ⟨l1, l2, _, _⟩ := polyR_len hp
    split at h
    · rename_i hm
      simp only [hp, hm, if_true]
      have hl : (monM ps).length = ps.length := by unfold monM; rw [List.length_append, tabC_length]; simp; omega
      refine ⟨hl, l1, by rw [hl]; omega, ?_⟩
      simp only [monM]
      rw [List.getElem_append_right (by rw [tabC_length]; omega)]
      simp [tabC_length]
    · simp at h
  · simp at h
theorem rootsTo_top (zs : List (Nat × Nat)) : ∀ k (hk : k ≤ zs.length) (h : k < (rootsTo zs k).length), (rootsTo zs k)[k] = (one, 0)
  | 0, _, _ => rfl
  | k + 1, hk, h => by
    have e := rootsTo_succ (zs := zs) (k := k) (by omega)
    have hl := rootsTo_length zs k (by omega)
    have hg : (rootsTo zs (k + 1))[k + 1] = (wrL (rootsTo zs k) (zs[k]'(by omega)))[k + 1]'(by rw [← e]; exact h) := by simp only [e]
    rw [hg, wrL_at, wrAt_no (by omega), shiftAt_succ (by omega)]
    exact rootsTo_top zs k (by omega) (by omega)
theorem ofRootsL_zero {zs : List (Nat × Nat)} (h : (ofRootsL zs).2 = 0) : (ofRootsL zs).1.length = zs.length + 1 ∧ ∃ h' : zs.length < (ofRootsL zs).1.length, (ofRootsL zs).1[zs.length] = (one, 0) := by
  unfold ofRootsL at h ⊢
  split at h
  · simp at h
  · rename_i h1
    split at h
    · simp at h
    · rename_i h2
      split at h
      · rename_i h3
        rw [if_neg h1, if_neg h2, if_pos h3]
        have hl := rootsTo_length zs zs.length (Nat.le_refl _)
        exact ⟨hl, (show zs.length < (rootsTo zs zs.length).length by omega), rootsTo_top zs zs.length (Nat.le_refl _) (by omega)⟩
      · simp at h
theorem code_ne {c : Int} (h : c ≠ 0) : (c == 0) = false := by simpa using h
end Go.Proofs.Ytabpgkkickdopaa
