/-
  Contracts: NumberOf of both sides. Conditions: the limbs can be read; the library's table is as its initialiser lays it. The walk of laws.FnExactNumberOf. Conditions: the limbs can be read; the library's table is as its initialiser lays it.
-/
import Derived.Test.YtfjfmlofhifkmaaDoorGc
import Derived.Test.YtfjfmlofhifkmaaDoorEa
import Derived.Test.YtfjfmlofhifkmaaDoorQa
import Derived.Test.YtfjfmlofhifkmaaDoorLx
import Derived.Deep.DeepCutAuto
import Derived.Deep.RegionHeld3
namespace Go.Proofs.YtfjfmlofhifkmaaDoor
set_option linter.unusedVariables false
open Go Go.RowKit

/-- What NumberOf gives of two parts. -/
def nbP (p q : Nat × Int) : Nat × Nat × Int := if p.2 = 0 then (if q.2 = 0 then (p.1, q.1, 0) else (0, 0, q.2)) else (0, 0, p.2)
noncomputable def nbR (s : Int) (xs : List Int) (x s' : Int) (xs' : List Int) (x' : Int) : Nat × Nat × Int := if (dyB s xs x && dyB s' xs' x') = true then nbP (flR s xs x) (flR s' xs' x') else (0, 0, 1)

set_option maxRecDepth 100000 in
set_option maxHeartbeats 2000000 in
theorem iNumberOf (s : Int) (a : Option Addr) (xs : List Int) (c : Nat) (x : Int) (s' : Int) (a' : Option Addr) (xs' : List Int) (c' : Nat) (x' : Int) (w : World) (B : Nat) (hB : B ≤ w.heap.size) (hx : Ints w B a xs) (hx' : Ints w B a' xs') (hl : xs.length ≤ 9223372036854775807) (hl' : xs'.length ≤ 9223372036854775807) (hTab : Tab w) :
    Calls Tryd.prog 45 #[.agg #[.int .i64 s, .slice a xs.length c, .int .i64 x, .int .i64 s', .slice a' xs'.length c', .int .i64 x']] w (RetB (.tuple #[.complex .f64 (nbR s xs x s' xs' x').1 (nbR s xs x s' xs' x').2.1, .int .i64 (nbR s xs x s' xs' x').2.2]) w) := by
  obtain ⟨W0, hW0⟩ : ∃ W0 : World, w.alloc (.cells #[.int .i64 s, .slice a xs.length c, .int .i64 x, .int .i64 s', .slice a' xs'.length c', .int .i64 x'] 70) = W0 := ⟨_, rfl⟩
  obtain ⟨p1, p3, p4⟩ := one_box w 70 #[.int .i64 s, .slice a xs.length c, .int .i64 x, .int .i64 s', .slice a' xs'.length c', .int .i64 x']
  rw [hW0] at p1 p3 p4
  have SS := Lib.hid (show ∀ W, Below W0.heap.size W0 W → _ from fun W hW => (p1.below hW).six)
  have hT : Below W0.heap.size W0 W0 := Below.refl _ _
  have HBE := Lib.hid (show ∀ W, Below W0.heap.size W0 W → Below w.heap.size w W from fun W hW => p3.trans (hW.mono (by omega)))
  have IX := Lib.hid (show ∀ W, Below W0.heap.size W0 W → Ints W B a xs ∧ Ints W B a' xs' ∧ B ≤ W.heap.size ∧ Tab W from fun W hW => ⟨hx.below ((p3.mono hB).trans (hW.mono (by omega))), hx'.below ((p3.mono hB).trans (hW.mono (by omega))), by have := hW.size; omega, (hTab.below p3).below hW⟩)
  have HI := Lib.hid (show ∀ W, Below W0.heap.size W0 W → Calls Tryd.prog 95 #[.agg #[.int .i64 s, .slice a xs.length c, .int .i64 x, .int .i64 s', .slice a' xs'.length c', .int .i64 x']] W fun e w' => e = .returned (.bool (dyB s xs x && dyB s' xs' x')) ∧ Below W0.heap.size W0 w' from
    fun W hW => (iValidE s a xs c x s' a' xs' c' x' W B (IX.out W hW).2.2.1 hl hl' (IX.out W hW).1 (IX.out W hW).2.1).mono fun e w' ⟨he, hb⟩ => ⟨he, hW.trans (hb.mono hW.size)⟩)
  obtain ⟨k1, k2, k3, k4, k5, k6⟩ := SS.out _ hT
  obtain ⟨v, hv⟩ : ∃ v, (dyB s xs x && dyB s' xs' x') = v := ⟨_, rfl⟩
  unfold nbR
  rw [hv] at HI ⊢
  cases v
  · rw [if_neg (by decide)]
    clear p1 p3 p4 hv hl hl' hx hx' hTab
    go_enter Tryd.func45, Tryd.ntmps45
    go_wp2_with fail
    clear hW0
    refine (HI.out _ hT).mono ?_
    rintro e w1 ⟨rfl, hb⟩
    go_wp2_with fail
    go_ret2
    exact ⟨rfl, HBE.out _ hb⟩
  · rw [if_pos rfl]
    have HF1 := Lib.hid (show ∀ W, Below W0.heap.size W0 W → Calls Tryd.prog 38 #[.agg #[.int .i64 s, .slice a xs.length c, .int .i64 x]] W fun e w' => e = .returned (.tuple #[.float .f64 (flR s xs x).1, .int .i64 (flR s xs x).2]) ∧ Below W0.heap.size W0 w' from
      fun W hW => (iFloatOf s a xs c x W B (IX.out W hW).2.2.1 (IX.out W hW).1 hl (IX.out W hW).2.2.2).mono fun e w' ⟨he, hb⟩ => ⟨he, hW.trans (hb.mono hW.size)⟩)
    have HF2 := Lib.hid (show ∀ W, Below W0.heap.size W0 W → Calls Tryd.prog 38 #[.agg #[.int .i64 s', .slice a' xs'.length c', .int .i64 x']] W fun e w' => e = .returned (.tuple #[.float .f64 (flR s' xs' x').1, .int .i64 (flR s' xs' x').2]) ∧ Below W0.heap.size W0 w' from
      fun W hW => (iFloatOf s' a' xs' c' x' W B (IX.out W hW).2.2.1 (IX.out W hW).2.1 hl' (IX.out W hW).2.2.2).mono fun e w' ⟨he, hb⟩ => ⟨he, hW.trans (hb.mono hW.size)⟩)
    obtain ⟨⟨f1, c1⟩, hf1⟩ : ∃ f, flR s xs x = f := ⟨_, rfl⟩
    obtain ⟨⟨f2, c2⟩, hf2⟩ : ∃ f, flR s' xs' x' = f := ⟨_, rfl⟩
    rw [hf1] at HF1 ⊢
    rw [hf2] at HF2 ⊢
    unfold nbP
    clear p1 p3 p4 hv hl hl' hx hx' hTab hf1 hf2
    by_cases z1 : c1 = 0
    · subst z1
      rw [if_pos rfl]
      by_cases z2 : c2 = 0
      · subst z2
        rw [if_pos rfl]
        go_enter Tryd.func45, Tryd.ntmps45
        go_wp2_with fail
        clear hW0
        refine (HI.out _ hT).mono ?_
        rintro e w1 ⟨rfl, hb⟩
        clear k1 k2 k3 k4 k5 k6
        obtain ⟨k1, k2, k3, k4, k5, k6⟩ := SS.out _ hb
        go_wp2_with fail
        refine (HF1.out _ hb).mono ?_
        rintro e w2 ⟨rfl, hb2⟩
        clear k1 k2 k3 k4 k5 k6
        obtain ⟨k1, k2, k3, k4, k5, k6⟩ := SS.out _ hb2
        go_wp2_with fail
        refine (HF2.out _ hb2).mono ?_
        rintro e w3 ⟨rfl, hb3⟩
        go_wp2_with fail
        go_ret2
        exact ⟨rfl, HBE.out _ hb3⟩
      · rw [if_neg z2]
        go_enter Tryd.func45, Tryd.ntmps45
        go_wp2_with fail
        clear hW0
        refine (HI.out _ hT).mono ?_
        rintro e w1 ⟨rfl, hb⟩
        clear k1 k2 k3 k4 k5 k6
        obtain ⟨k1, k2, k3, k4, k5, k6⟩ := SS.out _ hb
        go_wp2_with fail
        refine (HF1.out _ hb).mono ?_
        rintro e w2 ⟨rfl, hb2⟩
        clear k1 k2 k3 k4 k5 k6
        obtain ⟨k1, k2, k3, k4, k5, k6⟩ := SS.out _ hb2
        have hz : (c2 != 0) = true := by simpa using z2
        go_wp2_with fail
        refine (HF2.out _ hb2).mono ?_
        rintro e w3 ⟨rfl, hb3⟩
        go_wp2_with fail
        go_ret2
        exact ⟨rfl, HBE.out _ hb3⟩
    · rw [if_neg z1]
      have hz : (c1 != 0) = true := by simpa using z1
      go_enter Tryd.func45, Tryd.ntmps45
      go_wp2_with fail
      clear hW0
      refine (HI.out _ hT).mono ?_
      rintro e w1 ⟨rfl, hb⟩
      clear k1 k2 k3 k4 k5 k6
      obtain ⟨k1, k2, k3, k4, k5, k6⟩ := SS.out _ hb
      go_wp2_with fail
      refine (HF1.out _ hb).mono ?_
      rintro e w2 ⟨rfl, hb2⟩
      go_wp2_with fail
      go_ret2
      exact ⟨rfl, HBE.out _ hb2⟩

def fitC (a b : Nat) : Nat × Nat × Int := if (isF .f64 a && isF .f64 b) = true then (a, b, 0) else (0, 0, 3)
set_option maxHeartbeats 400000 in
theorem sFitC (a b : Nat) (w : World) : Calls Tryd.prog 94 #[.complex .f64 a b] w fun e w' => ∃ n, e = .returned (.tuple #[.complex .f64 (fitC a b).1 (fitC a b).2.1, .int .i64 (fitC a b).2.2]) ∧ w' = w.drewN n := by
  have H := Lib.hid fun W => sFinite_any a b W
  unfold fitC
  obtain ⟨v, hv⟩ : ∃ v, (isF .f64 a && isF .f64 b) = v := ⟨_, rfl⟩
  rw [hv] at H ⊢
  clear hv
  cases v
  · rw [if_neg (by decide)]
    go_enter Tryd.func94, Tryd.ntmps94
    go_wp2_with (go_at_call 139; refine (H.out _).mono ?_; rintro e w' ⟨n, rfl, rfl⟩)
    go_ret2
    exact ⟨_, rfl, rfl⟩
  · rw [if_pos rfl]
    go_enter Tryd.func94, Tryd.ntmps94
    go_wp2_with (go_at_call 139; refine (H.out _).mono ?_; rintro e w' ⟨n, rfl, rfl⟩)
    go_ret2
    exact ⟨_, rfl, rfl⟩
theorem nbP_fit (s : Int) (m : Nat) (x s' : Int) (m' : Nat) (x' : Int) : fitC (fw (decide (s < 0)) m x) (fw (decide (s' < 0)) m' x') = nbP (flt s m x) (flt s' m' x') := by
  unfold fitC nbP flt
  rw [isF_rung, isF_rung]
  by_cases h : rawRung f64 m x < 0x7ff0000000000000
  · by_cases h' : rawRung f64 m' x' < 0x7ff0000000000000
    · rw [if_pos h, if_pos h', decide_eq_true h, decide_eq_true h']; rfl
    · rw [if_pos h, if_neg h', decide_eq_true h, decide_eq_false h']; rfl
  · rw [if_neg h, decide_eq_false h]
    by_cases h' : rawRung f64 m' x' < 0x7ff0000000000000
    · rw [if_pos h']; rfl
    · rw [if_neg h']; rfl

set_option maxRecDepth 100000 in
set_option maxHeartbeats 4000000 in
theorem sNumberOf (s : Int) (a : Option Addr) (xs : List Int) (c : Nat) (x : Int) (s' : Int) (a' : Option Addr) (xs' : List Int) (c' : Nat) (x' : Int) (w : World) (B : Nat) (hB : B ≤ w.heap.size) (hx : Ints w B a xs) (hx' : Ints w B a' xs') (hl : xs.length ≤ 9223372036854775807) (hl' : xs'.length ≤ 9223372036854775807) (hc : xs.length ≤ c) (hc' : xs'.length ≤ c') :
    Calls Tryd.prog 43 #[.agg #[.int .i64 s, .slice a xs.length c, .int .i64 x, .int .i64 s', .slice a' xs'.length c', .int .i64 x']] w (RetB (.tuple #[.complex .f64 (nbR s xs x s' xs' x').1 (nbR s xs x s' xs' x').2.1, .int .i64 (nbR s xs x s' xs' x').2.2]) w) := by
  obtain ⟨W0, hW0⟩ : ∃ W0 : World, w.alloc (.cells #[.int .i64 s, .slice a xs.length c, .int .i64 x, .int .i64 s', .slice a' xs'.length c', .int .i64 x'] 70) = W0 := ⟨_, rfl⟩
  obtain ⟨p1, p3, p4⟩ := one_box w 70 #[.int .i64 s, .slice a xs.length c, .int .i64 x, .int .i64 s', .slice a' xs'.length c', .int .i64 x']
  rw [hW0] at p1 p3 p4
  have SS := Lib.hid (show ∀ W, Below W0.heap.size W0 W → (W.cell? ⟨w.heap.size, 0, none⟩ = some (.int .i64 s) ∧ W.cell? ⟨w.heap.size, 1, none⟩ = some (.slice a xs.length c) ∧ W.cell? ⟨w.heap.size, 2, none⟩ = some (.int .i64 x) ∧ W.cell? ⟨w.heap.size, 3, none⟩ = some (.int .i64 s') ∧ W.cell? ⟨w.heap.size, 4, none⟩ = some (.slice a' xs'.length c') ∧ W.cell? ⟨w.heap.size, 5, none⟩ = some (.int .i64 x')) from fun W hW => (p1.below hW).six)
  have hT : Below W0.heap.size W0 W0 := Below.refl _ _
  have HBE := Lib.hid (show ∀ W, Below W0.heap.size W0 W → Below w.heap.size w W from fun W hW => p3.trans (hW.mono (by omega)))
  have IX := Lib.hid (show ∀ W, Below W0.heap.size W0 W → Ints W B a xs ∧ Ints W B a' xs' ∧ B ≤ W.heap.size from fun W hW => ⟨hx.below ((p3.mono hB).trans (hW.mono (by omega))), hx'.below ((p3.mono hB).trans (hW.mono (by omega))), by have := hW.size; omega⟩)
  have HI := Lib.hid (show ∀ W, Below W0.heap.size W0 W → Calls Tryd.prog 93 #[.agg #[.int .i64 s, .slice a xs.length c, .int .i64 x, .int .i64 s', .slice a' xs'.length c', .int .i64 x']] W fun e w' => e = .returned (.bool (dyB s xs x && dyB s' xs' x')) ∧ Below W0.heap.size W0 w' from
    fun W hW => (sPairE s a xs c x s' a' xs' c' x' W B (IX.out W hW).2.2 hl hl' (IX.out W hW).1 (IX.out W hW).2.1).mono fun e w' ⟨he, hb⟩ => ⟨he, hW.trans (hb.mono hW.size)⟩)
  obtain ⟨k1, k2, k3, k4, k5, k6⟩ := SS.out _ hT
  obtain ⟨v, hv⟩ : ∃ v, (dyB s xs x && dyB s' xs' x') = v := ⟨_, rfl⟩
  unfold nbR
  rw [hv] at HI ⊢
  cases v
  · rw [if_neg (by decide)]
    clear p1 p3 p4 hv hl hl' hx hx' hc hc'
    go_enter Tryd.func43, Tryd.ntmps43
    go_wp2_with fail
    clear hW0
    refine (HI.out _ hT).mono ?_
    rintro e w1 ⟨rfl, hb⟩
    go_wp2_with fail
    go_ret2
    exact ⟨rfl, HBE.out _ hb⟩
  · rw [if_pos rfl]
    rw [Bool.and_eq_true] at hv
    obtain ⟨m, rfl, hm, sm, hx1, hx2⟩ := isDy_of (dyB_iff.1 hv.1)
    obtain ⟨m', rfl, hm', sm', hx1', hx2'⟩ := isDy_of (dyB_iff.1 hv.2)
    rw [flR_yes hv.1, flR_yes hv.2, ← nbP_fit]
    have HR1 := Lib.hid (show ∀ W, Below W0.heap.size W0 W → Calls Tryd.prog 89 #[.agg #[.int .i64 s, .slice a (lim m).length c, .int .i64 x], .int .i64 53, .int .i64 (-1074)] W fun e w' => e = .returned (.float .f64 (fw (decide (s < 0)) m x)) ∧ Below W0.heap.size W0 w' from
      fun W hW => (sRound s a m c x W B (IX.out W hW).2.2 (IX.out W hW).1 hc (dyB_iff.1 hv.1) hm sm).mono fun e w' ⟨he, hb⟩ => ⟨he, hW.trans (hb.mono hW.size)⟩)
    have HR2 := Lib.hid (show ∀ W, Below W0.heap.size W0 W → Calls Tryd.prog 89 #[.agg #[.int .i64 s', .slice a' (lim m').length c', .int .i64 x'], .int .i64 53, .int .i64 (-1074)] W fun e w' => e = .returned (.float .f64 (fw (decide (s' < 0)) m' x')) ∧ Below W0.heap.size W0 w' from
      fun W hW => (sRound s' a' m' c' x' W B (IX.out W hW).2.2 (IX.out W hW).2.1 hc' (dyB_iff.1 hv.2) hm' sm').mono fun e w' ⟨he, hb⟩ => ⟨he, hW.trans (hb.mono hW.size)⟩)
    obtain ⟨f1, hf1⟩ : ∃ f, fw (decide (s < 0)) m x = f := ⟨_, rfl⟩
    obtain ⟨f2, hf2⟩ : ∃ f, fw (decide (s' < 0)) m' x' = f := ⟨_, rfl⟩
    rw [hf1] at HR1 ⊢
    rw [hf2] at HR2 ⊢
    have HF := Lib.hid fun W => sFitC f1 f2 W
    obtain ⟨⟨g1, g2, g3⟩, hg⟩ : ∃ g, fitC f1 f2 = g := ⟨_, rfl⟩
    rw [hg] at HF ⊢
    clear p1 p3 p4 hv hl hl' hx hx' hc hc' hf1 hf2 hg sm sm' hm hm'
    go_enter Tryd.func43, Tryd.ntmps43
    go_wp2_with fail
    clear hW0
    refine (HI.out _ hT).mono ?_
    rintro e w1 ⟨rfl, hb⟩
    clear k1 k2 k3 k4 k5 k6
    obtain ⟨k1, k2, k3, k4, k5, k6⟩ := SS.out _ hb
    have hbd := hb.drew
    go_wp2_with fail
    go_region_held3 (fun W => W.cell? ⟨w.heap.size, 0, none⟩ = some (.int .i64 s) ∧ W.cell? ⟨w.heap.size, 1, none⟩ = some (.slice a (lim m).length c) ∧ W.cell? ⟨w.heap.size, 2, none⟩ = some (.int .i64 x) ∧ W.cell? ⟨w.heap.size, 3, none⟩ = some (.int .i64 s') ∧ W.cell? ⟨w.heap.size, 4, none⟩ = some (.slice a' (lim m').length c') ∧ W.cell? ⟨w.heap.size, 5, none⟩ = some (.int .i64 x'))
      (first | exact SS.out _ (by assumption) | exact SS.out _ (below_drewN (by assumption) _))
      (first
      | (go_at_call 89; with_reducible refine (HR1.out _ (by assumption)).mono ?_; rintro e w2 ⟨rfl, hb2⟩)
      | (go_at_call 89; with_reducible refine (HR2.out _ (by assumption)).mono ?_; rintro e w3 ⟨rfl, hb3⟩)
      | (go_at_call 94; refine (HF.out _).mono ?_; rintro e w4 ⟨n, rfl, rfl⟩))
    all_goals
      go_wp2_with fail
      go_ret2
      first
      | exact ⟨rfl, HBE.out _ (below_drewN hb3 _)⟩
      | exact ⟨rfl, HBE.out _ (below_drewN hb2 _)⟩

set_option maxHeartbeats 800000 in
theorem sameComplex_fin (a b : Nat) (h : isF .f64 a = true ∧ isF .f64 b = true) (w : World) : Calls Tryd.prog 46 #[.complex .f64 a b, .complex .f64 a b] w fun e w' => e = .returned (.bool true) ∧ w = w' := by
  have H := Lib.hid fun W => sameFloat_fin a h.1 W
  have G := Lib.hid fun W => sameFloat_fin b h.2 W
  clear h
  go_enter Tryd.func46, Tryd.ntmps46
  go_wp2_with (go_at_call 39; (first | (with_reducible refine (H.out _).mono ?_) | (with_reducible refine (G.out _).mono ?_)); rintro e w' ⟨rfl, rfl⟩)
  go_ret
  exact ⟨rfl, rfl⟩
theorem nbR_fin (s : Int) (xs : List Int) (x s' : Int) (xs' : List Int) (x' : Int) : isF .f64 (nbR s xs x s' xs' x').1 = true ∧ isF .f64 (nbR s xs x s' xs' x').2.1 = true := by
  unfold nbR
  split
  · unfold nbP
    split
    · split
      · exact ⟨flR_fin _ _ _, flR_fin _ _ _⟩
      · exact ⟨isF_zero, isF_zero⟩
    · exact ⟨isF_zero, isF_zero⟩
  · exact ⟨isF_zero, isF_zero⟩

set_option maxRecDepth 100000 in
set_option maxHeartbeats 8000000 in
theorem NumberOf_walk (s0 : Int) (a0 : Option Addr) (xs0 : List Int) (c0 : Nat) (ex0 : Int) (s1 : Int) (a1 : Option Addr) (xs1 : List Int) (c1 : Nat) (ex1 : Int) (w : World) (hl0 : xs0.length ≤ 9223372036854775807) (hx0 : Ints w w.heap.size a0 xs0) (bl0 : -9223372036854775808 ≤ ex0) (bh0 : ex0 ≤ 9223372036854775807) (hl1 : xs1.length ≤ 9223372036854775807) (hx1 : Ints w w.heap.size a1 xs1) (bl1 : -9223372036854775808 ≤ ex1) (bh1 : ex1 ≤ 9223372036854775807) (hTab : Tab w) :
    Calls Tryd.prog 8 #[.agg #[.int .i64 s0, .slice a0 xs0.length c0, .int .i64 ex0, .int .i64 s1, .slice a1 xs1.length c1, .int .i64 ex1]] w (LawDone w) := by
  by_cases hbig : (xs0.length : Int) + (xs1.length : Int) ≤ 1048576
  · have HL := Lib.hid hbig
    obtain ⟨⟨r1, r2, r3⟩, hr⟩ : ∃ r : Nat × Nat × Int, r = nbR s0 xs0 ex0 s1 xs1 ex1 := ⟨_, rfl⟩
    obtain ⟨W0, hW0⟩ : ∃ W0 : World, w.alloc (.cells #[.int .i64 s0, .slice a0 xs0.length c0, .int .i64 ex0, .int .i64 s1, .slice a1 xs1.length c1, .int .i64 ex1] 64) = W0 := ⟨_, rfl⟩
    obtain ⟨p0, p8, p9⟩ := one_box w 64 #[.int .i64 s0, .slice a0 xs0.length c0, .int .i64 ex0, .int .i64 s1, .slice a1 xs1.length c1, .int .i64 ex1]
    rw [hW0] at p0 p8 p9
    have HW0 := Lib.hid hW0
    have P3 := Lib.hid p8
    have P4 := Lib.hid p9
    have SS := Lib.hid (show ∀ W, Below W0.heap.size W0 W → (W.cell? ⟨w.heap.size, 0, none⟩ = some (.int .i64 s0) ∧ W.cell? ⟨w.heap.size, 1, none⟩ = some (.slice a0 xs0.length c0) ∧ W.cell? ⟨w.heap.size, 2, none⟩ = some (.int .i64 ex0) ∧ W.cell? ⟨w.heap.size, 3, none⟩ = some (.int .i64 s1) ∧ W.cell? ⟨w.heap.size, 4, none⟩ = some (.slice a1 xs1.length c1) ∧ W.cell? ⟨w.heap.size, 5, none⟩ = some (.int .i64 ex1)) from fun W hW => (p0.below hW).six)
    have HTB := Lib.hid (show ∀ W, Below W0.heap.size W0 W → Tab W from fun W hW => (hTab.below p8).below hW)
    clear hTab
    have HT0 := Lib.hid (show ∀ W, Below W0.heap.size W0 W → Calls Tryd.prog 44 #[.agg #[.int .i64 s0, .slice a0 xs0.length c0, .int .i64 ex0, .int .i64 s1, .slice a1 xs1.length c1, .int .i64 ex1]] W fun e w' => ∃ a' c' b' d', e = .returned (.agg #[.int .i64 s0, .slice a' xs0.length c', .int .i64 ex0, .int .i64 s1, .slice b' xs1.length d', .int .i64 ex1]) ∧ xs0.length ≤ c' ∧ xs1.length ≤ d' ∧ Own2 w' W.heap.size w'.heap.size a' xs0 ∧ Own2 w' W.heap.size w'.heap.size b' xs1 ∧ Apart a' b' xs0 xs1 ∧ Below W.heap.size W w' ∧ Below W0.heap.size W0 w' from
      fun W hW => (toExact s0 a0 xs0 c0 ex0 s1 a1 xs1 c1 ex1 W w.heap.size (by have := hW.size; omega) (by omega) (by omega) (hx0.below (p8.trans (hW.mono (by omega)))) (hx1.below (p8.trans (hW.mono (by omega))))).mono fun e w' ⟨a, c, b, d, he, hc, hd, ho, hp, hap, hb⟩ => ⟨a, c, b, d, he, hc, hd, Own2.of ho, Own2.of hp, hap, hb, hW.trans (hb.mono hW.size)⟩)
    have HSP := Lib.hid (show ∀ (b0 : Option Addr) (d0 : Nat) (b1 : Option Addr) (d1 : Nat) W, Below W0.heap.size W0 W → xs0.length ≤ d0 → xs1.length ≤ d1 → Ints W W.heap.size b0 xs0 → Ints W W.heap.size b1 xs1 → Calls Tryd.prog 43 #[.agg #[.int .i64 s0, .slice b0 xs0.length d0, .int .i64 ex0, .int .i64 s1, .slice b1 xs1.length d1, .int .i64 ex1]] W fun e w' => e = .returned (.tuple #[.complex .f64 r1 r2, .int .i64 r3]) ∧ Below W.heap.size W w' ∧ Below W0.heap.size W0 w' from
      fun b0 d0 b1 d1 W hW h0 h1 i0 i1 => by
        have := sNumberOf s0 b0 xs0 d0 ex0 s1 b1 xs1 d1 ex1 W _ (Nat.le_refl _) i0 i1 hl0 hl1 h0 h1
        rw [← hr] at this
        exact this.mono fun e w' ⟨he, hb⟩ => ⟨he, hb, hW.trans (hb.mono hW.size)⟩)
    have HIM := Lib.hid (show ∀ (b0 : Option Addr) (d0 : Nat) (b1 : Option Addr) (d1 : Nat) W, Below W0.heap.size W0 W → xs0.length ≤ d0 → xs1.length ≤ d1 → Ints W W.heap.size b0 xs0 → Ints W W.heap.size b1 xs1 → Calls Tryd.prog 45 #[.agg #[.int .i64 s0, .slice b0 xs0.length d0, .int .i64 ex0, .int .i64 s1, .slice b1 xs1.length d1, .int .i64 ex1]] W fun e w' => e = .returned (.tuple #[.complex .f64 r1 r2, .int .i64 r3]) ∧ Below W.heap.size W w' ∧ Below W0.heap.size W0 w' from
      fun b0 d0 b1 d1 W hW h0 h1 i0 i1 => by
        have := iNumberOf s0 b0 xs0 d0 ex0 s1 b1 xs1 d1 ex1 W _ (Nat.le_refl _) i0 i1 hl0 hl1 (HTB.out W hW)
        rw [← hr] at this
        exact this.mono fun e w' ⟨he, hb⟩ => ⟨he, hb, hW.trans (hb.mono hW.size)⟩)
    have hT : Below W0.heap.size W0 W0 := Below.refl _ _
    have hn0 : decide (1048576 - (xs0.length : Int) - (xs1.length : Int) < 0) = false := decide_eq_false (by omega)
    have HN0 := Lib.hid (show xs0.length ≤ 1048576 by omega)
    have HN1 := Lib.hid (show xs1.length ≤ 1048576 by omega)
    have HSF := Lib.hid (fun W => sameComplex_fin r1 r2 (by have := nbR_fin s0 xs0 ex0 s1 xs1 ex1; rw [← hr] at this; exact this) W)
    clear p0 p8 p9 hx0 hx1 hW0 hl0 hl1 hbig hr
    go_enter Tryd.func8, Tryd.ntmps8
    go_wp2_with fail
    rw [HW0.out]
    refine (szEx_ok s0 a0 xs0.length c0 ex0 s1 a1 xs1.length c1 ex1 1048576 _ (by have := HL.out; omega) (by omega)).mono ?_
    rintro e w1 ⟨rfl, hb⟩
    have hU1 : Below W0.heap.size W0 w1 := hT.trans (hb.mono hT.size)
    clear hb
    obtain ⟨k0, k1, k2, k3, k4, k5⟩ := SS.out _ hU1
    go_wp2_with fail
    refine (HT0.out _ hU1).mono ?_
    rintro e v1 ⟨b9, d9, b8, d8, rfl, hd9, hd8, ho, ho8, hap, hb, hz⟩
    go_wp2_with fail
    refine (HSP.out _ _ _ _ _ hz hd9 hd8 (Own2.own ho).ints (Own2.own ho8).ints).mono ?_
    rintro e v2 ⟨rfl, hbb, hbz⟩
    have hU := Lib.hid hbz
    have hr3 : (r3 != r3) = false := by simp
    clear hbb hbz ho ho8 hap hb hz hd9 hd8 HSP hT HL hU1 k0 k1 k2 k3 k4 k5
    obtain ⟨x1_0, x1_1, x1_2, x1_3, x1_4, x1_5⟩ := SS.out _ hU.out
    go_wp2_with fail
    refine (HT0.out _ hU.out).mono ?_
    rintro e wx1 ⟨b0, d0, b1, d1, rfl, hd0, hd1, ho, hp, hap, hb, hz⟩
    clear x1_0 x1_1 x1_2 x1_3 x1_4 x1_5
    clear hU
    have hU_wx1 := Lib.hid hz
    have OX0 := Lib.hid ho
    have OX1 := Lib.hid hp
    have HD0 := Lib.hid hd0
    have HD1 := Lib.hid hd1
    clear ho hp hb hz hd0 hd1 hap
    have OX0_6 := Lib.hid (OX0.out.alloc (.cells #[.int .i64 s0, .slice b0 xs0.length d0, .int .i64 ex0, .int .i64 s1, .slice b1 xs1.length d1, .int .i64 ex1] 70))
    have OX1_7 := Lib.hid (OX1.out.alloc (.cells #[.int .i64 s0, .slice b0 xs0.length d0, .int .i64 ex0, .int .i64 s1, .slice b1 xs1.length d1, .int .i64 ex1] 70))
    clear OX0 OX1
    have hU_8 := Lib.hid (below_alloc hU_wx1.out (.cells #[.int .i64 s0, .slice b0 xs0.length d0, .int .i64 ex0, .int .i64 s1, .slice b1 xs1.length d1, .int .i64 ex1] 70))
    clear hU_wx1
    have BX := Lib.hid (BoxAt.new wx1 70 #[.int .i64 s0, .slice b0 xs0.length d0, .int .i64 ex0, .int .i64 s1, .slice b1 xs1.length d1, .int .i64 ex1])
    obtain ⟨y9_0, y9_1, y9_2, y9_3, y9_4, y9_5, y9_6, y9_7, y9_8, y9_9, y9_10, y9_11⟩ := BX.out.six12
    go_wp2_with fail
    refine (HIM.out _ _ _ _ _ hU_8.out HD0.out HD1.out (Own2.own OX0_6.out).ints (Own2.own OX1_7.out).ints).mono ?_
    rintro e wg ⟨rfl, hb, hz⟩
    have hsz_g := hb.size
    (try simp at hsz_g)
    clear y9_0 y9_1 y9_2 y9_3 y9_4 y9_5 y9_6 y9_7 y9_8 y9_9 y9_10 y9_11
    have BX_26 := Lib.hid (BX.out.below hb)
    have OX0_29 := Lib.hid (OX0_6.out.below hb (by first | omega | (simp; done) | (simp; omega)))
    have OX1_30 := Lib.hid (OX1_7.out.below hb (by first | omega | (simp; done) | (simp; omega)))
    clear BX OX0_6 OX1_7
    clear hU_8
    have hU_24 := Lib.hid hz
    clear hb hz
    go_wp2_with fail
    refine (HSF.out _).mono ?_
    rintro e wsf ⟨rfl, rfl⟩
    obtain ⟨x32_0, x32_1, x32_2, x32_3, x32_4, x32_5⟩ := SS.out _ hU_24.out
    have SX := Lib.hid (show ∀ W, Below wg.heap.size wg W → (W.cell? ⟨w.heap.size, 0, none⟩ = some (.int .i64 s0) ∧ W.cell? ⟨w.heap.size, 1, none⟩ = some (.slice a0 xs0.length c0) ∧ W.cell? ⟨w.heap.size, 2, none⟩ = some (.int .i64 ex0) ∧ W.cell? ⟨w.heap.size, 3, none⟩ = some (.int .i64 s1) ∧ W.cell? ⟨w.heap.size, 4, none⟩ = some (.slice a1 xs1.length c1) ∧ W.cell? ⟨w.heap.size, 5, none⟩ = some (.int .i64 ex1) ∧ W.cell? ⟨wx1.heap.size, 0, none⟩ = some (.int .i64 s0) ∧ W.cell? ⟨wx1.heap.size, 1, none⟩ = some (.slice b0 xs0.length d0) ∧ W.cell? ⟨wx1.heap.size, 2, none⟩ = some (.int .i64 ex0) ∧ W.cell? ⟨wx1.heap.size, 3, none⟩ = some (.int .i64 s1) ∧ W.cell? ⟨wx1.heap.size, 4, none⟩ = some (.slice b1 xs1.length d1) ∧ W.cell? ⟨wx1.heap.size, 5, none⟩ = some (.int .i64 ex1)) from fun W hW => ⟨(SS.out _ (hU_24.out.trans (hW.mono hU_24.out.size))).1, (SS.out _ (hU_24.out.trans (hW.mono hU_24.out.size))).2.1, (SS.out _ (hU_24.out.trans (hW.mono hU_24.out.size))).2.2.1, (SS.out _ (hU_24.out.trans (hW.mono hU_24.out.size))).2.2.2.1, (SS.out _ (hU_24.out.trans (hW.mono hU_24.out.size))).2.2.2.2.1, (SS.out _ (hU_24.out.trans (hW.mono hU_24.out.size))).2.2.2.2.2, (BX_26.out.below hW).cell 0, (BX_26.out.below hW).cell 1, (BX_26.out.below hW).cell 2, (BX_26.out.below hW).cell 3, (BX_26.out.below hW).cell 4, (BX_26.out.below hW).cell 5⟩)
    have TX := Lib.hid (show ∀ W, Below wg.heap.size wg W → Calls Tryd.prog 44 #[.agg #[.int .i64 s0, .slice a0 xs0.length c0, .int .i64 ex0, .int .i64 s1, .slice a1 xs1.length c1, .int .i64 ex1]] W fun e w' => ∃ a' c' b' d', e = .returned (.agg #[.int .i64 s0, .slice a' xs0.length c', .int .i64 ex0, .int .i64 s1, .slice b' xs1.length d', .int .i64 ex1]) ∧ Own w' W.heap.size a' xs0 ∧ Own w' W.heap.size b' xs1 ∧ Below wg.heap.size wg w' from fun W hW => (HT0.out W (hU_24.out.trans (hW.mono hU_24.out.size))).mono fun e w' ⟨a, c, b, d, he, _, _, ho, hp, _, hb, _⟩ => ⟨a, c, b, d, he, ho.own, hp.own, hW.trans (hb.mono hW.size)⟩)
    have EX := Lib.hid (show ∀ a' c' lo b' d' lo' W, Below wg.heap.size wg W → Own W lo a' xs0 → Own W lo' b' xs1 → Calls Tryd.prog 47 #[.agg #[.int .i64 s0, .slice b0 xs0.length d0, .int .i64 ex0, .int .i64 s1, .slice b1 xs1.length d1, .int .i64 ex1], .agg #[.int .i64 s0, .slice a' xs0.length c', .int .i64 ex0, .int .i64 s1, .slice b' xs1.length d', .int .i64 ex1]] W fun e w' => e = .returned (.bool true) ∧ Below wg.heap.size wg w' from fun a' c' lo b' d' lo' W hW ho hp => (eqExact_yes s0 _ _ xs0 _ _ _ ex0 s1 _ _ xs1 _ _ _ ex1 rfl rfl _ _ _ _ _ hW.size hW.size (Nat.le_refl _) (Nat.le_refl _) ((Own2.own OX0_29.out).ints.below hW) ho.ints ((Own2.own OX1_30.out).ints.below hW) hp.ints (by have := HN0.out; omega) (by have := HN1.out; omega)).mono fun e w' ⟨he, hb⟩ => ⟨he, hW.trans (hb.mono hW.size)⟩)
    have hTT : Below wg.heap.size wg wg.drew := (Below.refl _ _).drew
    clear x32_0 x32_1 x32_2 x32_3 x32_4 x32_5
    go_wp2_with fail
    go_region_held3 (fun W => W.cell? ⟨w.heap.size, 0, none⟩ = some (.int .i64 s0) ∧ W.cell? ⟨w.heap.size, 1, none⟩ = some (.slice a0 xs0.length c0) ∧ W.cell? ⟨w.heap.size, 2, none⟩ = some (.int .i64 ex0) ∧ W.cell? ⟨w.heap.size, 3, none⟩ = some (.int .i64 s1) ∧ W.cell? ⟨w.heap.size, 4, none⟩ = some (.slice a1 xs1.length c1) ∧ W.cell? ⟨w.heap.size, 5, none⟩ = some (.int .i64 ex1) ∧ W.cell? ⟨wx1.heap.size, 0, none⟩ = some (.int .i64 s0) ∧ W.cell? ⟨wx1.heap.size, 1, none⟩ = some (.slice b0 xs0.length d0) ∧ W.cell? ⟨wx1.heap.size, 2, none⟩ = some (.int .i64 ex0) ∧ W.cell? ⟨wx1.heap.size, 3, none⟩ = some (.int .i64 s1) ∧ W.cell? ⟨wx1.heap.size, 4, none⟩ = some (.slice b1 xs1.length d1) ∧ W.cell? ⟨wx1.heap.size, 5, none⟩ = some (.int .i64 ex1))
      (exact SX.out _ (by assumption))
      (first
      | (go_at_call 44; refine (TX.out _ (by assumption)).mono ?_; rintro e u1 ⟨y1, f1, y2, f2, rfl, ho1, ho2, hb1⟩)
      | (go_at_call 47; refine (EX.out _ _ _ _ _ _ _ (by assumption) ho1 ho2).mono ?_; rintro e wd ⟨rfl, hbd⟩))
    have hU_33 := Lib.hid (hU_24.out.trans (hbd.mono hU_24.out.size))
    go_wp2_with fail
    go_ret
    exact ⟨rfl, P3.out.trans (hU_33.out.mono (by have := P4.out; omega))⟩
  · obtain ⟨W0, hW0⟩ : ∃ W0 : World, w.alloc (.cells #[.int .i64 s0, .slice a0 xs0.length c0, .int .i64 ex0, .int .i64 s1, .slice a1 xs1.length c1, .int .i64 ex1] 64) = W0 := ⟨_, rfl⟩
    obtain ⟨p0, p8, p9⟩ := one_box w 64 #[.int .i64 s0, .slice a0 xs0.length c0, .int .i64 ex0, .int .i64 s1, .slice a1 xs1.length c1, .int .i64 ex1]
    rw [hW0] at p0 p8 p9
    have HW0 := Lib.hid hW0
    have P3 := Lib.hid p8
    have P4 := Lib.hid p9
    obtain ⟨k0, k1, k2, k3, k4, k5⟩ := p0.six
    clear p0 p8 p9 hx0 hx1 hW0
    go_enter Tryd.func8, Tryd.ntmps8
    go_wp2_with fail
    rw [HW0.out]
    refine (szEx_no s0 a0 xs0.length c0 ex0 s1 a1 xs1.length c1 ex1 1048576 _ (by omega) hl0 hl1 (by omega) (by omega)).mono ?_
    rintro e wq ⟨rfl, hb⟩
    have hB := Lib.hid (P3.out.trans (hb.mono (by have := P4.out; omega)))
    clear hb
    go_wp2_with fail
    go_ret
    exact ⟨rfl, hB.out⟩
end Go.Proofs.YtfjfmlofhifkmaaDoor
