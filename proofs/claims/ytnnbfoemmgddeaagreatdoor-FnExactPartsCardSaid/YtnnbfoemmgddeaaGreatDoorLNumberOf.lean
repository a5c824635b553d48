/-
  Contracts: NumberOf of both sides. Conditions: the limbs can be read; the library's table is as its initialiser lays it. The walk of laws.FnExactNumberOf. Conditions: the limbs can be read; the library's table is as its initialiser lays it.
-/
import Derived.Test.YtnnbfoemmgddeaaGreatDoorGc
import Derived.Test.YtnnbfoemmgddeaaGreatDoorEa
import Derived.Test.YtnnbfoemmgddeaaGreatDoorOd
import Derived.Test.YtnnbfoemmgddeaaGreatDoorLx
import Derived.Deep.DeepCutAuto
import Derived.Deep.RegionHeld3
namespace Go.Proofs.YtnnbfoemmgddeaaGreatDoor
set_option linter.unusedVariables false
open Go Go.RowKit

/-- What NumberOf gives of two parts. -/
def nbP (p q : Nat × Int) : Nat × Nat × Int := if p.2 = 0 then (if q.2 = 0 then (p.1, q.1, 0) else (0, 0, q.2)) else (0, 0, p.2)
noncomputable def nbR (s : Int) (xs : List Int) (x s' : Int) (xs' : List Int) (x' : Int) : Nat × Nat × Int := if (dyB s xs x && dyB s' xs' x') = true then nbP (flR s xs x) (flR s' xs' x') else (0, 0, 1)

set_option maxRecDepth 100000 in
set_option maxHeartbeats 2000000 in
theorem iNumberOf (s : Int) (a : Option Addr) (xs : List Int) (c : Nat) (x : Int) (s' : Int) (a' : Option Addr) (xs' : List Int) (c' : Nat) (x' : Int) (w : World) (B : Nat) (hB : B ≤ w.heap.size) (hx : Ints w B a xs) (hx' : Ints w B a' xs') (hl : xs.length ≤ 9223372036854775807) (hl' : xs'.length ≤ 9223372036854775807) (hTab : Tab w) :
    Calls Tryz.prog 12 #[.agg #[.int .i64 s, .slice a xs.length c, .int .i64 x, .int .i64 s', .slice a' xs'.length c', .int .i64 x']] w (RetB (.tuple #[.complex .f64 (nbR s xs x s' xs' x').1 (nbR s xs x s' xs' x').2.1, .int .i64 (nbR s xs x s' xs' x').2.2]) w) := by
  obtain ⟨W0, hW0⟩ : ∃ W0 : World, w.alloc (.cells #[.int .i64 s, .slice a xs.length c, .int .i64 x, .int .i64 s', .slice a' xs'.length c', .int .i64 x'] 33) = W0 := ⟨_, rfl⟩
  obtain ⟨p1, p3, p4⟩ := one_box w 33 #[.int .i64 s, .slice a xs.length c, .int .i64 x, .int .i64 s', .slice a' xs'.length c', .int .i64 x']
  rw [hW0] at p1 p3 p4
  have SS := Lib.hid (show ∀ W, Below W0.heap.size W0 W → _ from fun W hW => (p1.below hW).six)
  have hT : Below W0.heap.size W0 W0 := Below.refl _ _
  have HBE := Lib.hid (show ∀ W, Below W0.heap.size W0 W → Below w.heap.size w W from fun W hW => p3.trans (hW.mono (by omega)))
  have IX := Lib.hid (show ∀ W, Below W0.heap.size W0 W → Ints W B a xs ∧ Ints W B a' xs' ∧ B ≤ W.heap.size ∧ Tab W from fun W hW => ⟨hx.below ((p3.mono hB).trans (hW.mono (by omega))), hx'.below ((p3.mono hB).trans (hW.mono (by omega))), by have := hW.size; omega, (hTab.below p3).below hW⟩)
  have HI := Lib.hid (show ∀ W, Below W0.heap.size W0 W → Calls Tryz.prog 69 #[.agg #[.int .i64 s, .slice a xs.length c, .int .i64 x, .int .i64 s', .slice a' xs'.length c', .int .i64 x']] W fun e w' => e = .returned (.bool (dyB s xs x && dyB s' xs' x')) ∧ Below W0.heap.size W0 w' from
    fun W hW => (iValidE s a xs c x s' a' xs' c' x' W B (IX.out W hW).2.2.1 hl hl' (IX.out W hW).1 (IX.out W hW).2.1).mono fun e w' ⟨he, hb⟩ => ⟨he, hW.trans (hb.mono hW.size)⟩)
  obtain ⟨k1, k2, k3, k4, k5, k6⟩ := SS.out _ hT
  obtain ⟨v, hv⟩ : ∃ v, (dyB s xs x && dyB s' xs' x') = v := ⟨_, rfl⟩
  unfold nbR
  rw [hv] at HI ⊢
  cases v
  · rw [if_neg (by decide)]
    clear p1 p3 p4 hv hl hl' hx hx' hTab
    go_enter Tryz.func12, Tryz.ntmps12
    go_wp2_with fail
    clear hW0
    refine (HI.out _ hT).mono ?_
    rintro e w1 ⟨rfl, hb⟩
    go_wp2_with fail
    go_ret2
    exact ⟨rfl, HBE.out _ hb⟩
  · rw [if_pos rfl]
    have HF1 := Lib.hid (show ∀ W, Below W0.heap.size W0 W → Calls Tryz.prog 72 #[.agg #[.int .i64 s, .slice a xs.length c, .int .i64 x]] W fun e w' => e = .returned (.tuple #[.float .f64 (flR s xs x).1, .int .i64 (flR s xs x).2]) ∧ Below W0.heap.size W0 w' from
      fun W hW => (iFloatOf s a xs c x W B (IX.out W hW).2.2.1 (IX.out W hW).1 hl (IX.out W hW).2.2.2).mono fun e w' ⟨he, hb⟩ => ⟨he, hW.trans (hb.mono hW.size)⟩)
    have HF2 := Lib.hid (show ∀ W, Below W0.heap.size W0 W → Calls Tryz.prog 72 #[.agg #[.int .i64 s', .slice a' xs'.length c', .int .i64 x']] W fun e w' => e = .returned (.tuple #[.float .f64 (flR s' xs' x').1, .int .i64 (flR s' xs' x').2]) ∧ Below W0.heap.size W0 w' from
      fun W hW => (iFloatOf s' a' xs' c' x' W B (IX.out W hW).2.2.1 (IX.out W hW).2.1 hl' (IX.out W hW).2.2.2).mono fun e w' ⟨he, hb⟩ => ⟨he, hW.trans (hb.mono hW.size)⟩)
    obtain ⟨⟨f1, c1⟩, hf1⟩ : ∃ f, flR s xs x = f := ⟨_, rfl⟩
    obtain ⟨⟨f2, c2⟩, hf2⟩ : ∃ f, flR s' xs' x' = f := ⟨_, rfl⟩
    rw [hf1] at HF1 ⊢
    rw [hf2] at HF2 ⊢
    unfold nbP
    clear p1 p3 p4 hv hl hl' hx hx' hTab hf1 hf2
    by_cases z1 : c1 = 0
    · subst z1
      rw [if_pos rfl]
      by_cases z2 : c2 = 0
      · subst z2
        rw [if_pos rfl]
        go_enter Tryz.func12, Tryz.ntmps12
        go_wp2_with fail
        clear hW0
        refine (HI.out _ hT).mono ?_
        rintro e w1 ⟨rfl, hb⟩
        clear k1 k2 k3 k4 k5 k6
        obtain ⟨k1, k2, k3, k4, k5, k6⟩ := SS.out _ hb
        go_wp2_with fail
        refine (HF1.out _ hb).mono ?_
        rintro e w2 ⟨rfl, hb2⟩
        clear k1 k2 k3 k4 k5 k6
        obtain ⟨k1, k2, k3, k4, k5, k6⟩ := SS.out _ hb2
        go_wp2_with fail
        refine (HF2.out _ hb2).mono ?_
        rintro e w3 ⟨rfl, hb3⟩
        go_wp2_with fail
        go_ret2
        exact ⟨rfl, HBE.out _ hb3⟩
      · rw [if_neg z2]
        go_enter Tryz.func12, Tryz.ntmps12
        go_wp2_with fail
        clear hW0
        refine (HI.out _ hT).mono ?_
        rintro e w1 ⟨rfl, hb⟩
        clear k1 k2 k3 k4 k5 k6
        obtain ⟨k1, k2, k3, k4, k5, k6⟩ := SS.out _ hb
        go_wp2_with fail
        refine (HF1.out _ hb).mono ?_
        rintro e w2 ⟨rfl, hb2⟩
        clear k1 k2 k3 k4 k5 k6
        obtain ⟨k1, k2, k3, k4, k5, k6⟩ := SS.out _ hb2
        have hz : (c2 != 0) = true := by simpa using z2
        go_wp2_with fail
        refine (HF2.out _ hb2).mono ?_
        rintro e w3 ⟨rfl, hb3⟩
        go_wp2_with fail
        go_ret2
        exact ⟨rfl, HBE.out _ hb3⟩
    · rw [if_neg z1]
      have hz : (c1 != 0) = true := by simpa using z1
      go_enter Tryz.func12, Tryz.ntmps12
      go_wp2_with fail
      clear hW0
      refine (HI.out _ hT).mono ?_
      rintro e w1 ⟨rfl, hb⟩
      clear k1 k2 k3 k4 k5 k6
      obtain ⟨k1, k2, k3, k4, k5, k6⟩ := SS.out _ hb
      go_wp2_with fail
      refine (HF1.out _ hb).mono ?_
      rintro e w2 ⟨rfl, hb2⟩
      go_wp2_with fail
      go_ret2
      exact ⟨rfl, HBE.out _ hb2⟩

def fitC (a b : Nat) : Nat × Nat × Int := if (isF .f64 a && isF .f64 b) = true then (a, b, 0) else (0, 0, 3)
set_option maxHeartbeats 400000 in
theorem sFitC (a b : Nat) (w : World) : Calls Tryz.prog 87 #[.complex .f64 a b] w fun e w' => ∃ n, e = .returned (.tuple #[.complex .f64 (fitC a b).1 (fitC a b).2.1, .int .i64 (fitC a b).2.2]) ∧ w' = w.drewN n := by
  have H := Lib.hid fun W => sFinite_any a b W
  unfold fitC
  obtain ⟨v, hv⟩ : ∃ v, (isF .f64 a && isF .f64 b) = v := ⟨_, rfl⟩
  rw [hv] at H ⊢
  clear hv
  cases v
  · rw [if_neg (by decide)]
    go_enter Tryz.func87, Tryz.ntmps87
    go_wp2_with (go_at_call 100; refine (H.out _).mono ?_; rintro e w' ⟨n, rfl, rfl⟩)
    go_ret2
    exact ⟨_, rfl, rfl⟩
  · rw [if_pos rfl]
    go_enter Tryz.func87, Tryz.ntmps87
    go_wp2_with (go_at_call 100; refine (H.out _).mono ?_; rintro e w' ⟨n, rfl, rfl⟩)
    go_ret2
    exact ⟨_, rfl, rfl⟩
theorem nbP_fit (s : Int) (m : Nat) (x s' : Int) (m' : Nat) (x' : Int) : fitC (fw (decide (s < 0)) m x) (fw (decide (s' < 0)) m' x') = nbP (flt s m x) (flt s' m' x') := by
  unfold fitC nbP flt
  rw [isF_rung, isF_rung]
  by_cases h : rawRung f64 m x < 0x7ff0000000000000
  · by_cases h' : rawRung f64 m' x' < 0x7ff0000000000000
    · rw [if_pos h, if_pos h', decide_eq_true h, decide_eq_true h']; rfl
    · rw [if_pos h, if_neg h', decide_eq_true h, decide_eq_false h']; rfl
  · rw [if_neg h, decide_eq_false h]
    by_cases h' : rawRung f64 m' x' < 0x7ff0000000000000
    · rw [if_pos h']; rfl
    · rw [if_neg h']; rfl

set_option maxRecDepth 100000 in
set_option maxHeartbeats 4000000 in
theorem sNumberOf (s : Int) (a : Option Addr) (xs : List Int) (c : Nat) (x : Int) (s' : Int) (a' : Option Addr) (xs' : List Int) (c' : Nat) (x' : Int) (w : World) (B : Nat) (hB : B ≤ w.heap.size) (hx : Ints w B a xs) (hx' : Ints w B a' xs') (hl : xs.length ≤ 9223372036854775807) (hl' : xs'.length ≤ 9223372036854775807) (hc : xs.length ≤ c) (hc' : xs'.length ≤ c') :
    Calls Tryz.prog 22 #[.agg #[.int .i64 s, .slice a xs.length c, .int .i64 x, .int .i64 s', .slice a' xs'.length c', .int .i64 x']] w (RetB (.tuple #[.complex .f64 (nbR s xs x s' xs' x').1 (nbR s xs x s' xs' x').2.1, .int .i64 (nbR s xs x s' xs' x').2.2]) w) := by
  obtain ⟨W0, hW0⟩ : ∃ W0 : World, w.alloc (.cells #[.int .i64 s, .slice a xs.length c, .int .i64 x, .int .i64 s', .slice a' xs'.length c', .int .i64 x'] 33) = W0 := ⟨_, rfl⟩
  obtain ⟨p1, p3, p4⟩ := one_box w 33 #[.int .i64 s, .slice a xs.length c, .int .i64 x, .int .i64 s', .slice a' xs'.length c', .int .i64 x']
  rw [hW0] at p1 p3 p4
  have SS := Lib.hid (show ∀ W, Below W0.heap.size W0 W → (W.cell? ⟨w.heap.size, 0, none⟩ = some (.int .i64 s) ∧ W.cell? ⟨w.heap.size, 1, none⟩ = some (.slice a xs.length c) ∧ W.cell? ⟨w.heap.size, 2, none⟩ = some (.int .i64 x) ∧ W.cell? ⟨w.heap.size, 3, none⟩ = some (.int .i64 s') ∧ W.cell? ⟨w.heap.size, 4, none⟩ = some (.slice a' xs'.length c') ∧ W.cell? ⟨w.heap.size, 5, none⟩ = some (.int .i64 x')) from fun W hW => (p1.below hW).six)
  have hT : Below W0.heap.size W0 W0 := Below.refl _ _
  have HBE := Lib.hid (show ∀ W, Below W0.heap.size W0 W → Below w.heap.size w W from fun W hW => p3.trans (hW.mono (by omega)))
  have IX := Lib.hid (show ∀ W, Below W0.heap.size W0 W → Ints W B a xs ∧ Ints W B a' xs' ∧ B ≤ W.heap.size from fun W hW => ⟨hx.below ((p3.mono hB).trans (hW.mono (by omega))), hx'.below ((p3.mono hB).trans (hW.mono (by omega))), by have := hW.size; omega⟩)
  have HI := Lib.hid (show ∀ W, Below W0.heap.size W0 W → Calls Tryz.prog 76 #[.agg #[.int .i64 s, .slice a xs.length c, .int .i64 x, .int .i64 s', .slice a' xs'.length c', .int .i64 x']] W fun e w' => e = .returned (.bool (dyB s xs x && dyB s' xs' x')) ∧ Below W0.heap.size W0 w' from
    fun W hW => (sPairE s a xs c x s' a' xs' c' x' W B (IX.out W hW).2.2 hl hl' (IX.out W hW).1 (IX.out W hW).2.1).mono fun e w' ⟨he, hb⟩ => ⟨he, hW.trans (hb.mono hW.size)⟩)
  obtain ⟨k1, k2, k3, k4, k5, k6⟩ := SS.out _ hT
  obtain ⟨v, hv⟩ : ∃ v, (dyB s xs x && dyB s' xs' x') = v := ⟨_, rfl⟩
  unfold nbR
  rw [hv] at HI ⊢
  cases v
  · rw [if_neg (by decide)]
    clear p1 p3 p4 hv hl hl' hx hx' hc hc'
    go_enter Tryz.func22, Tryz.ntmps22
    go_wp2_with fail
    clear hW0
    refine (HI.out _ hT).mono ?_
    rintro e w1 ⟨rfl, hb⟩
    go_wp2_with fail
    go_ret2
    exact ⟨rfl, HBE.out _ hb⟩
  · rw [if_pos rfl]
    rw [Bool.and_eq_true] at hv
    obtain ⟨m, rfl, hm, sm, hx1, hx2⟩ := isDy_of (dyB_iff.1 hv.1)
    obtain ⟨m', rfl, hm', sm', hx1', hx2'⟩ := isDy_of (dyB_iff.1 hv.2)
    rw [flR_yes hv.1, flR_yes hv.2, ← nbP_fit]
    have HR1 := Lib.hid (show ∀ W, Below W0.heap.size W0 W → Calls Tryz.prog 88 #[.agg #[.int .i64 s, .slice a (lim m).length c, .int .i64 x], .int .i64 53, .int .i64 (-1074)] W fun e w' => e = .returned (.float .f64 (fw (decide (s < 0)) m x)) ∧ Below W0.heap.size W0 w' from
      fun W hW => (sRound s a m c x W B (IX.out W hW).2.2 (IX.out W hW).1 hc (dyB_iff.1 hv.1) hm sm).mono fun e w' ⟨he, hb⟩ => ⟨he, hW.trans (hb.mono hW.size)⟩)
    have HR2 := Lib.hid (show ∀ W, Below W0.heap.size W0 W → Calls Tryz.prog 88 #[.agg #[.int .i64 s', .slice a' (lim m').length c', .int .i64 x'], .int .i64 53, .int .i64 (-1074)] W fun e w' => e = .returned (.float .f64 (fw (decide (s' < 0)) m' x')) ∧ Below W0.heap.size W0 w' from
      fun W hW => (sRound s' a' m' c' x' W B (IX.out W hW).2.2 (IX.out W hW).2.1 hc' (dyB_iff.1 hv.2) hm' sm').mono fun e w' ⟨he, hb⟩ => ⟨he, hW.trans (hb.mono hW.size)⟩)
    obtain ⟨f1, hf1⟩ : ∃ f, fw (decide (s < 0)) m x = f := ⟨_, rfl⟩
    obtain ⟨f2, hf2⟩ : ∃ f, fw (decide (s' < 0)) m' x' = f := ⟨_, rfl⟩
    rw [hf1] at HR1 ⊢
    rw [hf2] at HR2 ⊢
    have HF := Lib.hid fun W => sFitC f1 f2 W
    obtain ⟨⟨g1, g2, g3⟩, hg⟩ : ∃ g, fitC f1 f2 = g := ⟨_, rfl⟩
    rw [hg] at HF ⊢
    clear p1 p3 p4 hv hl hl' hx hx' hc hc' hf1 hf2 hg sm sm' hm hm'
    go_enter Tryz.func22, Tryz.ntmps22
    go_wp2_with fail
    clear hW0
    refine (HI.out _ hT).mono ?_
    rintro e w1 ⟨rfl, hb⟩
    clear k1 k2 k3 k4 k5 k6
    obtain ⟨k1, k2, k3, k4, k5, k6⟩ := SS.out _ hb
    have hbd := hb.drew
    go_wp2_with fail
    go_region_held3 (fun W => W.cell? ⟨w.heap.size, 0, none⟩ = some (.int .i64 s) ∧ W.cell? ⟨w.heap.size, 1, none⟩ = some (.slice a (lim m).length c) ∧ W.cell? ⟨w.heap.size, 2, none⟩ = some (.int .i64 x) ∧ W.cell? ⟨w.heap.size, 3, none⟩ = some (.int .i64 s') ∧ W.cell? ⟨w.heap.size, 4, none⟩ = some (.slice a' (lim m').length c') ∧ W.cell? ⟨w.heap.size, 5, none⟩ = some (.int .i64 x'))
      (first | exact SS.out _ (by assumption) | exact SS.out _ (below_drewN (by assumption) _))
      (first
      | (go_at_call 88; with_reducible refine (HR1.out _ (by assumption)).mono ?_; rintro e w2 ⟨rfl, hb2⟩)
      | (go_at_call 88; with_reducible refine (HR2.out _ (by assumption)).mono ?_; rintro e w3 ⟨rfl, hb3⟩)
      | (go_at_call 87; refine (HF.out _).mono ?_; rintro e w4 ⟨n, rfl, rfl⟩))
    all_goals
      go_wp2_with fail
      go_ret2
      first
      | exact ⟨rfl, HBE.out _ (below_drewN hb3 _)⟩
      | exact ⟨rfl, HBE.out _ (below_drewN hb2 _)⟩

theorem nbR_fin (s : Int) (xs : List Int) (x s' : Int) (xs' : List Int) (x' : Int) : isF .f64 (nbR s xs x s' xs' x').1 = true ∧ isF .f64 (nbR s xs x s' xs' x').2.1 = true := by
  unfold nbR
  split
  · unfold nbP
    split
    · split
      · exact ⟨flR_fin _ _ _, flR_fin _ _ _⟩
      · exact ⟨isF_zero, isF_zero⟩
    · exact ⟨isF_zero, isF_zero⟩
  · exact ⟨isF_zero, isF_zero⟩

end Go.Proofs.YtnnbfoemmgddeaaGreatDoor
