/-
  Contracts: IsDyadic of the program and of the model. Conditions: the limbs can be read.
-/
import Derived.Test.YtnnbfoemmgddeaaDoorOc
namespace Go.Proofs.YtnnbfoemmgddeaaDoor
set_option linter.unusedVariables false
open Go Go.RowKit

theorem dy_odd {s x : Int} {n : Nat} (h : IsWh s (lim n)) (h1 : -5000 ≤ x) (h2 : x ≤ 5000) (hs : s ≠ 0) : dyB s (lim n) x = decide (n % 2 = 1) := by
  by_cases ho : n % 2 = 1
  · rw [decide_eq_true ho]
    refine dyB_yes ⟨h, h1, h2, .inr ⟨hs, ?_⟩⟩
    rw [lim_getD]
    omega
  · rw [decide_eq_false ho]
    refine dyB_no fun hd => ?_
    rcases hd.2.2.2 with ⟨h0, _⟩ | ⟨_, h0⟩
    · exact hs h0
    · rw [lim_getD] at h0
      omega

set_option maxRecDepth 100000 in
set_option maxHeartbeats 2000000 in
theorem iIsDyadic (s : Int) (a : Option Addr) (xs : List Int) (c1 : Nat) (x : Int) (w : World) (B : Nat) (hB : B ≤ w.heap.size) (hl : xs.length ≤ 9223372036854775807) (hx : Ints w B a xs) :
    Calls Tryd.prog 28 #[.agg #[.int .i64 s, .slice a xs.length c1, .int .i64 x]] w (RetB (.bool (dyB s xs x)) w) := by
  obtain ⟨W0, hW0⟩ : ∃ W0 : World, w.alloc (.cells #[.int .i64 s, .slice a xs.length c1, .int .i64 x] 30) = W0 := ⟨_, rfl⟩
  obtain ⟨p1, p3, p4⟩ := one_box w 30 #[.int .i64 s, .slice a xs.length c1, .int .i64 x]
  rw [hW0] at p1 p3 p4
  have HW0 := Lib.hid hW0
  have P3 := Lib.hid p3
  have P4 := Lib.hid p4
  have SS := Lib.hid (show ∀ W, Below W0.heap.size W0 W → (W.cell? ⟨w.heap.size, 0, none⟩ = some (.int .i64 s) ∧ W.cell? ⟨w.heap.size, 1, none⟩ = some (.slice a xs.length c1) ∧ W.cell? ⟨w.heap.size, 2, none⟩ = some (.int .i64 x)) from
    fun W hW => (p1.below hW).tri)
  have IX := Lib.hid (show ∀ W, Below W0.heap.size W0 W → Ints W B a xs ∧ B ≤ W.heap.size from fun W hW => ⟨hx.below ((p3.mono hB).trans (hW.mono (by omega))), by have := hW.size; omega⟩)
  have hT : Below W0.heap.size W0 W0 := Below.refl _ _
  have HEND := Lib.hid (show ∀ v W, Below W0.heap.size W0 W → RetB v w (.returned v) W from fun v W hW => ⟨rfl, P3.out.trans (hW.mono (by omega))⟩)
  have HI1 := Lib.hid (show ∀ W, Below W0.heap.size W0 W → Calls Tryd.prog 52 #[.agg #[.int .i64 s, .slice a xs.length c1]] W fun e w' => e = .returned (.bool (whB s xs)) ∧ Below W0.heap.size W0 w' from
    fun W hW => (iIsWhole s a xs c1 W B (IX.out W hW).2 hl (IX.out W hW).1).mono fun e w' ⟨he, hb⟩ => ⟨he, hW.trans (hb.mono hW.size)⟩)
  obtain ⟨k1, k2, k3⟩ := SS.out _ hT
  cases h1 : whB s xs
  · rw [dyB_no (fun h => by rw [whB_iff.2 h.1] at h1; cases h1)]
    rw [h1] at HI1
    clear p1 p3 p4 hx hW0 hB h1 hl IX
    go_enter Tryd.func28, Tryd.ntmps28
    go_wp2_with fail
    rw [HW0.out]
    refine (HI1.out _ hT).mono ?_
    rintro e w1 ⟨rfl, hb⟩
    clear k1 k2 k3
    obtain ⟨k1, k2, k3⟩ := SS.out _ hb
    go_wp2_with fail
    go_ret
    exact HEND.out _ _ hb
  · have e1 := Lib.hid (whB_iff.1 h1)
    rw [h1] at HI1
    have HBY := Lib.hid (fun W => iBeyond x 5000 W (by omega) (by omega))
    by_cases hx5 : x < -5000 ∨ 5000 < x
    · rw [dyB_no (fun h => by have := h.2.1; have := h.2.2.1; omega)]
      rw [decide_eq_true hx5] at HBY
      clear p1 p3 p4 hx hW0 hB h1 hl IX hx5
      go_enter Tryd.func28, Tryd.ntmps28
      go_wp2_with fail
      rw [HW0.out]
      refine (HI1.out _ hT).mono ?_
      rintro e w1 ⟨rfl, hb⟩
      clear k1 k2 k3
      obtain ⟨k1, k2, k3⟩ := SS.out _ hb
      go_wp2_with fail
      refine (HBY.out _).mono ?_
      rintro e w2 ⟨rfl, rfl⟩
      go_wp2_with fail
      go_ret
      exact HEND.out _ _ hb
    · rw [decide_eq_false hx5] at HBY
      have hx6 : -5000 ≤ x ∧ x ≤ 5000 := by omega
      have HX6 := Lib.hid hx6
      by_cases hs : s = 0
      · subst hs
        have e : dyB 0 xs x = decide (x = 0) := by
          by_cases h0 : x = 0
          · rw [decide_eq_true h0]; exact dyB_yes ⟨e1.out, hx6.1, hx6.2, .inl ⟨rfl, h0⟩⟩
          · rw [decide_eq_false h0]; exact dyB_no fun h => by rcases h.2.2.2 with ⟨_, h⟩ | ⟨h, _⟩; exact h0 h; exact h rfl
        rw [e]
        clear p1 p3 p4 hx hW0 hB h1 hl IX hx5 hx6 e
        go_enter Tryd.func28, Tryd.ntmps28
        go_wp2_with fail
        rw [HW0.out]
        refine (HI1.out _ hT).mono ?_
        rintro e w1 ⟨rfl, hb⟩
        clear k1 k2 k3
        obtain ⟨k1, k2, k3⟩ := SS.out _ hb
        go_wp2_with fail
        refine (HBY.out _).mono ?_
        rintro e w2 ⟨rfl, rfl⟩
        go_wp2_with fail
        go_ret
        exact HEND.out _ _ hb
      · obtain ⟨n, rfl, hn, sn⟩ := isWh_of e1.out
        rw [dy_odd e1.out hx6.1 hx6.2 hs]
        have hsb : (s == 0) = false := by simpa using hs
        have HS := Lib.hid (show ∀ W, Below W0.heap.size W0 W → Calls Tryd.prog 44 #[.agg #[.int .i64 s, .slice a (lim n).length c1]] W fun e w' => e = .returned (.slice a (lim n).length c1) ∧ Below W0.heap.size W0 w' from
          fun W hW => (iSize s a _ c1 W).mono fun e w' ⟨he, hb⟩ => ⟨he, hW.trans (hb.mono hW.size)⟩)
        have HP := Lib.hid (show ∀ W, Below W0.heap.size W0 W → Calls Tryd.prog 54 #[.slice a (lim n).length c1] W fun e w' => e = .returned (.bool (decide (n % 2 = 1))) ∧ W = w' from
          fun W hW => iOdd a n c1 W B (IX.out W hW).1 (by omega))
        clear p1 p3 p4 hx hW0 hB h1 hl IX hx5 hx6 hs sn hn
        go_enter Tryd.func28, Tryd.ntmps28
        go_wp2_with fail
        rw [HW0.out]
        refine (HI1.out _ hT).mono ?_
        rintro e w1 ⟨rfl, hb⟩
        clear k1 k2 k3
        obtain ⟨k1, k2, k3⟩ := SS.out _ hb
        go_wp2_with fail
        refine (HBY.out _).mono ?_
        rintro e w2 ⟨rfl, rfl⟩
        go_wp2_with fail
        refine (HS.out _ hb).mono ?_
        rintro e w3 ⟨rfl, hb3⟩
        go_wp2_with fail
        refine (HP.out _ hb3).mono ?_
        rintro e w4 ⟨rfl, rfl⟩
        go_wp2_with fail
        go_ret
        exact HEND.out _ _ hb3

end Go.Proofs.YtnnbfoemmgddeaaDoor
