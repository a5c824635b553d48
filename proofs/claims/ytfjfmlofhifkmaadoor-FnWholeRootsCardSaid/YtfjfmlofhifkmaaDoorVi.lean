/-
  Contracts: TwosIn of the program and of the model. Conditions: the limbs can be read; the library's table is as its initialiser lays it.
-/
import Derived.Test.YtfjfmlofhifkmaaDoorRd
namespace Go.Proofs.YtfjfmlofhifkmaaDoor
set_option linter.unusedVariables false
open Go Go.RowKit

noncomputable def twR (s : Int) (xs : List Int) : Int × Int := @ite _ (IsWh s xs) (Classical.propDecidable _) (if s = 0 then (0, 5) else ((tw (val (xs.map Int.toNat)) : Int), 0)) (0, 1)
theorem twR_yes {s : Int} {xs : List Int} (h : IsWh s xs) (h0 : s ≠ 0) : twR s xs = ((tw (val (xs.map Int.toNat)) : Int), 0) := by unfold twR; rw [if_pos h, if_neg h0]
theorem twR_zero {s : Int} {xs : List Int} (h : IsWh s xs) (h0 : s = 0) : twR s xs = (0, 5) := by unfold twR; rw [if_pos h, if_pos h0]
theorem twR_no {s : Int} {xs : List Int} (h : ¬ IsWh s xs) : twR s xs = (0, 1) := by unfold twR; rw [if_neg h]

set_option maxHeartbeats 2000000 in
theorem iTwosIn (s : Int) (a : Option Addr) (xs : List Int) (c1 : Nat) (w : World) (B : Nat) (hB : B ≤ w.heap.size) (hx : Ints w B a xs) (hl : xs.length ≤ 9223372036854775807) (hT : Tab w) :
    Calls Tryd.prog 26 #[.agg #[.int .i64 s, .slice a xs.length c1]] w (RetB (.tuple #[.int .i64 (twR s xs).1, .int .i64 (twR s xs).2]) w) := by
  obtain ⟨W0, hW0⟩ : ∃ W0 : World, w.alloc (.cells #[.int .i64 s, .slice a xs.length c1] 26) = W0 := ⟨_, rfl⟩
  obtain ⟨p1, p3, p4⟩ := one_box w 26 #[.int .i64 s, .slice a xs.length c1]
  rw [hW0] at p1 p3 p4
  have HW0 := Lib.hid hW0
  have P3 := Lib.hid p3
  have P4 := Lib.hid p4
  have HTB := Lib.hid (show ∀ W, Below W0.heap.size W0 W → Tab W from fun W hW => (hT.below p3).below hW)
  have SS := Lib.hid (show ∀ W, Below W0.heap.size W0 W → (W.cell? ⟨w.heap.size, 0, none⟩ = some (.int .i64 s) ∧ W.cell? ⟨w.heap.size, 1, none⟩ = some (.slice a xs.length c1)) from
    fun W hW => ⟨(p1.below hW).cell 0, (p1.below hW).cell 1⟩)
  have IX := Lib.hid (show ∀ W, Below W0.heap.size W0 W → Ints W B a xs ∧ B ≤ W.heap.size from fun W hW => ⟨hx.below ((p3.mono hB).trans (hW.mono (by omega))), by have := hW.size; omega⟩)
  have hT' : Below W0.heap.size W0 W0 := Below.refl _ _
  have HEND := Lib.hid (show ∀ v W, Below W0.heap.size W0 W → RetB v w (.returned v) W from fun v W hW => ⟨rfl, P3.out.trans (hW.mono (by omega))⟩)
  have HI1 := Lib.hid (show ∀ W, Below W0.heap.size W0 W → Calls Tryd.prog 55 #[.agg #[.int .i64 s, .slice a xs.length c1]] W fun e w' => e = .returned (.bool (whB s xs)) ∧ Below W0.heap.size W0 w' from
    fun W hW => (iIsWhole s a xs c1 W B (IX.out W hW).2 hl (IX.out W hW).1).mono fun e w' ⟨he, hb⟩ => ⟨he, hW.trans (hb.mono hW.size)⟩)
  clear hT
  cases h1 : whB s xs
  · rw [twR_no (fun h => by rw [whB_iff.2 h] at h1; cases h1)]
    rw [h1] at HI1
    clear p1 p3 p4 hx hW0 hB h1 hl IX
    go_enter Tryd.func26, Tryd.ntmps26
    go_wp2_with fail
    rw [HW0.out]
    refine (HI1.out _ hT').mono ?_
    rintro e w1 ⟨rfl, hb⟩
    obtain ⟨k1, k2⟩ := SS.out _ hb
    go_wp2_with fail
    go_ret2
    exact HEND.out _ _ hb
  · have e1 := Lib.hid (whB_iff.1 h1)
    rw [h1] at HI1
    clear h1
    by_cases hs : s = 0
    · rw [twR_zero e1.out hs]
      subst hs
      clear p1 p3 p4 hx hW0 hB hl IX e1
      go_enter Tryd.func26, Tryd.ntmps26
      go_wp2_with fail
      rw [HW0.out]
      refine (HI1.out _ hT').mono ?_
      rintro e w1 ⟨rfl, hb⟩
      obtain ⟨k1, k2⟩ := SS.out _ hb
      go_wp2_with fail
      go_ret2
      exact HEND.out _ _ hb
    · rw [twR_yes e1.out hs]
      obtain ⟨m, rfl, hm, sm⟩ := isWh_of e1.out
      rw [val_lim]
      have hsb : (s == 0) = false := by simpa using hs
      have HS := Lib.hid (show ∀ W, Below W0.heap.size W0 W → Calls Tryd.prog 57 #[.agg #[.int .i64 s, .slice a (lim m).length c1]] W fun e w' => e = .returned (.slice a (lim m).length c1) ∧ Below W0.heap.size W0 w' from
        fun W hW => (iSize s a _ c1 W).mono fun e w' ⟨he, hb⟩ => ⟨he, hW.trans (hb.mono hW.size)⟩)
      have HP := Lib.hid (show ∀ W, Below W0.heap.size W0 W → Calls Tryd.prog 78 #[.slice a (lim m).length c1] W fun e w' => e = .returned (.int .i64 (tw m : Int)) ∧ W = w' from
        fun W hW => iTwos a m c1 W B (IX.out W hW).1 (by omega) (HTB.out W hW))
      obtain ⟨q, hq⟩ : ∃ q : Int, q = (tw m : Int) := ⟨_, rfl⟩
      rw [← hq] at HP ⊢
      clear p1 p3 p4 hx hW0 hB hl IX sm hm e1 hq hs
      go_enter Tryd.func26, Tryd.ntmps26
      go_wp2_with fail
      rw [HW0.out]
      refine (HI1.out _ hT').mono ?_
      rintro e w1 ⟨rfl, hb⟩
      obtain ⟨k1, k2⟩ := SS.out _ hb
      go_wp2_with fail
      refine (HS.out _ hb).mono ?_
      rintro e w2 ⟨rfl, hb2⟩
      go_wp2_with fail
      refine (HP.out _ hb2).mono ?_
      rintro e w3 ⟨rfl, rfl⟩
      go_wp2_with fail
      go_ret2
      exact HEND.out _ _ hb2

set_option maxHeartbeats 2000000 in
theorem sTwosIn (s : Int) (a : Option Addr) (xs : List Int) (c1 : Nat) (w : World) (B : Nat) (hB : B ≤ w.heap.size) (hx : Ints w B a xs) (hl : xs.length ≤ 9223372036854775807) :
    Calls Tryd.prog 27 #[.agg #[.int .i64 s, .slice a xs.length c1]] w (RetB (.tuple #[.int .i64 (twR s xs).1, .int .i64 (twR s xs).2]) w) := by
  obtain ⟨W0, hW0⟩ : ∃ W0 : World, w.alloc (.cells #[.int .i64 s, .slice a xs.length c1] 26) = W0 := ⟨_, rfl⟩
  obtain ⟨p1, p3, p4⟩ := one_box w 26 #[.int .i64 s, .slice a xs.length c1]
  rw [hW0] at p1 p3 p4
  have HW0 := Lib.hid hW0
  have P3 := Lib.hid p3
  have P4 := Lib.hid p4
  have SS := Lib.hid (show ∀ W, Below W0.heap.size W0 W → (W.cell? ⟨w.heap.size, 0, none⟩ = some (.int .i64 s) ∧ W.cell? ⟨w.heap.size, 1, none⟩ = some (.slice a xs.length c1)) from
    fun W hW => ⟨(p1.below hW).cell 0, (p1.below hW).cell 1⟩)
  have IX := Lib.hid (show ∀ W, Below W0.heap.size W0 W → Ints W B a xs ∧ B ≤ W.heap.size from fun W hW => ⟨hx.below ((p3.mono hB).trans (hW.mono (by omega))), by have := hW.size; omega⟩)
  have hT' : Below W0.heap.size W0 W0 := Below.refl _ _
  have HEND := Lib.hid (show ∀ v W, Below W0.heap.size W0 W → RetB v w (.returned v) W from fun v W hW => ⟨rfl, P3.out.trans (hW.mono (by omega))⟩)
  have HI1 := Lib.hid (show ∀ W, Below W0.heap.size W0 W → Calls Tryd.prog 50 #[.agg #[.int .i64 s, .slice a xs.length c1]] W fun e w' => e = .returned (.bool (whB s xs)) ∧ Below W0.heap.size W0 w' from
    fun W hW => (sIs s a xs c1 W B (IX.out W hW).2 hl (IX.out W hW).1).mono fun e w' ⟨he, hb⟩ => ⟨he, hW.trans (hb.mono hW.size)⟩)
  cases h1 : whB s xs
  · rw [twR_no (fun h => by rw [whB_iff.2 h] at h1; cases h1)]
    rw [h1] at HI1
    clear p1 p3 p4 hx hW0 hB h1 hl IX
    go_enter Tryd.func27, Tryd.ntmps27
    go_wp2_with fail
    rw [HW0.out]
    refine (HI1.out _ hT').mono ?_
    rintro e w1 ⟨rfl, hb⟩
    obtain ⟨k1, k2⟩ := SS.out _ hb
    go_wp2_with fail
    go_ret2
    exact HEND.out _ _ hb
  · have e1 := Lib.hid (whB_iff.1 h1)
    rw [h1] at HI1
    clear h1
    by_cases hs : s = 0
    · rw [twR_zero e1.out hs]
      subst hs
      clear p1 p3 p4 hx hW0 hB hl IX e1
      go_enter Tryd.func27, Tryd.ntmps27
      go_wp2_with fail
      rw [HW0.out]
      refine (HI1.out _ hT').mono ?_
      rintro e w1 ⟨rfl, hb⟩
      obtain ⟨k1, k2⟩ := SS.out _ hb
      go_wp2_with fail
      go_ret2
      exact HEND.out _ _ hb
    · rw [twR_yes e1.out hs]
      obtain ⟨m, rfl, hm, sm⟩ := isWh_of e1.out
      rw [val_lim]
      have hsb : (s == 0) = false := by simpa using hs
      have hm0 : m ≠ 0 := (sgn_ne e1.out).1 hs
      have HP := Lib.hid (show ∀ W, Below W0.heap.size W0 W → Calls Tryd.prog 79 #[.agg #[.int .i64 s, .slice a (lim m).length c1]] W fun e w' => e = .returned (.int .i64 (tw m : Int)) ∧ Below W0.heap.size W0 w' from
        fun W hW => (sTwos s a m c1 W B (IX.out W hW).2 (IX.out W hW).1 (by omega) hm0).mono fun e w' ⟨he, hb⟩ => ⟨he, hW.trans (hb.mono hW.size)⟩)
      obtain ⟨q, hq⟩ : ∃ q : Int, q = (tw m : Int) := ⟨_, rfl⟩
      rw [← hq] at HP ⊢
      clear p1 p3 p4 hx hW0 hB hl IX sm hm e1 hq hs hm0
      go_enter Tryd.func27, Tryd.ntmps27
      go_wp2_with fail
      rw [HW0.out]
      refine (HI1.out _ hT').mono ?_
      rintro e w1 ⟨rfl, hb⟩
      obtain ⟨k1, k2⟩ := SS.out _ hb
      go_wp2_with fail
      refine (HP.out _ hb).mono ?_
      rintro e w3 ⟨rfl, hb3⟩
      go_wp2_with fail
      go_ret2
      exact HEND.out _ _ hb3
end Go.Proofs.YtfjfmlofhifkmaaDoor
