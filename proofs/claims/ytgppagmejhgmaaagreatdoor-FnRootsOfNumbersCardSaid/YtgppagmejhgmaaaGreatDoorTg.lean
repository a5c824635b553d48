/-
  Contracts: CompareWholes of the program and of the model. Conditions: the limbs can be read.
-/
import Derived.Test.YtgppagmejhgmaaaGreatDoorLx
namespace Go.Proofs.YtgppagmejhgmaaaGreatDoor
set_option linter.unusedVariables false
open Go Go.RowKit

noncomputable def cmpR (s : Int) (xs : List Int) (t : Int) (ys : List Int) : Int × Int := @ite _ (IsWh s xs ∧ IsWh t ys) (Classical.propDecidable _) (cmpZ (wv s xs) (wv t ys), 0) (0, 1)
theorem cmpR_yes {s : Int} {xs : List Int} {t : Int} {ys : List Int} (h : IsWh s xs) (k : IsWh t ys) : cmpR s xs t ys = (cmpZ (wv s xs) (wv t ys), 0) := by unfold cmpR; rw [if_pos ⟨h, k⟩]
theorem cmpR_no {s : Int} {xs : List Int} {t : Int} {ys : List Int} (h : ¬ (IsWh s xs ∧ IsWh t ys)) : cmpR s xs t ys = (0, 1) := by unfold cmpR; rw [if_neg h]
def pairI (r : Int × Int) : Value := .tuple #[.int .i64 r.1, .int .i64 r.2]

set_option maxHeartbeats 1000000 in
theorem sCompare (s t : Int) (a b : Option Addr) (m n c1 c2 : Nat) (w : World) (B C : Nat) (hB : B ≤ w.heap.size) (hC : C ≤ w.heap.size) (hx : Ints w B a (lim m)) (hy : Ints w C b (lim n)) (hs : Sg s m) (ht : Sg t n)
    (hl : (lim m).length ≤ 1048576) (hl' : (lim n).length ≤ 1048576) :
    Calls Tryz.prog 81 #[.agg #[.int .i64 s, .slice a (lim m).length c1], .agg #[.int .i64 t, .slice b (lim n).length c2]] w (RetB (.int .i64 (cmpZ (s * m) (t * n))) w) := by
  obtain ⟨W0, hW0⟩ : ∃ W0 : World, (w.alloc (.cells #[.int .i64 s, .slice a (lim m).length c1] 60)).alloc (.cells #[.int .i64 t, .slice b (lim n).length c2] 60) = W0 := ⟨_, rfl⟩
  obtain ⟨p1, p2, p3, p4⟩ := two_box w 60 #[.int .i64 s, .slice a (lim m).length c1] #[.int .i64 t, .slice b (lim n).length c2]
  rw [hW0] at p1 p2 p3 p4
  have HW0 := Lib.hid hW0
  have P3 := Lib.hid p3
  have P4 := Lib.hid p4
  have SS := Lib.hid (show ∀ W, Below W0.heap.size W0 W → (W.cell? ⟨w.heap.size, 0, none⟩ = some (.int .i64 s) ∧ W.cell? ⟨w.heap.size, 1, none⟩ = some (.slice a (lim m).length c1) ∧ W.cell? ⟨w.heap.size + 1, 0, none⟩ = some (.int .i64 t) ∧ W.cell? ⟨w.heap.size + 1, 1, none⟩ = some (.slice b (lim n).length c2)) from
    fun W hW => ⟨(p1.below hW).cell 0, (p1.below hW).cell 1, (p2.below hW).cell 0, (p2.below hW).cell 1⟩)
  have IX := Lib.hid (show ∀ W, Below W0.heap.size W0 W → Ints W B a (lim m) ∧ Ints W C b (lim n) ∧ B ≤ W.heap.size ∧ C ≤ W.heap.size from fun W hW => ⟨hx.below ((p3.mono hB).trans (hW.mono (by omega))), hy.below ((p3.mono hC).trans (hW.mono (by omega))), by have := hW.size; omega, by have := hW.size; omega⟩)
  have hT : Below W0.heap.size W0 W0 := Below.refl _ _
  have hT' : Below W0.heap.size W0 W0.drew := hT.drew
  have HEND := Lib.hid (show ∀ v W, Below W0.heap.size W0 W → RetB v w (.returned v) W from fun v W hW => ⟨rfl, P3.out.trans (hW.mono (by omega))⟩)
  by_cases hne : s = t
  · subst hne
    have hz : (s != s) = false := by simp
    have hb1 : -1 ≤ cmpZ m n ∧ cmpZ m n ≤ 1 := by unfold cmpZ; repeat' split <;> omega
    have hb2 : -1 ≤ s ∧ s ≤ 1 := by unfold Sg at hs; omega
    rw [← sg_cmp_eq hs ht]
    have HC := Lib.hid (show ∀ W, Below W0.heap.size W0 W → Calls Tryz.prog 104 #[.slice a (lim m).length c1, .slice b (lim n).length c2] W fun e w' => e = .returned (.int .i64 (cmpZ m n)) ∧ Below W0.heap.size W0 w' from
      fun W hW => (sCompareLimbs a b m n c1 c2 W B C (IX.out W hW).1 (IX.out W hW).2.1 (by omega) (by omega)).mono fun e w' ⟨k, he, hb⟩ => ⟨he, by rw [hb]; exact below_drewN hW k⟩)
    clear p1 p2 p3 p4 hx hy hs ht hl hl' hW0 hB hC
    obtain ⟨q, hq⟩ : ∃ q, q = cmpZ m n := ⟨_, rfl⟩
    rw [← hq] at HC hb1 ⊢
    clear hq
    obtain ⟨hb1, hb1'⟩ := hb1
    obtain ⟨hb2, hb2'⟩ := hb2
    have hmul : -1 ≤ s * q ∧ s * q ≤ 1 := by
      have h1 : s = -1 ∨ s = 0 ∨ s = 1 := by omega
      rcases h1 with rfl | rfl | rfl <;> omega
    obtain ⟨hm1, hm2⟩ := hmul
    have HWR := Lib.hid (show IntKind.i64.wrap (s * q) = s * q by rw [IntKind.wrap_i64]; omega)
    have HEN2 := Lib.hid (show ∀ W, Below W0.heap.size W0 W → RetB (.int .i64 (s * q)) w (.returned (.int .i64 (IntKind.i64.wrap (s * q)))) W from fun W hW => by
      rw [HWR.out]
      exact HEND.out _ _ hW)
    go_enter Tryz.func81, Tryz.ntmps81
    go_wp2_with fail
    rw [HW0.out]
    go_region_held3 (fun W => W.cell? ⟨w.heap.size, 0, none⟩ = some (.int .i64 s) ∧ W.cell? ⟨w.heap.size, 1, none⟩ = some (.slice a (lim m).length c1) ∧ W.cell? ⟨w.heap.size + 1, 0, none⟩ = some (.int .i64 s) ∧ W.cell? ⟨w.heap.size + 1, 1, none⟩ = some (.slice b (lim n).length c2))
      (exact SS.out _ (by assumption))
      (first
      | (go_at_call 104; refine (HC.out _ (by assumption)).mono ?_; rintro e w' ⟨rfl, hb⟩))
    go_wp2_with fail
    go_ret
    exact HEN2.out _ (by assumption)
  · have hz : (s != t) = true := by simpa using hne
    rw [← sg_cmp_ne hs ht hne]
    by_cases hlt : s < t
    · rw [cmpZ_lt hlt]
      clear p1 p2 p3 p4 hx hy hs ht hne hl hl' SS IX hT hT' HEND hW0 HW0
      go_enter Tryz.func81, Tryz.ntmps81
      go_wp2_with fail
      go_ret
      exact ⟨rfl, (by repeat (first | exact Below.refl _ _ | assumption | refine Below.alloc ?_ (by simp <;> omega) _ | refine Below.setCell ?_ (by simp <;> omega) _ | refine below_drewN ?_ _))⟩
    · rw [cmpZ_gt (by omega)]
      have hd : decide (s < t) = false := decide_eq_false hlt
      clear p1 p2 p3 p4 hx hy hs ht hne hl hl' SS IX hT hT' HEND hW0 HW0
      go_enter Tryz.func81, Tryz.ntmps81
      go_wp2_with fail
      go_ret
      exact ⟨rfl, (by repeat (first | exact Below.refl _ _ | assumption | refine Below.alloc ?_ (by simp <;> omega) _ | refine Below.setCell ?_ (by simp <;> omega) _ | refine below_drewN ?_ _))⟩

end Go.Proofs.YtgppagmejhgmaaaGreatDoor
