/-
  Contracts: order, sums and differences of whole numbers. Conditions: the limbs can be read.
-/
import Derived.Test.YtfjfmlofhifkmaaDoorMo
namespace Go.Proofs.YtfjfmlofhifkmaaDoor
set_option linter.unusedVariables false
open Go Go.RowKit

theorem two_box (w : World) (t : TypeId) (p q : Array Value) : BoxAt ((w.alloc (.cells p t)).alloc (.cells q t)) w.heap.size t p ∧ BoxAt ((w.alloc (.cells p t)).alloc (.cells q t)) (w.heap.size + 1) t q ∧ Below w.heap.size w ((w.alloc (.cells p t)).alloc (.cells q t)) ∧ ((w.alloc (.cells p t)).alloc (.cells q t)).heap.size = w.heap.size + 2 :=
  ⟨(BoxAt.new w t p).alloc _, by have := BoxAt.new (w.alloc (.cells p t)) t q; simpa using this, ((Below.refl _ w).alloc (Nat.le_refl _) _).alloc (by simp) _, by simp⟩

/-- A sign and a size as they stand in a whole number. -/
def Sg (s : Int) (n : Nat) : Prop := (n = 0 ∧ s = 0) ∨ (n ≠ 0 ∧ (s = 1 ∨ s = -1))
theorem Sg.sgn {s : Int} {n : Nat} (h : Sg s n) : sgnOf s n = s := by
  rcases h with ⟨rfl, rfl⟩ | ⟨h, _⟩
  · exact sgnOf_zero 0
  · exact sgnOf_pos h
theorem sg_cmp_ne {s t : Int} {m n : Nat} (h : Sg s m) (k : Sg t n) (hne : s ≠ t) : cmpZ s t = cmpZ (s * m) (t * n) := by
  unfold Sg at h k
  rcases h with ⟨rfl, rfl⟩ | ⟨h, rfl | rfl⟩ <;> rcases k with ⟨rfl, rfl⟩ | ⟨k, rfl | rfl⟩ <;> first | exact absurd rfl hne | (unfold cmpZ; simp; omega) | (unfold cmpZ; repeat' split <;> omega)
theorem sg_cmp_eq {s : Int} {m n : Nat} (h : Sg s m) (k : Sg s n) : s * cmpZ m n = cmpZ (s * m) (s * n) := by
  unfold Sg at h k
  rcases h with ⟨rfl, rfl⟩ | ⟨h, rfl | rfl⟩
  · simp [cmpZ]
  · simp
  · unfold cmpZ; repeat' split <;> omega

set_option maxHeartbeats 1000000 in
theorem iCompare (s t : Int) (a b : Option Addr) (m n c1 c2 : Nat) (w : World) (B C : Nat) (hB : B ≤ w.heap.size) (hC : C ≤ w.heap.size) (hx : Ints w B a (lim m)) (hy : Ints w C b (lim n)) (hs : Sg s m) (ht : Sg t n)
    (hl : (lim m).length ≤ 1048576) (hl' : (lim n).length ≤ 1048576) :
    Calls Tryd.prog 63 #[.agg #[.int .i64 s, .slice a (lim m).length c1], .agg #[.int .i64 t, .slice b (lim n).length c2]] w (RetB (.int .i64 (cmpZ (s * m) (t * n))) w) := by
  by_cases hne : s = t
  · subst hne
    have hz : (s != s) = false := by simp
    have hb1 : -1 ≤ cmpZ m n ∧ cmpZ m n ≤ 1 := by unfold cmpZ; repeat' split <;> omega
    have hb2 : -1 ≤ s ∧ s ≤ 1 := by unfold Sg at hs; omega
    rw [← sg_cmp_eq hs ht]
    obtain ⟨W0, hW0⟩ : ∃ W0 : World, (w.alloc (.cells #[.int .i64 s, .slice a (lim m).length c1] 26)).alloc (.cells #[.int .i64 s, .slice b (lim n).length c2] 26) = W0 := ⟨_, rfl⟩
    obtain ⟨p1, p2, p3, p4⟩ := two_box w 26 #[.int .i64 s, .slice a (lim m).length c1] #[.int .i64 s, .slice b (lim n).length c2]
    rw [hW0] at p1 p2 p3 p4
    have HW0 := Lib.hid hW0
    have P3 := Lib.hid p3
    have SS := Lib.hid (show ∀ W, Below W0.heap.size W0 W → (W.cell? ⟨w.heap.size, 0, none⟩ = some (.int .i64 s) ∧ W.cell? ⟨w.heap.size, 1, none⟩ = some (.slice a (lim m).length c1) ∧ W.cell? ⟨w.heap.size + 1, 0, none⟩ = some (.int .i64 s) ∧ W.cell? ⟨w.heap.size + 1, 1, none⟩ = some (.slice b (lim n).length c2)) from
      fun W hW => ⟨(p1.below hW).cell 0, (p1.below hW).cell 1, (p2.below hW).cell 0, (p2.below hW).cell 1⟩)
    have HS := Lib.hid (show ∀ (s : Int) (a : Option Addr) (n c : Nat) W, Below W0.heap.size W0 W → Calls Tryd.prog 57 #[.agg #[.int .i64 s, .slice a n c]] W fun e w' => e = .returned (.slice a n c) ∧ Below W0.heap.size W0 w' from
      fun s a n c W hW => (iSize s a n c W).mono fun e w' ⟨he, hb⟩ => ⟨he, hW.trans (hb.mono hW.size)⟩)
    have HC := Lib.hid (show ∀ W, Below W0.heap.size W0 W → Calls Tryd.prog 103 #[.slice a (lim m).length c1, .slice b (lim n).length c2] W fun e w' => e = .returned (.int .i64 (cmpZ m n)) ∧ Below W0.heap.size W0 w' from
      fun W hW => (iMagCompare a b m n c1 c2 W B C (hx.below ((p3.mono hB).trans (hW.mono (by omega)))) (hy.below ((p3.mono hC).trans (hW.mono (by omega)))) (by omega) (by omega)).mono fun e w' ⟨k, he, hb⟩ => ⟨he, by rw [hb]; exact below_drewN hW k⟩)
    have hT : Below W0.heap.size W0 W0.drew := (Below.refl _ _).drew
    have P4 := Lib.hid p4
    clear p1 p2 p3 p4 hx hy hs ht hl hl' hW0
    obtain ⟨q, hq⟩ : ∃ q, q = cmpZ m n := ⟨_, rfl⟩
    rw [← hq] at HC hb1 ⊢
    have HQ := Lib.hid hq
    clear hq
    obtain ⟨hb1, hb1'⟩ := hb1
    obtain ⟨hb2, hb2'⟩ := hb2
    have hmul : -1 ≤ s * q ∧ s * q ≤ 1 := by
      have h1 : s = -1 ∨ s = 0 ∨ s = 1 := by omega
      rcases h1 with rfl | rfl | rfl <;> omega
    obtain ⟨hm1, hm2⟩ := hmul
    have HWR := Lib.hid (show IntKind.i64.wrap (s * q) = s * q by rw [IntKind.wrap_i64]; omega)
    have HEND := Lib.hid (show ∀ W, Below W0.heap.size W0 W → RetB (.int .i64 (s * q)) w (.returned (.int .i64 (IntKind.i64.wrap (s * q)))) W from fun W hW => by
      rw [HWR.out]
      exact ⟨rfl, P3.out.trans (hW.mono (by have := P4.out; omega))⟩)
    go_enter Tryd.func63, Tryd.ntmps63
    go_wp2_with fail
    rw [HW0.out]
    go_region_held3 (fun W => W.cell? ⟨w.heap.size, 0, none⟩ = some (.int .i64 s) ∧ W.cell? ⟨w.heap.size, 1, none⟩ = some (.slice a (lim m).length c1) ∧ W.cell? ⟨w.heap.size + 1, 0, none⟩ = some (.int .i64 s) ∧ W.cell? ⟨w.heap.size + 1, 1, none⟩ = some (.slice b (lim n).length c2))
      (exact SS.out _ (by assumption))
      (first
      | (go_at_call 57; refine (HS.out _ _ _ _ _ (by assumption)).mono ?_; rintro e w' ⟨rfl, hb⟩)
      | (go_at_call 103; refine (HC.out _ (by assumption)).mono ?_; rintro e w' ⟨rfl, hb⟩))
    all_goals
      go_wp2_with fail
      go_ret
      exact HEND.out _ (by assumption)
  · have hz : (s != t) = true := by simpa using hne
    rw [← sg_cmp_ne hs ht hne]
    clear hx hy hs ht hne hl hl'
    go_enter Tryd.func63, Tryd.ntmps63
    go_wp2_with (go_at_call 107; refine (cmpI64 _ _ _).mono ?_; rintro e w' ⟨rfl, rfl⟩)
    go_ret
    exact ⟨rfl, (by repeat (first | exact Below.refl _ _ | assumption | refine Below.alloc ?_ (by simp <;> omega) _ | refine Below.setCell ?_ (by simp <;> omega) _ | refine below_drewN ?_ _))⟩
end Go.Proofs.YtfjfmlofhifkmaaDoor
