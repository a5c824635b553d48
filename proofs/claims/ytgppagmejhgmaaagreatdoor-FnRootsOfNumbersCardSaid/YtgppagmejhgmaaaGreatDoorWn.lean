/-
  Contract of the model: absolute values. Conditions: the limbs can be read.
-/
import Derived.Test.YtgppagmejhgmaaaGreatDoorTf
namespace Go.Proofs.YtgppagmejhgmaaaGreatDoor
set_option linter.unusedVariables false
open Go Go.RowKit

set_option maxHeartbeats 2000000 in
theorem sAbs (s : Int) (a : Option Addr) (m c1 : Nat) (w : World) (B : Nat) (hB : B ≤ w.heap.size) (hx : Ints w B a (lim m)) (hs : Sg s m) (hl : (lim m).length ≤ 1048576) (hc1 : (lim m).length ≤ c1) :
    Calls Tryz.prog 130 #[.agg #[.int .i64 s, .slice a (lim m).length c1]] w (RetN (sgnOf 1 m) m w) := by
  obtain ⟨W0, hW0⟩ : ∃ W0 : World, (w.alloc (.cells #[.int .i64 s, .slice a (lim m).length c1] 60)).alloc (.cells #[.int .i64 0, .slice none 0 0] 60) = W0 := ⟨_, rfl⟩
  obtain ⟨p1, p5, p3, p4⟩ := two_box w 60 #[.int .i64 s, .slice a (lim m).length c1] #[.int .i64 0, .slice none 0 0]
  rw [hW0] at p1 p3 p4 p5
  have HW0 := Lib.hid hW0
  have P3 := Lib.hid p3
  have P4 := Lib.hid p4
  have SR := Lib.hid (show ∀ W, Below W0.heap.size W0 W → (W.cell? ⟨w.heap.size + 1, 0, none⟩ = some (.int .i64 0) ∧ W.cell? ⟨w.heap.size + 1, 1, none⟩ = some (.slice none 0 0) ∧ W.frozen? ⟨w.heap.size + 1, 0, none⟩ = false ∧ W.frozen? ⟨w.heap.size + 1, 1, none⟩ = false) from
    fun W hW => (p5.below hW).two)
  have hT : Below W0.heap.size W0 W0 := Below.refl _ _
  have HMK := Lib.hid (show ∀ W, Below W0.heap.size W0 W → Calls Tryz.prog 103 #[.int .i64 (s * s), .slice a (lim m).length c1] W fun e w' => ∃ a c, e = .returned (.agg #[.int .i64 (sgnOf (s * s) m), .slice a (lim m).length c]) ∧ (lim m).length ≤ c ∧ Own w' W0.heap.size a (lim m) ∧ Below W0.heap.size W0 w' from
    fun W hW => (sMakeL (s * s) a m c1 W B (by have := hW.size; omega) (hx.below ((p3.mono hB).trans (hW.mono (by omega)))) hc1 (by omega)).mono fun e w' ⟨a, c, he, hc, ho, hb⟩ => ⟨a, c, he, hc, ho.mono hW.size, hW.trans (hb.mono hW.size)⟩)
  have HF := Lib.hid (show sgnOf (s * s) m = sgnOf 1 m by
    unfold Sg at hs
    rcases hs with ⟨rfl, rfl⟩ | ⟨_, rfl | rfl⟩ <;> simp [sgnOf])
  have hs12 : s = -1 ∨ s = 0 ∨ s = 1 := by unfold Sg at hs; omega
  have hb1 : 0 ≤ s * s ∧ s * s ≤ 1 := by rcases hs12 with rfl | rfl | rfl <;> simp
  obtain ⟨hb1, hb2⟩ := hb1
  have hsl : -1 ≤ s := by omega
  have hsh : s ≤ 1 := by omega
  have hwr : IntKind.i64.wrap (s * s) = s * s := by rw [IntKind.wrap_i64]; omega
  have SS := Lib.hid (show ∀ W, Below W0.heap.size W0 W → (W.cell? ⟨w.heap.size, 0, none⟩ = some (.int .i64 s) ∧ W.cell? ⟨w.heap.size, 1, none⟩ = some (.slice a (lim m).length c1)) from
    fun W hW => ⟨(p1.below hW).cell 0, (p1.below hW).cell 1⟩)
  obtain ⟨k1, k2⟩ := SS.out _ hT
  rw [← HF.out]
  clear p1 p3 p4 p5 hx hl hW0 hB hs hs12 hc1
  go_enter Tryz.func130, Tryz.ntmps130
  go_wp2_with fail
  rw [HW0.out]
  refine (HMK.out _ hT).mono ?_
  rintro e w1 ⟨a', c', rfl, hc', ho', hb⟩
  have HC' := Lib.hid hc'
  have HO' := Lib.hid ho'
  clear hc' ho'
  obtain ⟨q1, q2, q3, q4⟩ := SR.out _ hb
  go_wp2_with fail
  refine bodyPost_ret (v := .agg #[.int .i64 (sgnOf (s * s) m), .slice a' (lim m).length c']) (by simp [results, Tryz.results130, go_sem, *]) rfl ?_
  have P4' := P4.out
  exact ⟨a', c', rfl, HC'.out, ((HO'.out.setFar (by simp; omega) _).setFar (by simp; omega) _).mono (by have := P4.out; omega), ((P3.out.trans (hb.mono (by have := P4.out; omega))).setCell (by simp <;> omega) _).setCell (by simp <;> omega) _⟩
end Go.Proofs.YtgppagmejhgmaaaGreatDoor
