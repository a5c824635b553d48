/-
  Contract: the twos of a whole number, by the model. Conditions: the limbs can be read, the number is not 0.
-/
import Derived.Test.YtofjpalehcdmfaaDoorVg
namespace Go.Proofs.YtofjpalehcdmfaaDoor
set_option linter.unusedVariables false
open Go Go.RowKit

set_option maxRecDepth 100000 in
set_option maxHeartbeats 2000000 in
theorem sTwos (s : Int) (a : Option Addr) (n c1 : Nat) (w : World) (B : Nat) (hB : B ≤ w.heap.size) (hx : Ints w B a (lim n)) (hl : (lim n).length ≤ 1048576) (h0 : n ≠ 0) :
    Calls Tryd.prog 101 #[.agg #[.int .i64 s, .slice a (lim n).length c1]] w (RetB (.int .i64 (tw n : Int)) w) := by
  obtain ⟨W0, hW0⟩ : ∃ W0 : World, w.alloc (.cells #[.int .i64 s, .slice a (lim n).length c1] 26) = W0 := ⟨_, rfl⟩
  obtain ⟨p1, p3, p4⟩ := one_box w 26 #[.int .i64 s, .slice a (lim n).length c1]
  rw [hW0] at p1 p3 p4
  have HW0 := Lib.hid hW0
  have P3 := Lib.hid p3
  have P4 := Lib.hid p4
  have SS := Lib.hid (show ∀ W, Below W0.heap.size W0 W → (W.cell? ⟨w.heap.size, 0, none⟩ = some (.int .i64 s) ∧ W.cell? ⟨w.heap.size, 1, none⟩ = some (.slice a (lim n).length c1)) from
    fun W hW => ⟨(p1.below hW).cell 0, (p1.below hW).cell 1⟩)
  have IX := Lib.hid (show ∀ W, Below W0.heap.size W0 W → Ints W B a (lim n) ∧ B ≤ W.heap.size from fun W hW => ⟨hx.below ((p3.mono hB).trans (hW.mono (by omega))), by have := hW.size; omega⟩)
  have HTL := Lib.hid (show tw n ≤ 25165824 from by have := tw_len h0; rw [← lim_length] at this; omega)
  have HB := Lib.hid (show ∀ (k : Nat) W, k ≤ 1073741824 → Below W0.heap.size W0 W → Calls Tryd.prog 161 #[.agg #[.int .i64 s, .slice a (lim n).length c1], .int .i64 (k : Int)] W fun e w' => e = .returned (.int .i64 ((n / 2 ^ k % 2 : Nat) : Int)) ∧ Below W0.heap.size W0 w' from
    fun k W hk hW => (sBit s a n c1 k W B (IX.out W hW).2 (IX.out W hW).1 hl hk).mono fun e w' ⟨he, hb⟩ => ⟨he, hW.trans (hb.mono hW.size)⟩)
  have H0 := Lib.hid h0
  have HEND := Lib.hid (show ∀ v W, Below W0.heap.size W0 W → RetB v w (.returned v) W from fun v W hW => ⟨rfl, P3.out.trans (hW.mono (by omega))⟩)
  clear p1 p3 p4 hx hW0 hB hl IX h0
  go_enter Tryd.func101, Tryd.ntmps101
  go_wp2
  rw [HW0.out]
  go_loopw [3] (fun q wr => ∃ k : Nat, q = .int .i64 (k : Int) ∧ Hid (k ≤ tw n) ∧ Below W0.heap.size W0 wr) (fun q _ => tw n - (intOf q).toNat)
  case atStart => exact ⟨0, rfl, Nat.zero_le _, Below.refl _ _⟩
  case round =>
    obtain ⟨k, rfl, hk, hbel⟩ := hrel
    obtain ⟨k1, k2⟩ := SS.out _ hbel
    have HC := Lib.hid (HB.out k wr (by have := hk.out; have := HTL.out; omega) hbel)
    have hkb : (k : Int) ≤ 25165824 := by have := hk.out; have := HTL.out; omega
    have HM := Lib.hid (fun h => tw_more H0.out hk.out h)
    have HD := Lib.hid (fun h => tw_done H0.out hk.out h)
    obtain ⟨t, ht⟩ : ∃ t, t = n / 2 ^ k % 2 := ⟨_, rfl⟩
    rw [← ht] at HC HM HD
    have htb : t = 0 ∨ t = 1 := by omega
    clear ht hbel
    go_wp2_with fail
    refine HC.out.mono ?_
    rintro e w1 ⟨rfl, hb⟩
    clear k1 k2
    rcases htb with rfl | rfl
    · have HK := Lib.hid (HM.out rfl)
      go_wp2_with fail
      go_roundw
      case rel => exact ⟨k + 1, by go_num, HK, hb⟩
      case measure => have := HK.out; simp [intOf]; omega
    · have HK := Lib.hid (HD.out (by decide))
      go_wp2_with fail
      go_ret
      rw [← HK.out]
      exact HEND.out _ _ hb
end Go.Proofs.YtofjpalehcdmfaaDoor
