/-
  The source is made; what it draws. No conditions.
-/
import Derived.Test.YtfjfmlofhifkmaaDoorSc
import Derived.RegionTactic
import Derived.ChangeAlike
import Derived.BigRegion
import Derived.LoopTactic
import Derived.OwnWalk
namespace Go.Proofs.YtfjfmlofhifkmaaDoor
set_option linter.unusedVariables false
open Go Go.RowKit

/-- A code that came in: its bytes can be read. -/
def Code8 (B : Nat) (a : Option Addr) (len : Nat) (w : World) : Prop :=
  ∀ i : Nat, i < len → ∃ c o, ∃ u : Nat, a = some ⟨c, o, none⟩ ∧ c < B ∧ u < 256 ∧ w.cell? ⟨c, o + i, none⟩ = some (.int .u8 u)

def MadeSrc (B : Nat) (a : Option Addr) (len cap : Nat) (w : World) (e : Ending) (w' : World) : Prop :=
  ∃ b : Nat, e = .returned (.pointer (some ⟨b, 0, none⟩)) ∧ Below B w w' ∧ Src B a len cap w' b

set_option maxRecDepth 100000 in
set_option maxHeartbeats 400000 in
theorem from_any (a : Option Addr) (len cap : Nat) (w : World) (hlen : len ≤ 9223372036854775807) (hcode : Code8 w.heap.size a len w) :
    Calls Tryd.prog 48 #[.slice a len cap] w (MadeSrc w.heap.size a len cap w) := by
  have HC := Lib.hid hcode
  clear hcode
  go_enter Tryd.func48, Tryd.ntmps48
  go_wp2
  have h0 : Src w.heap.size a len cap (w.alloc (.cells #[.slice a len cap, .int .i64 0, .int .u64 (6737 + (len : Int))] 116)) w.heap.size := by
    refine ⟨Nat.le_refl _, by simp, hlen, by simp, ⟨0, Nat.zero_le _, by simp⟩, ⟨6737 + (len : Int), by simp⟩, fun i => by simp, fun i hi => ?_⟩
    obtain ⟨c, o, u, ha, hc, hu, hcell⟩ := HC.out i hi
    exact ⟨c, o, u, ha, hc, hu, by rw [World.cell?_alloc_lt _ _ _ hc]; exact hcell⟩
  have H0 := Lib.hid h0
  clear h0
  obtain ⟨w0, hw0⟩ : ∃ w0, w0 = w.alloc (.cells #[.slice a len cap, .int .i64 0, .int .u64 (6737 + (len : Int))] 116) := ⟨_, rfl⟩
  rw [← hw0] at H0 ⊢
  have HW := Lib.hid hw0
  clear hw0
  have HEND : ∀ wr, Stay w.heap.size a len cap w.heap.size w0 wr → MadeSrc w.heap.size a len cap w (.returned (.pointer (some ⟨w.heap.size, 0, none⟩))) wr := fun wr hst =>
    ⟨w.heap.size, rfl, (by rw [HW.out] at hst; exact ((Below.refl _ w).alloc (Nat.le_refl _) _).trans (hst.below (by simp))), hst.src⟩
  go_loopw [4] (fun i wr => ∃ k : Nat, k ≤ len ∧ k ≤ 4096 ∧ i = .int .i64 k ∧ Stay w.heap.size a len cap w.heap.size w0 wr) (fun i _ => 4096 - (intOf i).toNat)
  case atStart => exact ⟨0, Nat.zero_le _, Nat.zero_le _, rfl, Stay.refl H0.out⟩
  case round =>
    obtain ⟨k, hk, hk', rfl, hst⟩ := hrel
    have HST := Lib.hid hst
    obtain ⟨lo, hi, fit, c0, ⟨k1, hk1, c1⟩, ⟨x2, c2⟩, fz, code⟩ := hst.src
    clear hst c1
    have fz2 := fz 2
    have CODE := Lib.hid code
    clear fz code
    by_cases hkl : k < len
    · by_cases hk6 : k < 4096
      · obtain ⟨c, o, u, ha, hcB, hu, hcell⟩ := CODE.out k hkl
        have hbc : ¬ w.heap.size = c := by omega
        have hcb : ¬ c = w.heap.size := by omega
        have hkI : (k : Int) < (len : Int) := by omega
        have hk0 : (0 : Int) ≤ (k : Int) := by omega
        subst ha
        have hd6 : decide ((k : Int) < 4096) = true := decide_eq_true (by omega)
        go_wp2
        go_region
        all_goals
          go_wp2
          go_roundw
          case rel => exact ⟨k + 1, by omega, by omega, by go_num, (HST.out.set2 _).drewN 1⟩
          case measure => simp [intOf]; omega
      · obtain rfl : k = 4096 := by omega
        go_wp2
        go_ret
        exact HEND _ HST.out
    · obtain rfl : k = len := by omega
      go_wp2
      go_ret
      exact HEND _ HST.out
end Go.Proofs.YtfjfmlofhifkmaaDoor
