/-
  Contracts: bits.TrailingZeros64, twos of magnitudes and of the model's whole numbers, bits. Conditions: the limbs can be read; the library's table is as its initialiser lays it.
-/
import Derived.Test.YtofjpalehcdmfaaDoorVa
import Derived.Test.YtofjpalehcdmfaaDoorOc
import Derived.Test.YtofjpalehcdmfaaDoorUl
namespace Go.Proofs.YtofjpalehcdmfaaDoor
set_option linter.unusedVariables false
open Go Go.RowKit

/-- The library's table in its variable. -/
def Tab (w : World) : Prop := ∀ j, j < 64 → w.cell? ⟨0, j, none⟩ = some (.int .u8 ((Lib.deBruijn64tab.getD j 0 : Nat) : Int))
theorem cell_lt {w : World} {p : Addr} {v : Value} (h : w.cell? p = some v) : p.block < w.heap.size := by
  unfold World.cell? at h
  split at h
  · rename_i e; exact (Array.getElem?_eq_some_iff.1 e).1
  · cases h
theorem Tab.lt {w : World} (h : Tab w) : 0 < w.heap.size := cell_lt (h 0 (by decide))
theorem Tab.below {w w' : World} (h : Tab w) (hb : Below w.heap.size w w') : Tab w' := fun j hj => (hb.cell (p := ⟨0, j, none⟩) h.lt).trans (h j hj)
theorem Tab.drewN {w : World} (h : Tab w) (n : Nat) : Tab (w.drewN n) := h
theorem Tab.alloc {w : World} (h : Tab w) (o : Obj) : Tab (w.alloc o) := h.below ((Below.refl _ _).alloc (Nat.le_refl _) _)

set_option maxHeartbeats 1000000 in
theorem tz_core (x k idx : Nat) (w : World) (hx0 : ((x : Int) == 0) = false)
    (key : IntKind.u64.wrap (bits BinOp.and IntKind.u64 (x : Int) (IntKind.u64.wrap (-(x : Int))) * 285870213051353865) / 288230376151711744 = (idx : Int))
    (hi : idx < 64) (hk : k < 64) (hcell : w.cell? ⟨0, idx, none⟩ = some (.int .u8 k)) :
    Calls Tryd.prog 160 #[.int .u64 x] w fun e w' => e = .returned (.int .i64 k) ∧ w = w' := by
  go_enter Tryd.func160, Tryd.ntmps160
  go_wp2_with (simp only [key])
  go_ret
  exact ⟨rfl, rfl⟩
theorem tz_key (x a : Nat) (hx : x < 18446744073709551616) (hx0 : x ≠ 0) (hlow : x &&& (18446744073709551616 - x) = a) :
    IntKind.u64.wrap (bits BinOp.and IntKind.u64 (x : Int) (IntKind.u64.wrap (-(x : Int))) * 285870213051353865) / 288230376151711744 = ((a * 285870213051353865 % 18446744073709551616 / 288230376151711744 : Nat) : Int) := by
  have e1 : IntKind.u64.wrap (-(x : Int)) = ((18446744073709551616 - x : Nat) : Int) := by rw [IntKind.wrap_u64]; omega
  rw [e1, u64_and_nat x _ hx (by omega), hlow, IntKind.wrap_u64]
  omega
theorem tzAll (x : Nat) (hx0 : x ≠ 0) (hx : x < 18446744073709551616) (w : World) (hT : Tab w) :
    Calls Tryd.prog 160 #[.int .u64 x] w fun e w' => e = .returned (.int .i64 (Lib.ctz 64 x)) ∧ w = w' := by
  obtain ⟨hlow, hk⟩ := Lib.lowest_bit 64 x hx0 hx
  obtain ⟨hi, htab⟩ := Lib.deBruijn64_at _ hk
  have hcell := hT _ hi
  rw [htab] at hcell
  exact tz_core x _ _ w (by simp; omega) (tz_key x _ hx hx0 hlow) hi hk hcell

theorem ctz_lt {x : Nat} (hx0 : x ≠ 0) (hx : x < 18446744073709551616) : Lib.ctz 64 x < 64 := (Lib.lowest_bit 64 x hx0 hx).2
theorem zeros_val {L : List Nat} (h : ∀ (j : Nat) (h : j < L.length), L[j] = 0) : val L = 0 := by
  have e : L = List.replicate L.length 0 := by
    apply List.ext_getElem
    · simp
    · intro i h1 h2; rw [List.getElem_replicate]; exact h i h1
  rw [e, val_zeros]
theorem tw_first {n k : Nat} (hk : k < (dig n).length) (hz : ∀ (j : Nat) (h : j < (dig n).length), j < k → (dig n)[j] = 0) (hx : (dig n)[k] ≠ 0) : tw n = 24 * k + Lib.ctz 64 (dig n)[k] := by
  have h1 := val_split (dig n) k (by omega)
  have h2 := val_drop (dig n) k hk
  have h3 : val ((dig n).take k) = 0 := zeros_val fun j h => by
    rw [List.getElem_take]
    rw [List.length_take] at h
    exact hz j (by omega) (by omega)
  rw [h3, h2, val_dig, Nat.zero_add] at h1
  have := tw_limb (x := (dig n)[k]) (r := val ((dig n).drop (k + 1))) (i := k) hx (small_dig n k hk)
  rwa [← h1] at this

set_option maxRecDepth 100000 in
set_option maxHeartbeats 2000000 in
theorem iTwos (a : Option Addr) (n c1 : Nat) (w : World) (B : Nat) (hx : Ints w B a (lim n)) (hl : (lim n).length ≤ 1048576) (hT : Tab w) :
    Calls Tryd.prog 100 #[.slice a (lim n).length c1] w fun e w' => e = .returned (.int .i64 (tw n)) ∧ w = w' := by
  have HX := Lib.hid hx
  have HT := Lib.hid hT
  have HLL := Lib.hid (lim_length n)
  have hl2 : ((lim n).length : Int) ≤ 1048576 := by omega
  clear hx hT
  go_enter Tryd.func100, Tryd.ntmps100
  go_wp2
  go_loop [7] (fun i => ∃ k : Nat, k ≤ (lim n).length ∧ i = .int .i64 (k : Int) ∧ Hid (∀ (j : Nat) (h : j < (dig n).length), j < k → (dig n)[j] = 0)) (fun i => (lim n).length - (intOf i).toNat)
  case atStart => exact ⟨0, Nat.zero_le _, rfl, fun j h hj => absurd hj (Nat.not_lt_zero _)⟩
  case round =>
    obtain ⟨k, hk, rfl, hz⟩ := hrel
    by_cases hkn : k < (lim n).length
    · have hkd : k < (dig n).length := by rw [← HLL.out]; exact hkn
      obtain ⟨b, o, ha, hcB, hcell⟩ := HX.out k hkn
      simp only [lim, ofN_at] at hcell
      subst ha
      have htw := tw_first hkd hz.out
      obtain ⟨x, hxk⟩ : ∃ x : Nat, x = (dig n)[k] := ⟨_, rfl⟩
      rw [← hxk] at hcell htw
      have hxb : x < 16777216 := by rw [hxk]; exact small_dig n k hkd
      have HXK := Lib.hid hxk
      have hkI : (k : Int) < ((lim n).length : Int) := by omega
      clear hxk
      by_cases hx0 : x = 0
      · subst hx0
        clear htw hxb
        go_wp2
        go_round
        case rel =>
          refine ⟨k + 1, by omega, by go_num, fun j h hj => ?_⟩
          by_cases hjk : j = k
          · subst hjk; exact HXK.out.symm
          · exact hz.out j h (by omega)
        case measure => simp [intOf]; omega
      · have hne : ((x : Int) != 0) = true := by simpa using hx0
        have hTW := Lib.hid (htw hx0)
        have HTZ := Lib.hid (tzAll x hx0 (by omega) w HT.out)
        have hct := ctz_lt hx0 (show x < 18446744073709551616 by omega)
        obtain ⟨q, hq⟩ : ∃ q, q = Lib.ctz 64 x := ⟨_, rfl⟩
        rw [← hq] at hTW HTZ hct
        have hxI : (x : Int) ≤ 16777215 := by omega
        have hqI : (q : Int) ≤ 64 := by omega
        clear htw hq hxb hx0 hct
        go_wp2_with (go_at_call 160; refine HTZ.out.mono ?_; rintro e w' ⟨rfl, rfl⟩)
        go_ret
        exact ⟨by rw [hTW.out]; first | rfl | (congr 2; omega), rfl⟩
    · obtain rfl : k = (lim n).length := by omega
      have h0 : n = 0 := by
        have := zeros_val (L := dig n) (fun j h => hz.out j h (by rw [HLL.out]; exact h))
        rwa [val_dig] at this
      subst h0
      have HZ := Lib.hid tw_zero
      go_wp2
      go_ret
      exact ⟨by rw [HZ.out]; rfl, rfl⟩

end Go.Proofs.YtofjpalehcdmfaaDoor
