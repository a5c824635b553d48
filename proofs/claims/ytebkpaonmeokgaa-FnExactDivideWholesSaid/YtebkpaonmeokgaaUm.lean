/-
  Contracts: bits.Len64, bits.LeadingZeros64 at every word; the mathematics of bits.Div64. No conditions.
-/
import Derived.Test.YtebkpaonmeokgaaUl
namespace Go.Proofs.Ytebkpaonmeokgaa
set_option linter.unusedVariables false
open Go Go.RowKit

theorem len_case (x y : Int) (k l : Nat) (hk : k ≤ 56) (hxy : y.toNat = x.toNat / 2 ^ k) (h : 2 ^ k ≤ x.toNat) (hx : x < 18446744073709551616) (hl : l = Lib.bitLen y.toNat) (hl8 : l ≤ 8) :
    wrap64 ((k : Int) + (l : Int)) = (Lib.bitLen x.toNat : Int) := by
  have s := Lib.bitLen_shift k x.toNat h (by omega)
  rw [← hxy, ← hl] at s
  rw [s]
  unfold wrap64
  omega
theorem div_pow (x : Nat) (a b : Nat) : x / 2 ^ a / 2 ^ b = x / 2 ^ (a + b) := by rw [Nat.div_div_eq_div_mul, ← Nat.pow_add]

set_option maxRecDepth 100000 in
set_option maxHeartbeats 2000000 in
theorem len64w (x : Int) (w : World) (h0 : 0 ≤ x) (hx : x < 18446744073709551616) : Calls Try.prog 94 #[.int .u64 x] w fun e w' => e = .returned (.int .i64 (Lib.bitLen x.toNat : Nat)) ∧ w = w' := by
  have hsz : Lib.len8tab.size = 256 := by decide +kernel
  have HX := Lib.hid hx
  clear hx
  go_enter Try.func94, Try.ntmps94
  go_wp2
  all_goals (go_ret; refine ⟨congrArg Ending.returned (congrArg (Value.int IntKind.i64) ?_), rfl⟩)
  all_goals have hx := HX.out
  all_goals clear HX
  · have e : x / 4294967296 / 65536 / 256 % 256 = x / 4294967296 / 65536 / 256 := by omega
    rw [e, Lib.len8_of _ (by omega) (by omega)]
    have hb := Lib.bitLen_le8' (x / 4294967296 / 65536 / 256) (by omega) (by omega)
    rw [show wrap64 ((Lib.bitLen (x / 4294967296 / 65536 / 256).toNat : Nat) : Int) = ((Lib.bitLen (x / 4294967296 / 65536 / 256).toNat : Nat) : Int) from by unfold wrap64; omega]
    exact len_case x _ 56 _ (by omega) (by omega) (by omega) hx rfl hb
  · obtain ⟨e1, e2⟩ := tab_len (x / 4294967296 / 65536) (by omega) (by omega) (by omega)
    rw [e1]
    exact len_case x _ 48 _ (by omega) (by omega) (by omega) hx rfl e2
  · obtain ⟨e1, e2⟩ := tab_len (x / 4294967296 / 256) (by omega) (by omega) (by omega)
    rw [e1]
    exact len_case x _ 40 _ (by omega) (by omega) (by omega) hx rfl e2
  · obtain ⟨e1, e2⟩ := tab_len (x / 4294967296) (by omega) (by omega) (by omega)
    rw [e1]
    exact len_case x _ 32 _ (by omega) (by omega) (by omega) hx rfl e2
  · obtain ⟨e1, e2⟩ := tab_len (x / 65536 / 256) (by omega) (by omega) (by omega)
    rw [e1]
    exact len_case x _ 24 _ (by omega) (by omega) (by omega) hx rfl e2
  · obtain ⟨e1, e2⟩ := tab_len (x / 65536) (by omega) (by omega) (by omega)
    rw [e1]
    exact len_case x _ 16 _ (by omega) (by omega) (by omega) hx rfl e2
  · obtain ⟨e1, e2⟩ := tab_len (x / 256) (by omega) (by omega) (by omega)
    rw [e1]
    exact len_case x _ 8 _ (by omega) (by omega) (by omega) hx rfl e2
  · obtain ⟨e1, e2⟩ := tab_len x (by omega) (by omega) (by omega)
    rw [e1]
    unfold wrap64
    omega

theorem bit_le (x : Int) (h0 : 0 ≤ x) (hx : x < 18446744073709551616) : Lib.bitLen x.toNat ≤ 64 := Lib.bitLen_le _ 64 (by omega) (by omega)
set_option maxHeartbeats 400000 in
theorem lz64 (x : Int) (w : World) (h0 : 0 ≤ x) (hx : x < 18446744073709551616) : Calls Try.prog 116 #[.int .u64 x] w fun e w' => e = .returned (.int .i64 (64 - (Lib.bitLen x.toNat : Nat))) ∧ w = w' := by
  have H := Lib.hid fun W => len64w x W h0 hx
  have hb : ((Lib.bitLen x.toNat : Nat) : Int) ≤ 64 := by have := bit_le x h0 hx; omega
  obtain ⟨l, hl⟩ : ∃ l, l = Lib.bitLen x.toNat := ⟨_, rfl⟩
  rw [← hl] at H hb ⊢
  clear h0 hx hl
  go_enter Try.func116, Try.ntmps116
  go_wp2_with fail
  refine (H.out _).mono ?_
  rintro e w' ⟨rfl, rfl⟩
  go_wp2_with fail
  go_ret
  exact ⟨rfl, rfl⟩
end Go.Proofs.Ytebkpaonmeokgaa
