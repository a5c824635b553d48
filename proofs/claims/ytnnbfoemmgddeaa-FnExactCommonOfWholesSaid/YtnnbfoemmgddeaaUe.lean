/-
  Contracts: integers as whole numbers, of the program and of the model. No conditions.
-/
import Derived.Test.YtnnbfoemmgddeaaUd
import Derived.Laws.BitsAllLaws
namespace Go.Proofs.Ytnnbfoemmgddeaa
set_option linter.unusedVariables false
open Go Go.RowKit

theorem u64_mask24 (v : Nat) (h : v < 18446744073709551616) : bits .and .u64 (v : Int) 16777215 = ((v % 16777216 : Nat) : Int) := by
  have := u64_and_nat v 16777215 h (by decide)
  rw [nat_mask24] at this
  exact this
theorem dig_small {n : Nat} (h : n < 18446744073709551616) : (dig n).length ≤ 3 := dig_length_le (Nat.lt_of_lt_of_le h (by decide))

set_option maxRecDepth 100000 in
set_option maxHeartbeats 1000000 in
theorem iMagOf (N : Nat) (hN : N < 18446744073709551616) (w : World) : Calls Try.prog 167 #[.int .u64 (N : Int)] w (RetL (lim N) w) := by
  have HN := Lib.hid hN
  clear hN
  go_enter Try.func167, Try.ntmps167
  go_wp2
  go_loopw [0, 3] (fun q v wr => ∃ (r : Nat) (L : List Nat), q = .int .u64 (r : Int) ∧ Hid (dig N = L ++ dig r) ∧ r ≤ N ∧ OwnV wr w.heap.size v (ofN L) ∧ Below w.heap.size w wr) (fun q _ _ => (intOf q).toNat)
  case atStart => exact ⟨N, [], rfl, rfl, Nat.le_refl _, OwnV.nil _ _, Below.refl _ _⟩
  case round =>
    obtain ⟨r, L, rfl, hd, hr, hown, hbel⟩ := hrel
    have OW := Lib.hid hown
    have HB := Lib.hid hbel
    have HR := Lib.hid hr
    have hsz : w.heap.size ≤ wr.heap.size := hbel.size
    clear hown hbel hr
    by_cases h0 : r = 0
    · subst h0
      obtain ⟨a', c', rfl, hc', _, ho⟩ := OW.out.parts
      have e : L = dig N := by have := hd.out; rw [dig_zero, List.append_nil] at this; exact this.symm
      have HE := Lib.hid e
      have HO := Lib.hid ho
      have HC := Lib.hid hc'
      clear e ho hc' OW
      go_wp2
      go_ret
      refine ⟨a', c', by rw [HE.out]; rfl, ?_, ?_, HB.out⟩
      · have := HC.out; rw [HE.out] at this; exact this
      · have := HO.out; rw [HE.out] at this; exact this
    · have h0I : (0 : Int) < (r : Int) := by omega
      have hmk := u64_mask24 r (by have := HN.out; have := HR.out; omega)
      have hlen : L.length ≤ 3 := by
        have h1 := dig_small HN.out
        rw [hd.out, List.length_append] at h1
        omega
      have HLN := Lib.hid hlen
      have hb1 : ((r % 16777216 : Nat) : Int) ≤ 9223372036854775807 := by omega
      have hd2 : dig N = (L ++ [r % 16777216]) ++ dig (r / 16777216) := by
        rw [hd.out, dig_pos h0, List.append_assoc]; rfl
      have HD2 := Lib.hid hd2
      obtain ⟨x, hx⟩ : ∃ x : Nat, x = r % 16777216 := ⟨_, rfl⟩
      rw [← hx] at hmk hb1 HD2
      clear hlen hd2 hx
      go_wp2_with (at_builtin; refine wp_app1 rfl _ _ 117 rfl Try.underlying117 wr (x : Int) rfl w.heap.size _ (ofN L) OW.out rfl rfl (by rw [ofN_length]; have := HLN.out; omega) (by omega) ?_; intro v' w' hown hb hs; have OW2 := Lib.hid hown; have HB2 := Lib.hid (hb w.heap.size (by omega) (Nat.le_refl _)); clear hown hb)
      go_roundw
      case rel =>
        refine ⟨r / 16777216, L ++ [x], by first | rfl | (congr 1; omega), HD2.out, by have := HR.out; omega, ?_, HB.out.trans HB2.out⟩
        rw [ofN_append]
        exact OW2.out
      case measure => simp [intOf]; omega
end Go.Proofs.Ytnnbfoemmgddeaa
