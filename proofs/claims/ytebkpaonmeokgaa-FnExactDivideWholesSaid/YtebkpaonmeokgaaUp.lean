/-
  Contract: (*division).guess. Conditions: the limbs can be read.
-/
import Derived.Test.YtebkpaonmeokgaaUo
namespace Go.Proofs.Ytebkpaonmeokgaa
set_option linter.unusedVariables false
open Go Go.RowKit

theorem quietDL {P : Program} {f : FuncId} {args : Array Value} {w : World} {v : Value} (h : ∀ W, Calls P f args W fun e w' => e = .returned v ∧ ∃ n, w' = W.drewN n) (q : Nat) :
    Calls P f args (w.drewN q) fun e w'' => e = .returned v ∧ ∃ m, w'' = w.drewN (q + m) := (h _).mono fun _ _ ⟨he, n, hn⟩ => ⟨he, n, by rw [hn, World.drewN_drewN]⟩
theorem quietDA {P : Program} {f : FuncId} {args : Array Value} {w : World} {v : Value} (h : ∀ W, Calls P f args W fun e w' => e = .returned v ∧ ∃ n, w' = W.drewN n) (q n : Nat) :
    Calls P f args (w.drewN (q + n)) fun e w'' => e = .returned v ∧ ∃ m, w'' = w.drewN (q + m) := (h _).mono fun _ _ ⟨he, n', hn⟩ => ⟨he, n + n', by rw [hn, World.drewN_drewN, Nat.add_assoc]⟩
theorem guess_low (f s t : Nat) (hf : f < 16777216) (hs : s < 16777216) (ht : t < 16777216) :
    bits .or .u64 (bits .or .u64 (IntKind.u64.wrap ((f : Int) * 281474976710656)) ((s : Int) * 16777216)) (t : Int) = ((f % 65536 * 281474976710656 + s * 16777216 + t : Nat) : Int) := by
  have e1 : IntKind.u64.wrap ((f : Int) * 281474976710656) = ((f % 65536 * 2 ^ 48 : Nat) : Int) := by rw [IntKind.wrap_u64]; omega
  have e2 : (s : Int) * 16777216 = ((s * 16777216 : Nat) : Int) := by omega
  have h1 := Nat.shiftLeft_add_eq_or_of_lt (show s * 16777216 < 2 ^ 48 by omega) (f % 65536)
  rw [Nat.shiftLeft_eq] at h1
  rw [e1, e2, u64_or_nat _ _ (by omega) (by omega), ← h1]
  have h2 := Nat.shiftLeft_add_eq_or_of_lt (show t < 2 ^ 24 by omega) (f % 65536 * 16777216 + s)
  rw [Nat.shiftLeft_eq] at h2
  have e3 : f % 65536 * 2 ^ 48 + s * 16777216 = (f % 65536 * 16777216 + s) * 2 ^ 24 := by
    generalize f % 65536 = g
    rw [Nat.add_mul, Nat.mul_assoc]
  rw [e3] at *
  rw [u64_or_nat _ _ (by omega) (by omega), ← h2]

set_option maxRecDepth 100000 in
set_option maxHeartbeats 4000000 in
theorem iGuess (gd gr i : Nat) (D : List Nat) (R : List Int) (f s t d1 d0 : Nat) (da qa : Option Addr) (dc ql qc rc : Nat) (w : World) (B : Nat) (hbox : BoxAt w gd 97 #[.slice da D.length dc, .slice qa ql qc, .slice (some ⟨gr, 0, none⟩) R.length rc])
    (hB : B ≤ w.heap.size) (hx : Ints w B da (ofN D)) (hrow : RowI w gr R) (sD : Small D) (hl : R.length ≤ 1048576) (hn : 2 ≤ D.length) (hi : i + D.length < R.length)
    (hf : R.getD (i + D.length) 0 = (f : Int)) (hs : R.getD (i + D.length - 1) 0 = (s : Int)) (ht : R.getD (i + D.length - 2) 0 = (t : Int)) (fb : f < 16777216) (sb : s < 16777216) (tb : t < 16777216)
    (hd1 : D.getD (D.length - 1) 0 = d1) (hd0 : D.getD (D.length - 2) 0 = d0) (hd : d1 ≠ 0) (hU : f * 281474976710656 + s * 16777216 + t < (d1 * 16777216 + d0) * 33554432) :
    Calls Try.prog 105 #[.pointer (some ⟨gd, 0, none⟩), .int .i64 (i : Int)] w (RetB (.int .i64 (((f * 281474976710656 + s * 16777216 + t) / (d1 * 16777216 + d0) : Nat) : Int)) w) := by
  have d1b : d1 < 16777216 := by rw [← hd1]; exact getD_lt sD _
  have d0b : d0 < 16777216 := by rw [← hd0]; exact getD_lt sD _
  have c0 := hbox.cell 0
  have c2 := hbox.cell 2
  simp at c0 c2
  have rc1 := hrow.cell (i + D.length) hi
  have rc2 := hrow.cell (i + D.length - 1) (by omega)
  have rc3 := hrow.cell (i + D.length - 2) (by omega)
  have g1 : R[i + D.length] = R.getD (i + D.length) 0 := by simp [List.getD, List.getElem?_eq_getElem hi]
  have g2 : R[i + D.length - 1]'(by omega) = R.getD (i + D.length - 1) 0 := by simp [List.getD, List.getElem?_eq_getElem (show i + D.length - 1 < R.length by omega)]
  have g3 : R[i + D.length - 2]'(by omega) = R.getD (i + D.length - 2) 0 := by simp [List.getD, List.getElem?_eq_getElem (show i + D.length - 2 < R.length by omega)]
  rw [g1, hf] at rc1
  rw [g2, hs] at rc2
  rw [g3, ht] at rc3
  obtain ⟨b, o, ha, hbl0, dc1⟩ := hx (D.length - 1) (by rw [ofN_length]; omega)
  obtain ⟨b', o', ha', _, dc2⟩ := hx (D.length - 2) (by rw [ofN_length]; omega)
  have hbl : b < w.heap.size := by omega
  subst ha
  simp at ha'
  obtain ⟨rfl, rfl⟩ := ha'
  rw [ofN_at] at dc1 dc2
  have g4 : D[D.length - 1]'(by omega) = d1 := by rw [← hd1, getD_of_lt (by omega)]
  have g5 : D[D.length - 2]'(by omega) = d0 := by rw [← hd0, getD_of_lt (by omega)]
  rw [g4] at dc1
  rw [g5] at dc2
  have low := guess_low f s t fb sb tb
  obtain ⟨L, hL⟩ : ∃ L, L = f % 65536 * 281474976710656 + s * 16777216 + t := ⟨_, rfl⟩
  rw [← hL] at low
  have hyo := i64_or_add d0 d1 d0b (by omega)
  obtain ⟨y, hy⟩ : ∃ y, y = d1 * 16777216 + d0 := ⟨_, rfl⟩
  rw [← hy] at hyo hU ⊢
  obtain ⟨h, hh⟩ : ∃ h, h = f / 65536 := ⟨_, rfl⟩
  have hhI : (f : Int) / 65536 = (h : Int) := by omega
  have hUe : f * 281474976710656 + s * 16777216 + t = h * 18446744073709551616 + L := by omega
  rw [hUe] at hU ⊢
  have HD0 := Lib.hid (fun W => div64all h L y W (by omega) (by omega) (by omega) hU)
  obtain ⟨q, hq⟩ : ∃ q, q = (h * 18446744073709551616 + L) / y := ⟨_, rfl⟩
  have hqb : q ≤ 33554432 := by rw [hq]; exact Nat.le_of_lt ((Nat.div_lt_iff_lt_mul (by omega)).2 (by omega))
  rw [← hq] at HD0 ⊢
  obtain ⟨rm, hrm⟩ : ∃ rm, rm = (h * 18446744073709551616 + L) % y := ⟨_, rfl⟩
  rw [← hrm] at HD0
  have HD := Lib.hid (show ∀ W, Calls Try.prog 111 #[.int .u64 (h : Int), .int .u64 (L : Int), .int .u64 (y : Int)] W fun e w' => e = .returned (.tuple #[.int .u64 (q : Int), .int .u64 (rm : Int)]) ∧ ∃ n, w' = W.drewN n from HD0.out)
  have i1 : ((i : Int) + (D.length : Int)).toNat = i + D.length := by omega
  have i2 : ((i : Int) + (D.length : Int) - 1).toNat = i + D.length - 1 := by omega
  have i3 : ((i : Int) + (D.length : Int) - 2).toNat = i + D.length - 2 := by omega
  have i4 : ((D.length : Int) - 1).toNat = D.length - 1 := by omega
  have i5 : ((D.length : Int) - 1 - 1).toNat = D.length - 2 := by omega
  have i6 : ((D.length : Int) - 2).toNat = D.length - 2 := by omega
  have j5 : (0 : Int) ≤ (D.length : Int) - 1 := by omega
  have j6 : (D.length : Int) - 1 < (D.length : Int) := by omega
  have j7 : (0 : Int) ≤ (D.length : Int) - 1 - 1 := by omega
  have j8 : (D.length : Int) - 1 - 1 < (D.length : Int) := by omega
  have j9 : (0 : Int) ≤ (D.length : Int) - 2 := by omega
  have j0 : (D.length : Int) - 2 < (D.length : Int) := by omega
  have j1 : (i : Int) + (D.length : Int) < (R.length : Int) := by omega
  have j2 : (2 : Int) ≤ (D.length : Int) := by omega
  have j3 : (D.length : Int) ≤ 1048576 := by omega
  have j4 : (i : Int) ≤ 1048576 := by omega
  have fI : (f : Int) ≤ 549755813887 := by omega
  have sI : (s : Int) ≤ 549755813887 := by omega
  have tI : (t : Int) ≤ 549755813887 := by omega
  have HQ := Lib.hid (show q ≤ 9223372036854775807 by omega)
  have HY := Lib.hid (show y ≤ 9223372036854775807 by omega)
  have d1I : (d1 : Int) ≤ 549755813887 := by omega
  have hT : Below w.heap.size w w := Below.refl _ _
  clear HD0 hrm hbl hbl0 hB hU hUe hh hy hL hq hbox hx hrow sD hl hn hi hf hs ht fb sb tb hd1 hd0 hd d1b d0b g1 g2 g3 g4 g5
  go_enter Try.func105, Try.ntmps105
  go_wp2
  go_quiet (fail)
  go_wp2_with fail
  clear low hhI fI sI tI rc1 rc2 rc3 c2 i1 i2 i3 j1
  obtain ⟨E, hE⟩ : ∃ E : Int, E = (D.length : Int) - 1 := ⟨_, rfl⟩
  rw [← hE]
  rw [← hE] at i4 i5 j5 j6 j7 j8
  obtain ⟨n, hn⟩ : ∃ n, n = D.length := ⟨_, rfl⟩
  rw [← hn] at c0 dc1 dc2 i4 i5 j6 j8 j3
  have hEb : E ≤ 1048576 := by omega
  obtain ⟨m1, hm1⟩ : ∃ m, m = o + (n - 1) := ⟨_, rfl⟩
  obtain ⟨m2, hm2⟩ : ∃ m, m = o + (n - 2) := ⟨_, rfl⟩
  have hw1 : IntKind.i64.wrap (E - 1) = E - 1 := by rw [IntKind.wrap_i64]; omega
  have hw2 : IntKind.i64.wrap ((d1 : Int) * 16777216) = (d1 : Int) * 16777216 := by rw [IntKind.wrap_i64]; omega
  have hw3 : IntKind.u64.wrap (y : Int) = (y : Int) := by rw [IntKind.wrap_u64]; have := HY.out; omega
  clear hE hn i6 j9 j0 j2 j4
  go_quiet ((go_at_call 111; first | exact quietDL HD.out _ | exact quietDA HD.out _ _))
  have HQ2 := Lib.hid (show IntKind.i64.wrap (q : Int) = (q : Int) from by rw [IntKind.wrap_i64]; have := HQ.out; omega)
  go_wp2_with fail
  go_ret
  exact ⟨rfl, (by repeat (first | exact Below.refl _ _ | assumption | refine Below.alloc ?_ (by simp <;> omega) _ | refine Below.setCell ?_ (by simp <;> omega) _ | refine below_drewN ?_ _))⟩
end Go.Proofs.Ytebkpaonmeokgaa
