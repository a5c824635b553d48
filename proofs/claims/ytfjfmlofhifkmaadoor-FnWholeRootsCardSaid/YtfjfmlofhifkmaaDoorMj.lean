/-
  Contracts: sums and differences of magnitudes. Conditions: the limbs can be read.
-/
import Derived.Test.YtfjfmlofhifkmaaDoorMi
namespace Go.Proofs.YtfjfmlofhifkmaaDoor
set_option linter.unusedVariables false
open Go Go.RowKit

theorem i64_mask24 (n : Int) : bits .and .i64 n 16777215 = n % 16777216 := by
  have hw : ((BitVec.ofInt 64 n &&& BitVec.ofInt 64 16777215).toNat : Int) = n % 16777216 := by
    have e : BitVec.ofInt 64 16777215 = BitVec.ofNat 64 (2^24-1) := by decide
    rw [e, BitVec.toNat_and, BitVec.toNat_ofInt, BitVec.toNat_ofNat, Nat.mod_eq_of_lt (show 2^24-1 < 2^64 by decide), Nat.and_two_pow_sub_one_eq_mod]
    omega
  show IntKind.i64.wrap ((BitVec.ofInt 64 n &&& BitVec.ofInt 64 16777215).toNat : Int) = _
  rw [hw, IntKind.wrap_i64]
  omega
theorem info_i64' : (Tryd.prog.info? 2).map (fun i => (i.zero, i.size, i.bytes)) = some (some (.int .i64 0), 1, 8) := info_i64
theorem mk_mag (n : Nat) (h : 8 * n ≤ 281474976710656) : ∀ w, (Instr.makeSlice 83 (.int .i64 (n : Int)) (.int .i64 (n : Int))).run Tryd.prog w = .ok (.slice (some ⟨w.heap.size, 0, none⟩) n n) (w.alloc (.cells (madeCells #[.int .i64 0] n) 2)) := fun w =>
  run_make_row' 83 2 (.int .i64 0) 8 Tryd.underlying83 info_i64 rfl .i64 .i64 n h (by omega) w
theorem mk_mag_succ (n : Nat) (h : 8 * (n + 1) ≤ 281474976710656) : ∀ w, (Instr.makeSlice 83 (.int .i64 ((n : Int) + 1)) (.int .i64 ((n : Int) + 1))).run Tryd.prog w = .ok (.slice (some ⟨w.heap.size, 0, none⟩) (n + 1) (n + 1)) (w.alloc (.cells (madeCells #[.int .i64 0] (n + 1)) 2)) := fun w => by
  have := mk_mag (n + 1) h w
  rwa [Int.natCast_succ] at this

theorem row_mod {wr : World} {g k : Nat} {L : List Nat} (t : Int) (hr : RowI wr g (ofN L)) (hk : k < L.length) : RowI (wr.setCell ⟨g, k, none⟩ (.int .i64 (t % 16777216))) g (ofN (L.set k (t % 16777216).toNat)) := by
  rw [← ofN_set, Int.toNat_of_nonneg (by omega)]
  exact hr.set_ k (by rw [ofN_length]; exact hk) _
theorem row_set {wr : World} {g k : Nat} {L : List Nat} (t : Int) (h0 : 0 ≤ t) (hr : RowI wr g (ofN L)) (hk : k < L.length) : RowI (wr.setCell ⟨g, k, none⟩ (.int .i64 t)) g (ofN (L.set k t.toNat)) := by
  rw [← ofN_set, Int.toNat_of_nonneg h0]
  exact hr.set_ k (by rw [ofN_length]; exact hk) _
theorem add_close {wr : World} {g k : Nat} {xs ys L : List Nat} {f u t : Int} (h : AddInv xs ys (L.set k (u % 16777216).toNat) f (u / 16777216) (k + 1)) (e : u = t) (hr : RowI wr g (ofN L)) (hk : k < L.length) :
    AddInv xs ys (L.set k (t % 16777216).toNat) f (t / 16777216) (k + 1) ∧ RowI (wr.setCell ⟨g, k, none⟩ (.int .i64 (t % 16777216))) g (ofN (L.set k (t % 16777216).toNat)) := by
  subst e
  exact ⟨h, row_mod u hr hk⟩

set_option maxHeartbeats 1000000 in
theorem iPlusMul (a b : Option Addr) (xs ys : List Nat) (c1 c2 : Nat) (f : Int) (hf : f = 1 ∨ f = -1) (w : World) (B C : Nat) (hB : B ≤ w.heap.size) (hC : C ≤ w.heap.size) (hx : Ints w B a (ofN xs)) (hy : Ints w C b (ofN ys))
    (sx : Small xs) (sy : Small ys) (hle : ys.length ≤ xs.length) (h0 : 0 ≤ (val xs : Int) + f * val ys) (hl : xs.length ≤ 1048576) :
    Calls Tryd.prog 141 #[.slice a xs.length c1, .slice b ys.length c2, .int .i64 f] w (RetL (lim ((val xs : Int) + f * val ys).toNat) w) := by
  have HX := Lib.hid hx
  have HY := Lib.hid hy
  have SX := Lib.hid sx
  have SY := Lib.hid sy
  have H0 := Lib.hid h0
  have HF := Lib.hid hf
  have HLE := Lib.hid hle
  have hmk := mk_mag_succ xs.length (by omega)
  have hl2 : xs.length ≤ 9223372036854775806 := by omega
  have hl3 : ys.length ≤ 9223372036854775806 := by omega
  have HL := Lib.hid hl
  clear hx hy sx sy h0 hle hl
  have hm := i64_mask24
  go_enter Tryd.func141, Tryd.ntmps141
  go_wp2
  clear hmk
  go_loopw [17, 8] (fun i q wr => ∃ (k : Nat) (L : List Nat) (cr : Int), k ≤ xs.length ∧ i = .int .i64 k ∧ q = .int .i64 cr ∧ AddInv xs ys L f cr k ∧ RowI wr w.heap.size (ofN L) ∧ Below w.heap.size w wr) (fun i _ _ => xs.length - (intOf i).toNat)
  case atStart => exact ⟨0, _, 0, Nat.zero_le _, rfl, rfl, addInv_start xs ys f, by rw [ofN_zeros]; exact RowI.made w _, (Below.refl _ _).alloc (Nat.le_refl _) _⟩
  case round =>
    obtain ⟨k, L, cr, hk, rfl, rfl, hinv, hrow, hbel⟩ := hrel
    have HI := Lib.hid hinv
    have HR := Lib.hid hrow
    have HB := Lib.hid hbel
    have hlo := hinv.lo
    have hhi := hinv.hi
    have hlen := Lib.hid hinv.len
    clear hrow hbel hinv
    by_cases hkn : k < xs.length
    · obtain ⟨c', o, ha, hcB, hcell⟩ := HX.out k (by rw [ofN_length]; exact hkn)
      rw [ofN_at] at hcell
      subst ha
      obtain ⟨x, hxk⟩ : ∃ x : Nat, x = xs[k] := ⟨_, rfl⟩
      rw [← hxk] at hcell
      have hxb : (x : Int) < 16777216 := by have := SX.out k hkn; omega
      have HXK := Lib.hid hxk
      have hkI : (k : Int) < (xs.length : Int) := by omega
      have h1 : wr.cell? ⟨c', o + k, none⟩ = some (.int .i64 x) := by rw [HB.out.cell (p := ⟨c', o + k, none⟩) (by show c' < _; omega)]; exact hcell
      have h2 := HR.out.cell k (by rw [ofN_length]; have := hlen.out; omega)
      have h3 := HR.out.frozen k
      have hkL : (k : Int) < (xs.length : Int) + 1 := by omega
      clear hcell hxk
      have HSP := Lib.hid (addInv_step HI.out SX.out SY.out hkn HF.out)
      by_cases hky : k < ys.length
      · obtain ⟨c'', o', ha', hcC, hcell'⟩ := HY.out k (by rw [ofN_length]; exact hky)
        rw [ofN_at] at hcell'
        subst ha'
        obtain ⟨y, hyk⟩ : ∃ y : Nat, y = ys[k] := ⟨_, rfl⟩
        rw [← hyk] at hcell'
        have hyb : (y : Int) < 16777216 := by have := SY.out k hky; omega
        have HYK := Lib.hid (show ys.getD k 0 = y from (getD_of_lt hky).trans hyk.symm)
        have hkJ : (k : Int) < (ys.length : Int) := by omega
        have h1' : wr.cell? ⟨c'', o' + k, none⟩ = some (.int .i64 y) := by rw [HB.out.cell (p := ⟨c'', o' + k, none⟩) (by show c'' < _; omega)]; exact hcell'
        clear hcell' hyk
        rcases HF.out with rfl | rfl
        · go_wp2
          go_roundw
          case rel =>
            obtain ⟨g1, g2⟩ := add_close (t := cr + (x : Int) + (y : Int)) HSP.out (by rw [← HXK.out, HYK.out]; rw [Int.mul_one]) HR.out (by have := hlen.out; omega)
            exact ⟨k + 1, _, _, by omega, by go_num, rfl, g1, g2, HB.out.setCell (Nat.le_refl _) _⟩
          case measure => simp [intOf]; omega
        · go_wp2
          go_roundw
          case rel =>
            obtain ⟨g1, g2⟩ := add_close (t := cr + (x : Int) + -(y : Int)) HSP.out (by rw [← HXK.out, HYK.out]; rw [Int.mul_neg, Int.mul_one]) HR.out (by have := hlen.out; omega)
            exact ⟨k + 1, _, _, by omega, by go_num, rfl, g1, g2, HB.out.setCell (Nat.le_refl _) _⟩
          case measure => simp [intOf]; omega
      · have hd : decide ((k : Int) < (ys.length : Int)) = false := decide_eq_false (by omega)
        have HYK := Lib.hid (getD_of_ge (ys := ys) (i := k) (by omega))
        go_wp2
        go_roundw
        case rel =>
          obtain ⟨g1, g2⟩ := add_close (t := cr + (x : Int)) HSP.out (by rw [← HXK.out, HYK.out]; simp) HR.out (by have := hlen.out; omega)
          exact ⟨k + 1, _, _, by omega, by go_num, rfl, g1, g2, HB.out.setCell (Nat.le_refl _) _⟩
        case measure => simp [intOf]; omega
    · obtain rfl : k = xs.length := by omega
      have hdone := addInv_done HI.out HLE.out H0.out
      obtain ⟨d1, d2, d3, d4⟩ := hdone
      have D3 := Lib.hid d3
      have D4 := Lib.hid d4
      have h2 := HR.out.cell xs.length (by rw [ofN_length]; have := hlen.out; omega)
      have h3 := HR.out.frozen xs.length
      have R2 := Lib.hid (row_set cr d1 HR.out (k := xs.length) (by have := hlen.out; omega))
      have hlen2 := Lib.hid (show (L.set xs.length cr.toNat).length = xs.length + 1 by rw [List.length_set]; exact hlen.out)
      clear d3 d4
      have HT := Lib.hid (iTrimmed (some ⟨w.heap.size, 0, none⟩) (L.set xs.length cr.toNat) (xs.length + 1) _ _ R2.out.ints D3.out (by rw [hlen2.out]; exact Nat.le_refl _) (by omega))
      have HEND := Lib.hid (show RetL (lim ((val xs : Int) + f * val ys).toNat) w (.returned (.slice (some ⟨w.heap.size, 0, none⟩) (dig (val (L.set xs.length cr.toNat))).length (xs.length + 1))) (wr.setCell ⟨w.heap.size, xs.length, none⟩ (.int .i64 cr)) from by
        have hv : val (L.set xs.length cr.toNat) = ((val xs : Int) + f * val ys).toNat := by have := D4.out; omega
        have hle := dig_length_val_le D3.out
        rw [hlen2.out] at hle
        rw [← hv]
        refine ⟨_, _, by rw [lim_length], by rw [lim_length]; exact hle, Own.row ?_ (Nat.le_refl _), HB.out.setCell (Nat.le_refl _) _⟩
        have := R2.out.take (dig (val (L.set xs.length cr.toNat))).length
        rwa [ofN_take, take_dig_len D3.out] at this)
      rw [hlen2.out] at HT
      clear hf hB hC d1 d2 hlo hhi
      go_wp2_with fail
      refine HT.out.mono ?_
      rintro e w' ⟨rfl, rfl⟩
      go_wp2_with fail
      go_ret
      exact HEND.out
end Go.Proofs.YtfjfmlofhifkmaaDoor
