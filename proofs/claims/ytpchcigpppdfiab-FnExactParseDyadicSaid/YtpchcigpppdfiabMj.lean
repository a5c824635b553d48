/-
  Contracts: sums and differences of magnitudes. Conditions: the limbs can be read.
-/
import Derived.Test.YtpchcigpppdfiabMi
namespace Go.Proofs.Ytpchcigpppdfiab
set_option linter.unusedVariables false
open Go Go.RowKit

theorem i64_mask24 (n : Int) : bits .and .i64 n 16777215 = n % 16777216 := by
  have hw : ((BitVec.ofInt 64 n &&& BitVec.ofInt 64 16777215).toNat : Int) = n % 16777216 := by
    have e : BitVec.ofInt 64 16777215 = BitVec.ofNat 64 (2^24-1) := by decide
    rw [e, BitVec.toNat_and, BitVec.toNat_ofInt, BitVec.toNat_ofNat, Nat.mod_eq_of_lt (show 2^24-1 < 2^64 by decide), Nat.and_two_pow_sub_one_eq_mod]
    omega
  show IntKind.i64.wrap ((BitVec.ofInt 64 n &&& BitVec.ofInt 64 16777215).toNat : Int) = _
  rw [hw, IntKind.wrap_i64]
  omega
theorem info_i64' : (Try.prog.info? 2).map (fun i => (i.zero, i.size, i.bytes)) = some (some (.int .i64 0), 1, 8) := info_i64
theorem mk_mag (n : Nat) (h : 8 * n ≤ 281474976710656) : ∀ w, (Instr.makeSlice 109 (.int .i64 (n : Int)) (.int .i64 (n : Int))).run Try.prog w = .ok (.slice (some ⟨w.heap.size, 0, none⟩) n n) (w.alloc (.cells (madeCells #[.int .i64 0] n) 2)) := fun w =>
  run_make_row' 109 2 (.int .i64 0) 8 Try.underlying109 info_i64 rfl .i64 .i64 n h (by omega) w
theorem mk_mag_succ (n : Nat) (h : 8 * (n + 1) ≤ 281474976710656) : ∀ w, (Instr.makeSlice 109 (.int .i64 ((n : Int) + 1)) (.int .i64 ((n : Int) + 1))).run Try.prog w = .ok (.slice (some ⟨w.heap.size, 0, none⟩) (n + 1) (n + 1)) (w.alloc (.cells (madeCells #[.int .i64 0] (n + 1)) 2)) := fun w => by
  have := mk_mag (n + 1) h w
  rwa [Int.natCast_succ] at this

theorem row_mod {wr : World} {g k : Nat} {L : List Nat} (t : Int) (hr : RowI wr g (ofN L)) (hk : k < L.length) : RowI (wr.setCell ⟨g, k, none⟩ (.int .i64 (t % 16777216))) g (ofN (L.set k (t % 16777216).toNat)) := by
  rw [← ofN_set, Int.toNat_of_nonneg (by omega)]
  exact hr.set_ k (by rw [ofN_length]; exact hk) _
theorem row_set {wr : World} {g k : Nat} {L : List Nat} (t : Int) (h0 : 0 ≤ t) (hr : RowI wr g (ofN L)) (hk : k < L.length) : RowI (wr.setCell ⟨g, k, none⟩ (.int .i64 t)) g (ofN (L.set k t.toNat)) := by
  rw [← ofN_set, Int.toNat_of_nonneg h0]
  exact hr.set_ k (by rw [ofN_length]; exact hk) _
theorem add_close {wr : World} {g k : Nat} {xs ys L : List Nat} {f u t : Int} (h : AddInv xs ys (L.set k (u % 16777216).toNat) f (u / 16777216) (k + 1)) (e : u = t) (hr : RowI wr g (ofN L)) (hk : k < L.length) :
    AddInv xs ys (L.set k (t % 16777216).toNat) f (t / 16777216) (k + 1) ∧ RowI (wr.setCell ⟨g, k, none⟩ (.int .i64 (t % 16777216))) g (ofN (L.set k (t % 16777216).toNat)) := by
  subst e
  exact ⟨h, row_mod u hr hk⟩

end Go.Proofs.Ytpchcigpppdfiab
