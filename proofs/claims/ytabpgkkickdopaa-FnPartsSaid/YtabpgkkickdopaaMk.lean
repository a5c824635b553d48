/-
  Contracts: sums and differences of magnitudes. Conditions: the limbs can be read. Appending to rows of the call's own; copies, sums, differences and order of magnitudes. Conditions: the limbs can be read.
-/
import Derived.Test.YtabpgkkickdopaaMi
namespace Go.Proofs.Ytabpgkkickdopaa
set_option linter.unusedVariables false
open Go Go.RowKit

theorem i64_mask24 (n : Int) : bits .and .i64 n 16777215 = n % 16777216 := by
  have hw : ((BitVec.ofInt 64 n &&& BitVec.ofInt 64 16777215).toNat : Int) = n % 16777216 := by
    have e : BitVec.ofInt 64 16777215 = BitVec.ofNat 64 (2^24-1) := by decide
    rw [e, BitVec.toNat_and, BitVec.toNat_ofInt, BitVec.toNat_ofNat, Nat.mod_eq_of_lt (show 2^24-1 < 2^64 by decide), Nat.and_two_pow_sub_one_eq_mod]
    omega
  show IntKind.i64.wrap ((BitVec.ofInt 64 n &&& BitVec.ofInt 64 16777215).toNat : Int) = _
  rw [hw, IntKind.wrap_i64]
  omega
theorem info_i64' : (Try.prog.info? 2).map (fun i => (i.zero, i.size, i.bytes)) = some (some (.int .i64 0), 1, 8) := info_i64
theorem row_mod {wr : World} {g k : Nat} {L : List Nat} (t : Int) (hr : RowI wr g (ofN L)) (hk : k < L.length) : RowI (wr.setCell ⟨g, k, none⟩ (.int .i64 (t % 16777216))) g (ofN (L.set k (t % 16777216).toNat)) := by
  rw [← ofN_set, Int.toNat_of_nonneg (by omega)]
  exact hr.set_ k (by rw [ofN_length]; exact hk) _
theorem row_set {wr : World} {g k : Nat} {L : List Nat} (t : Int) (h0 : 0 ≤ t) (hr : RowI wr g (ofN L)) (hk : k < L.length) : RowI (wr.setCell ⟨g, k, none⟩ (.int .i64 t)) g (ofN (L.set k t.toNat)) := by
  rw [← ofN_set, Int.toNat_of_nonneg h0]
  exact hr.set_ k (by rw [ofN_length]; exact hk) _
theorem add_close {wr : World} {g k : Nat} {xs ys L : List Nat} {f u t : Int} (h : AddInv xs ys (L.set k (u % 16777216).toNat) f (u / 16777216) (k + 1)) (e : u = t) (hr : RowI wr g (ofN L)) (hk : k < L.length) :
    AddInv xs ys (L.set k (t % 16777216).toNat) f (t / 16777216) (k + 1) ∧ RowI (wr.setCell ⟨g, k, none⟩ (.int .i64 (t % 16777216))) g (ofN (L.set k (t % 16777216).toNat)) := by
  subst e
  exact ⟨h, row_mod u hr hk⟩

/-- A slice value owns the numbers xs. -/
def OwnV (w : World) (lo : Nat) (v : Value) (xs : List Int) : Prop := w.ownsRow lo 2 1 v xs.length (xs.map (Value.int .i64))
theorem OwnV.parts {w : World} {lo : Nat} {v : Value} {xs : List Int} (h : OwnV w lo v xs) : ∃ a c, v = .slice a xs.length c ∧ xs.length ≤ c ∧ c ≤ 9223372036854775807 ∧ Own w lo a xs := by
  obtain ⟨_, h | ⟨g, cap, cur, rfl, hb, hg, hn, hm, hs, ht⟩⟩ := h
  · obtain ⟨rfl, h0⟩ := h
    have : xs = [] := List.eq_nil_of_length_eq_zero h0
    subst this
    exact ⟨none, 0, rfl, Nat.le_refl _, by omega, .inl rfl⟩
  · refine ⟨_, _, rfl, hn, by unfold maxLen at hm; omega, Own.row ⟨cur, hg, fun i hi => ?_⟩ hb⟩
    have : (cur.toList.take (xs.length * 1))[i]? = (xs.map (Value.int .i64))[i]? := by rw [ht]
    rw [List.getElem?_take, if_pos (by omega), List.getElem?_map, List.getElem?_eq_getElem hi] at this
    simpa using this
theorem OwnV.nil (w : World) (lo : Nat) : OwnV w lo (.slice none 0 0) [] := World.ownsRow_nil w lo _ 1
theorem OwnV.alloc {w : World} {lo : Nat} {v : Value} {xs : List Int} (h : OwnV w lo v xs) (o : Obj) : OwnV (w.alloc o) lo v xs := World.ownsRow.alloc h o
theorem OwnV.drewN {w : World} {lo : Nat} {v : Value} {xs : List Int} (h : OwnV w lo v xs) (n : Nat) : OwnV (w.drewN n) lo v xs := h
theorem OwnV.empty (w : World) (lo : Nat) (hb : lo ≤ w.heap.size) : OwnV (w.alloc (.cells #[] 2)) lo (.slice (some ⟨w.heap.size, 0, none⟩) 0 0) [] := World.ownsRow_made w #[] 0 hb (by unfold maxLen; omega) rfl
theorem OwnV.lt {w : World} {lo : Nat} {v : Value} {xs : List Int} (h : OwnV w lo v xs) : ∀ g, v.ownBlock = some g → lo ≤ g := fun g hg => (World.ownsRow.lt h g hg).1
/-- Onto numbers of the call's own others are appended. -/
theorem wp_app {ops : Array Oper} {rest : List Oper} {o : Oper} {a : Act} {Q : Exit → Act → World → Prop} {w : World} (hgd : o.guard = none) (s x : Operand) (t : TypeId)
    (ho : o.op = .call { callee := .builtin .append, args := #[s, x], argTypes := #[t, t] }) (ht : Try.prog.underlying t = some (.slice 2))
    (lo : Nat) (v : Value) (xs : List Int) (hown : OwnV w lo v xs) (hs : a.eval s = v) (ad : Addr) (m c : Nat) (ys : List Int) (hx : a.eval x = .slice (some ad) m c) (hm : m = ys.length)
    (hy : ∀ (i : Nat) (h : i < ys.length), w.cell? (ad.add i) = some (.int .i64 ys[i])) (hlen : xs.length + ys.length ≤ 8388608) (hbase : lo ≤ w.heap.size)
    (h : ∀ v' w', OwnV w' lo v' (xs ++ ys) → w.grownBy w' v.ownBlock → wpList Try.prog ops Q rest (a.put o.dst v') w') : wpList Try.prog ops Q (o :: rest) a w := by
  obtain ⟨i0, hi, hz0, hz1, hz2⟩ := info_parts info_i64
  subst hm
  refine wpList_append_own _ hgd s x t ho lo 2 i0 (.int .i64 0) 1 8 ht hi hz0 hz1 hz2 rfl (by decide) v xs.length (xs.map (Value.int .i64)) hs hown ad ys.length c (ys.map (Value.int .i64)) hx (by simp) ?_ (by intro u hu; simp at hu; obtain ⟨_, _, rfl⟩ := hu; rfl) (by unfold maxLen; omega) (by omega) hbase ?_
  · intro j u hu
    rw [List.getElem?_map, Option.map_eq_some_iff] at hu
    obtain ⟨y, hy', rfl⟩ := hu
    obtain ⟨hj, rfl⟩ := List.getElem?_eq_some_iff.1 hy'
    exact hy j hj
  intro v' w' h1 h2 _
  refine h v' w' ?_ h2
  unfold OwnV
  rw [List.length_append, List.map_append]
  exact h1
theorem ints_add {w : World} {B : Nat} {ad : Addr} {ys : List Int} (h : Ints w B (some ad) ys) : ∀ (i : Nat) (h : i < ys.length), w.cell? (ad.add i) = some (.int .i64 ys[i]) := fun i hi => by
  obtain ⟨c, o, ha, _, hc⟩ := h i hi
  injection ha with ha
  subst ha
  have hadd : (⟨c, o, none⟩ : Addr).add i = ⟨c, o + i, none⟩ := by
    by_cases h0 : i = 0
    · subst h0; simp [Addr.add]
    · simp [Addr.add, h0]
  rw [hadd]; exact hc

theorem lim_le_of_le {m n : Nat} (h : m ≤ n) : (lim m).length ≤ (lim n).length := by
  rw [lim_length, lim_length]
  exact dig_length_le (Nat.lt_of_le_of_lt h (dig_lt n))

/-- The order of two numbers: -1, 0 or 1. -/
def cmpZ (x y : Int) : Int := if x < y then -1 else if y < x then 1 else 0
theorem cmpZ_lt {x y : Int} (h : x < y) : cmpZ x y = -1 := if_pos h
theorem cmpZ_gt {x y : Int} (h : y < x) : cmpZ x y = 1 := by unfold cmpZ; rw [if_neg (by omega), if_pos h]
theorem cmpZ_eq {x y : Int} (h : x = y) : cmpZ x y = 0 := by unfold cmpZ; rw [if_neg (by omega), if_neg (by omega)]

end Go.Proofs.Ytabpgkkickdopaa
