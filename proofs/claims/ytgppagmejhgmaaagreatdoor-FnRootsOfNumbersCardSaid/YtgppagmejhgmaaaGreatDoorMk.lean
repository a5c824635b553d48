/-
  Contracts: sums and differences of magnitudes. Conditions: the limbs can be read. Appending to rows of the call's own; copies, sums, differences and order of magnitudes. Conditions: the limbs can be read.
-/
import Derived.Test.YtgppagmejhgmaaaGreatDoorMi
namespace Go.Proofs.YtgppagmejhgmaaaGreatDoor
set_option linter.unusedVariables false
open Go Go.RowKit

theorem i64_mask24 (n : Int) : bits .and .i64 n 16777215 = n % 16777216 := by
  have hw : ((BitVec.ofInt 64 n &&& BitVec.ofInt 64 16777215).toNat : Int) = n % 16777216 := by
    have e : BitVec.ofInt 64 16777215 = BitVec.ofNat 64 (2^24-1) := by decide
    rw [e, BitVec.toNat_and, BitVec.toNat_ofInt, BitVec.toNat_ofNat, Nat.mod_eq_of_lt (show 2^24-1 < 2^64 by decide), Nat.and_two_pow_sub_one_eq_mod]
    omega
  show IntKind.i64.wrap ((BitVec.ofInt 64 n &&& BitVec.ofInt 64 16777215).toNat : Int) = _
  rw [hw, IntKind.wrap_i64]
  omega
theorem info_i64' : (Tryz.prog.info? 2).map (fun i => (i.zero, i.size, i.bytes)) = some (some (.int .i64 0), 1, 8) := info_i64
theorem mk_mag (n : Nat) (h : 8 * n ≤ 281474976710656) : ∀ w, (Instr.makeSlice 92 (.int .i64 (n : Int)) (.int .i64 (n : Int))).run Tryz.prog w = .ok (.slice (some ⟨w.heap.size, 0, none⟩) n n) (w.alloc (.cells (madeCells #[.int .i64 0] n) 2)) := fun w =>
  run_make_row' 92 2 (.int .i64 0) 8 Tryz.underlying92 info_i64 rfl .i64 .i64 n h (by omega) w
theorem mk_mag_succ (n : Nat) (h : 8 * (n + 1) ≤ 281474976710656) : ∀ w, (Instr.makeSlice 92 (.int .i64 ((n : Int) + 1)) (.int .i64 ((n : Int) + 1))).run Tryz.prog w = .ok (.slice (some ⟨w.heap.size, 0, none⟩) (n + 1) (n + 1)) (w.alloc (.cells (madeCells #[.int .i64 0] (n + 1)) 2)) := fun w => by
  have := mk_mag (n + 1) h w
  rwa [Int.natCast_succ] at this

theorem row_mod {wr : World} {g k : Nat} {L : List Nat} (t : Int) (hr : RowI wr g (ofN L)) (hk : k < L.length) : RowI (wr.setCell ⟨g, k, none⟩ (.int .i64 (t % 16777216))) g (ofN (L.set k (t % 16777216).toNat)) := by
  rw [← ofN_set, Int.toNat_of_nonneg (by omega)]
  exact hr.set_ k (by rw [ofN_length]; exact hk) _
theorem row_set {wr : World} {g k : Nat} {L : List Nat} (t : Int) (h0 : 0 ≤ t) (hr : RowI wr g (ofN L)) (hk : k < L.length) : RowI (wr.setCell ⟨g, k, none⟩ (.int .i64 t)) g (ofN (L.set k t.toNat)) := by
  rw [← ofN_set, Int.toNat_of_nonneg h0]
  exact hr.set_ k (by rw [ofN_length]; exact hk) _
theorem add_close {wr : World} {g k : Nat} {xs ys L : List Nat} {f u t : Int} (h : AddInv xs ys (L.set k (u % 16777216).toNat) f (u / 16777216) (k + 1)) (e : u = t) (hr : RowI wr g (ofN L)) (hk : k < L.length) :
    AddInv xs ys (L.set k (t % 16777216).toNat) f (t / 16777216) (k + 1) ∧ RowI (wr.setCell ⟨g, k, none⟩ (.int .i64 (t % 16777216))) g (ofN (L.set k (t % 16777216).toNat)) := by
  subst e
  exact ⟨h, row_mod u hr hk⟩

set_option maxHeartbeats 1000000 in
theorem iPlusMul (a b : Option Addr) (xs ys : List Nat) (c1 c2 : Nat) (f : Int) (hf : f = 1 ∨ f = -1) (w : World) (B C : Nat) (hB : B ≤ w.heap.size) (hC : C ≤ w.heap.size) (hx : Ints w B a (ofN xs)) (hy : Ints w C b (ofN ys))
    (sx : Small xs) (sy : Small ys) (hle : ys.length ≤ xs.length) (h0 : 0 ≤ (val xs : Int) + f * val ys) (hl : xs.length ≤ 1048576) :
    Calls Tryz.prog 137 #[.slice a xs.length c1, .slice b ys.length c2, .int .i64 f] w (RetL (lim ((val xs : Int) + f * val ys).toNat) w) := by
  have HX := Lib.hid hx
  have HY := Lib.hid hy
  have SX := Lib.hid sx
  have SY := Lib.hid sy
  have H0 := Lib.hid h0
  have HF := Lib.hid hf
  have HLE := Lib.hid hle
  have hmk := mk_mag_succ xs.length (by omega)
  have hl2 : xs.length ≤ 9223372036854775806 := by omega
  have hl3 : ys.length ≤ 9223372036854775806 := by omega
  have HL := Lib.hid hl
  clear hx hy sx sy h0 hle hl
  have hm := i64_mask24
  go_enter Tryz.func137, Tryz.ntmps137
  go_wp2
  clear hmk
  go_loopw [17, 8] (fun i q wr => ∃ (k : Nat) (L : List Nat) (cr : Int), k ≤ xs.length ∧ i = .int .i64 k ∧ q = .int .i64 cr ∧ AddInv xs ys L f cr k ∧ RowI wr w.heap.size (ofN L) ∧ Below w.heap.size w wr) (fun i _ _ => xs.length - (intOf i).toNat)
  case atStart => exact ⟨0, _, 0, Nat.zero_le _, rfl, rfl, addInv_start xs ys f, by rw [ofN_zeros]; exact RowI.made w _, (Below.refl _ _).alloc (Nat.le_refl _) _⟩
  case round =>
    obtain ⟨k, L, cr, hk, rfl, rfl, hinv, hrow, hbel⟩ := hrel
    have HI := Lib.hid hinv
    have HR := Lib.hid hrow
    have HB := Lib.hid hbel
    have hlo := hinv.lo
    have hhi := hinv.hi
    have hlen := Lib.hid hinv.len
    clear hrow hbel hinv
    by_cases hkn : k < xs.length
    · obtain ⟨c', o, ha, hcB, hcell⟩ := HX.out k (by rw [ofN_length]; exact hkn)
      rw [ofN_at] at hcell
      subst ha
      obtain ⟨x, hxk⟩ : ∃ x : Nat, x = xs[k] := ⟨_, rfl⟩
      rw [← hxk] at hcell
      have hxb : (x : Int) < 16777216 := by have := SX.out k hkn; omega
      have HXK := Lib.hid hxk
      have hkI : (k : Int) < (xs.length : Int) := by omega
      have h1 : wr.cell? ⟨c', o + k, none⟩ = some (.int .i64 x) := by rw [HB.out.cell (p := ⟨c', o + k, none⟩) (by show c' < _; omega)]; exact hcell
      have h2 := HR.out.cell k (by rw [ofN_length]; have := hlen.out; omega)
      have h3 := HR.out.frozen k
      have hkL : (k : Int) < (xs.length : Int) + 1 := by omega
      clear hcell hxk
      have HSP := Lib.hid (addInv_step HI.out SX.out SY.out hkn HF.out)
      by_cases hky : k < ys.length
      · obtain ⟨c'', o', ha', hcC, hcell'⟩ := HY.out k (by rw [ofN_length]; exact hky)
        rw [ofN_at] at hcell'
        subst ha'
        obtain ⟨y, hyk⟩ : ∃ y : Nat, y = ys[k] := ⟨_, rfl⟩
        rw [← hyk] at hcell'
        have hyb : (y : Int) < 16777216 := by have := SY.out k hky; omega
        have HYK := Lib.hid (show ys.getD k 0 = y from (getD_of_lt hky).trans hyk.symm)
        have hkJ : (k : Int) < (ys.length : Int) := by omega
        have h1' : wr.cell? ⟨c'', o' + k, none⟩ = some (.int .i64 y) := by rw [HB.out.cell (p := ⟨c'', o' + k, none⟩) (by show c'' < _; omega)]; exact hcell'
        clear hcell' hyk
        rcases HF.out with rfl | rfl
        · go_wp2
          go_roundw
          case rel =>
            obtain ⟨g1, g2⟩ := add_close (t := cr + (x : Int) + (y : Int)) HSP.out (by rw [← HXK.out, HYK.out]; rw [Int.mul_one]) HR.out (by have := hlen.out; omega)
            exact ⟨k + 1, _, _, by omega, by go_num, rfl, g1, g2, HB.out.setCell (Nat.le_refl _) _⟩
          case measure => simp [intOf]; omega
        · go_wp2
          go_roundw
          case rel =>
            obtain ⟨g1, g2⟩ := add_close (t := cr + (x : Int) + -(y : Int)) HSP.out (by rw [← HXK.out, HYK.out]; rw [Int.mul_neg, Int.mul_one]) HR.out (by have := hlen.out; omega)
            exact ⟨k + 1, _, _, by omega, by go_num, rfl, g1, g2, HB.out.setCell (Nat.le_refl _) _⟩
          case measure => simp [intOf]; omega
      · have hd : decide ((k : Int) < (ys.length : Int)) = false := decide_eq_false (by omega)
        have HYK := Lib.hid (getD_of_ge (ys := ys) (i := k) (by omega))
        go_wp2
        go_roundw
        case rel =>
          obtain ⟨g1, g2⟩ := add_close (t := cr + (x : Int)) HSP.out (by rw [← HXK.out, HYK.out]; simp) HR.out (by have := hlen.out; omega)
          exact ⟨k + 1, _, _, by omega, by go_num, rfl, g1, g2, HB.out.setCell (Nat.le_refl _) _⟩
        case measure => simp [intOf]; omega
    · obtain rfl : k = xs.length := by omega
      have hdone := addInv_done HI.out HLE.out H0.out
      obtain ⟨d1, d2, d3, d4⟩ := hdone
      have D3 := Lib.hid d3
      have D4 := Lib.hid d4
      have h2 := HR.out.cell xs.length (by rw [ofN_length]; have := hlen.out; omega)
      have h3 := HR.out.frozen xs.length
      have R2 := Lib.hid (row_set cr d1 HR.out (k := xs.length) (by have := hlen.out; omega))
      have hlen2 := Lib.hid (show (L.set xs.length cr.toNat).length = xs.length + 1 by rw [List.length_set]; exact hlen.out)
      clear d3 d4
      have HT := Lib.hid (iTrimmed (some ⟨w.heap.size, 0, none⟩) (L.set xs.length cr.toNat) (xs.length + 1) _ _ R2.out.ints D3.out (by rw [hlen2.out]; exact Nat.le_refl _) (by omega))
      have HEND := Lib.hid (show RetL (lim ((val xs : Int) + f * val ys).toNat) w (.returned (.slice (some ⟨w.heap.size, 0, none⟩) (dig (val (L.set xs.length cr.toNat))).length (xs.length + 1))) (wr.setCell ⟨w.heap.size, xs.length, none⟩ (.int .i64 cr)) from by
        have hv : val (L.set xs.length cr.toNat) = ((val xs : Int) + f * val ys).toNat := by have := D4.out; omega
        have hle := dig_length_val_le D3.out
        rw [hlen2.out] at hle
        rw [← hv]
        refine ⟨_, _, by rw [lim_length], by rw [lim_length]; exact hle, Own.row ?_ (Nat.le_refl _), HB.out.setCell (Nat.le_refl _) _⟩
        have := R2.out.take (dig (val (L.set xs.length cr.toNat))).length
        rwa [ofN_take, take_dig_len D3.out] at this)
      rw [hlen2.out] at HT
      clear hf hB hC d1 d2 hlo hhi
      go_wp2_with fail
      refine HT.out.mono ?_
      rintro e w' ⟨rfl, rfl⟩
      go_wp2_with fail
      go_ret
      exact HEND.out

/-- A slice value owns the numbers xs. -/
def OwnV (w : World) (lo : Nat) (v : Value) (xs : List Int) : Prop := w.ownsRow lo 2 1 v xs.length (xs.map (Value.int .i64))
theorem OwnV.parts {w : World} {lo : Nat} {v : Value} {xs : List Int} (h : OwnV w lo v xs) : ∃ a c, v = .slice a xs.length c ∧ xs.length ≤ c ∧ c ≤ 9223372036854775807 ∧ Own w lo a xs := by
  obtain ⟨_, h | ⟨g, cap, cur, rfl, hb, hg, hn, hm, hs, ht⟩⟩ := h
  · obtain ⟨rfl, h0⟩ := h
    have : xs = [] := List.eq_nil_of_length_eq_zero h0
    subst this
    exact ⟨none, 0, rfl, Nat.le_refl _, by omega, .inl rfl⟩
  · refine ⟨_, _, rfl, hn, by unfold maxLen at hm; omega, Own.row ⟨cur, hg, fun i hi => ?_⟩ hb⟩
    have : (cur.toList.take (xs.length * 1))[i]? = (xs.map (Value.int .i64))[i]? := by rw [ht]
    rw [List.getElem?_take, if_pos (by omega), List.getElem?_map, List.getElem?_eq_getElem hi] at this
    simpa using this
theorem OwnV.nil (w : World) (lo : Nat) : OwnV w lo (.slice none 0 0) [] := World.ownsRow_nil w lo _ 1
theorem OwnV.alloc {w : World} {lo : Nat} {v : Value} {xs : List Int} (h : OwnV w lo v xs) (o : Obj) : OwnV (w.alloc o) lo v xs := World.ownsRow.alloc h o
theorem OwnV.drewN {w : World} {lo : Nat} {v : Value} {xs : List Int} (h : OwnV w lo v xs) (n : Nat) : OwnV (w.drewN n) lo v xs := h
theorem OwnV.empty (w : World) (lo : Nat) (hb : lo ≤ w.heap.size) : OwnV (w.alloc (.cells #[] 2)) lo (.slice (some ⟨w.heap.size, 0, none⟩) 0 0) [] := World.ownsRow_made w #[] 0 hb (by unfold maxLen; omega) rfl
theorem OwnV.lt {w : World} {lo : Nat} {v : Value} {xs : List Int} (h : OwnV w lo v xs) : ∀ g, v.ownBlock = some g → lo ≤ g := fun g hg => (World.ownsRow.lt h g hg).1
/-- Onto numbers of the call's own others are appended. -/
theorem wp_app {ops : Array Oper} {rest : List Oper} {o : Oper} {a : Act} {Q : Exit → Act → World → Prop} {w : World} (hgd : o.guard = none) (s x : Operand) (t : TypeId)
    (ho : o.op = .call { callee := .builtin .append, args := #[s, x], argTypes := #[t, t] }) (ht : Tryz.prog.underlying t = some (.slice 2))
    (lo : Nat) (v : Value) (xs : List Int) (hown : OwnV w lo v xs) (hs : a.eval s = v) (ad : Addr) (m c : Nat) (ys : List Int) (hx : a.eval x = .slice (some ad) m c) (hm : m = ys.length)
    (hy : ∀ (i : Nat) (h : i < ys.length), w.cell? (ad.add i) = some (.int .i64 ys[i])) (hlen : xs.length + ys.length ≤ 8388608) (hbase : lo ≤ w.heap.size)
    (h : ∀ v' w', OwnV w' lo v' (xs ++ ys) → w.grownBy w' v.ownBlock → wpList Tryz.prog ops Q rest (a.put o.dst v') w') : wpList Tryz.prog ops Q (o :: rest) a w := by
  obtain ⟨i0, hi, hz0, hz1, hz2⟩ := info_parts info_i64
  subst hm
  refine wpList_append_own _ hgd s x t ho lo 2 i0 (.int .i64 0) 1 8 ht hi hz0 hz1 hz2 rfl (by decide) v xs.length (xs.map (Value.int .i64)) hs hown ad ys.length c (ys.map (Value.int .i64)) hx (by simp) ?_ (by intro u hu; simp at hu; obtain ⟨_, _, rfl⟩ := hu; rfl) (by unfold maxLen; omega) (by omega) hbase ?_
  · intro j u hu
    rw [List.getElem?_map, Option.map_eq_some_iff] at hu
    obtain ⟨y, hy', rfl⟩ := hu
    obtain ⟨hj, rfl⟩ := List.getElem?_eq_some_iff.1 hy'
    exact hy j hj
  intro v' w' h1 h2 _
  refine h v' w' ?_ h2
  unfold OwnV
  rw [List.length_append, List.map_append]
  exact h1
theorem ints_add {w : World} {B : Nat} {ad : Addr} {ys : List Int} (h : Ints w B (some ad) ys) : ∀ (i : Nat) (h : i < ys.length), w.cell? (ad.add i) = some (.int .i64 ys[i]) := fun i hi => by
  obtain ⟨c, o, ha, _, hc⟩ := h i hi
  injection ha with ha
  subst ha
  have hadd : (⟨c, o, none⟩ : Addr).add i = ⟨c, o + i, none⟩ := by
    by_cases h0 : i = 0
    · subst h0; simp [Addr.add]
    · simp [Addr.add, h0]
  rw [hadd]; exact hc

set_option maxHeartbeats 400000 in
theorem iClone (a : Option Addr) (xs : List Int) (c : Nat) (w : World) (B : Nat) (hB : B ≤ w.heap.size) (hl : xs.length ≤ 8388608) (hx : Ints w B a xs) :
    Calls Tryz.prog 142 #[.slice a xs.length c] w (RetL xs w) := by
  have hnil := fun (W : World) (a : Option Addr) (n c : Nat) => Lib.run_eql_slice_nil W 92 2 a n c 0 0 Tryz.underlying92
  cases a with
  | none =>
    have h0 : xs = [] := by
      rcases Nat.eq_zero_or_pos xs.length with h | h
      · exact List.eq_nil_of_length_eq_zero h
      · obtain ⟨_, _, he, _⟩ := hx 0 h; cases he
    subst h0
    clear hx hl
    simp only [List.length_nil]
    go_enter Tryz.func142, Tryz.ntmps142
    go_wp2
    go_ret
    exact ⟨none, 0, rfl, Nat.le_refl _, .inl rfl, (by repeat (first | exact Below.refl _ _ | assumption | refine Below.alloc ?_ (by simp <;> omega) _ | refine Below.setCell ?_ (by simp <;> omega) _ | refine below_drewN ?_ _))⟩
  | some ad =>
    have HX := Lib.hid hx
    have HL := Lib.hid hl
    clear hx hl
    go_enter Tryz.func142, Tryz.ntmps142
    go_wp2_with (at_builtin; refine wp_app rfl _ _ 92 rfl Tryz.underlying92 w.heap.size _ [] (OwnV.empty w _ (Nat.le_refl _)) rfl ad xs.length c xs rfl rfl (ints_add (HX.out.alloc hB _)) (by have := HL.out; simp; omega) (by simp) ?_; intro v' w' hown hgrow)
    obtain ⟨a', c', rfl, hc', _, ho⟩ := hown.parts
    have HO := Lib.hid ho
    have HB := Lib.hid ((Below.alloc (Below.refl w.heap.size w) (Nat.le_refl _) (.cells #[] 2)).grown hgrow (by simp) (fun g hg => by simp [Value.ownBlock] at hg; omega))
    clear ho hgrow hown
    go_wp2_with fail
    go_ret
    exact ⟨_, _, rfl, hc', HO.out, HB.out⟩

theorem iPlusMul' (a b : Option Addr) (m n : Nat) (c1 c2 : Nat) (f : Int) (hf : f = 1 ∨ f = -1) (w : World) (B C : Nat) (hB : B ≤ w.heap.size) (hC : C ≤ w.heap.size) (hx : Ints w B a (lim m)) (hy : Ints w C b (lim n))
    (hle : (lim n).length ≤ (lim m).length) (h0 : 0 ≤ (m : Int) + f * n) (hl : (lim m).length ≤ 1048576) :
    Calls Tryz.prog 137 #[.slice a (lim m).length c1, .slice b (lim n).length c2, .int .i64 f] w (RetL (lim ((m : Int) + f * n).toNat) w) := by
  rw [lim_length] at hl
  rw [lim_length, lim_length] at hle ⊢
  have := iPlusMul a b (dig m) (dig n) c1 c2 f hf w B C hB hC hx hy (small_dig m) (small_dig n) hle (by rw [val_dig, val_dig]; exact h0) hl
  rwa [val_dig, val_dig] at this

set_option maxHeartbeats 400000 in
theorem iMagPlus (a b : Option Addr) (m n : Nat) (c1 c2 : Nat) (w : World) (B C : Nat) (hB : B ≤ w.heap.size) (hC : C ≤ w.heap.size) (hx : Ints w B a (lim m)) (hy : Ints w C b (lim n))
    (hl : (lim m).length ≤ 1048576) (hl' : (lim n).length ≤ 1048576) :
    Calls Tryz.prog 118 #[.slice a (lim m).length c1, .slice b (lim n).length c2] w (RetL (lim (m + n)) w) := by
  by_cases h : (lim m).length < (lim n).length
  · have H := Lib.hid (iPlusMul' b a n m c2 c1 1 (.inl rfl) w C B hC hB hy hx (by omega) (by omega) hl')
    rw [show ((n : Int) + 1 * (m : Int)).toNat = m + n by omega] at H
    clear hx hy hl hl'
    go_enter Tryz.func118, Tryz.ntmps118
    go_wp2_with (go_at_call 137; refine H.out.mono ?_; rintro e w' ⟨a', c', rfl, h1, h2, h3⟩)
    go_ret
    exact ⟨_, _, rfl, h1, h2, h3⟩
  · have H := Lib.hid (iPlusMul' a b m n c1 c2 1 (.inl rfl) w B C hB hC hx hy (by omega) (by omega) hl)
    rw [show ((m : Int) + 1 * (n : Int)).toNat = m + n by omega] at H
    have hd : decide ((lim m).length < (lim n).length) = false := decide_eq_false h
    clear hx hy hl hl' h
    go_enter Tryz.func118, Tryz.ntmps118
    go_wp2_with (go_at_call 137; refine H.out.mono ?_; rintro e w' ⟨a', c', rfl, h1, h2, h3⟩)
    go_ret
    exact ⟨_, _, rfl, h1, h2, h3⟩
theorem lim_le_of_le {m n : Nat} (h : m ≤ n) : (lim m).length ≤ (lim n).length := by
  rw [lim_length, lim_length]
  exact dig_length_le (Nat.lt_of_le_of_lt h (dig_lt n))

set_option maxHeartbeats 400000 in
theorem iMagMinus (a b : Option Addr) (m n : Nat) (c1 c2 : Nat) (w : World) (B C : Nat) (hB : B ≤ w.heap.size) (hC : C ≤ w.heap.size) (hx : Ints w B a (lim m)) (hy : Ints w C b (lim n))
    (hl : (lim m).length ≤ 1048576) (hmn : n ≤ m) :
    Calls Tryz.prog 121 #[.slice a (lim m).length c1, .slice b (lim n).length c2] w (RetL (lim (m - n)) w) := by
  have H := Lib.hid (iPlusMul' a b m n c1 c2 (-1) (.inr rfl) w B C hB hC hx hy (lim_le_of_le hmn) (by omega) hl)
  rw [show ((m : Int) + -1 * (n : Int)).toNat = m - n by omega] at H
  clear hx hy hl
  go_enter Tryz.func121, Tryz.ntmps121
  go_wp2_with (go_at_call 137; refine H.out.mono ?_; rintro e w' ⟨a', c', rfl, h1, h2, h3⟩)
  go_ret
  exact ⟨_, _, rfl, h1, h2, h3⟩

/-- The order of two numbers: -1, 0 or 1. -/
def cmpZ (x y : Int) : Int := if x < y then -1 else if y < x then 1 else 0
theorem cmpZ_lt {x y : Int} (h : x < y) : cmpZ x y = -1 := if_pos h
theorem cmpZ_gt {x y : Int} (h : y < x) : cmpZ x y = 1 := by unfold cmpZ; rw [if_neg (by omega), if_pos h]
theorem cmpZ_eq {x y : Int} (h : x = y) : cmpZ x y = 0 := by unfold cmpZ; rw [if_neg (by omega), if_neg (by omega)]

set_option maxHeartbeats 400000 in
theorem isNaNInt (x : Int) (w : World) : Calls Tryz.prog 144 #[.int .i64 x] w fun e w' => e = .returned (.bool false) ∧ w = w' := by
  have hz : (x != x) = false := by simp
  go_enter Tryz.func144, Tryz.ntmps144
  go_wp2
  go_ret
  exact ⟨rfl, rfl⟩
set_option maxHeartbeats 400000 in
theorem isNaNI64 (x : Int) (w : World) : Calls Tryz.prog 139 #[.int .i64 x] w fun e w' => e = .returned (.bool false) ∧ w = w' := by
  have hz : (x != x) = false := by simp
  go_enter Tryz.func139, Tryz.ntmps139
  go_wp2
  go_ret
  exact ⟨rfl, rfl⟩
set_option maxHeartbeats 400000 in
theorem cmpInt (x y : Int) (w : World) : Calls Tryz.prog 138 #[.int .i64 x, .int .i64 y] w fun e w' => e = .returned (.int .i64 (cmpZ x y)) ∧ w = w' := by
  rcases Int.lt_trichotomy x y with h | h | h
  · rw [cmpZ_lt h]
    go_enter Tryz.func138, Tryz.ntmps138
    go_wp2_with (go_at_call 144; refine (isNaNInt _ _).mono ?_; rintro e w' ⟨rfl, rfl⟩)
    go_ret
    exact ⟨rfl, rfl⟩
  · rw [cmpZ_eq h]
    subst h
    go_enter Tryz.func138, Tryz.ntmps138
    go_wp2_with (go_at_call 144; refine (isNaNInt _ _).mono ?_; rintro e w' ⟨rfl, rfl⟩)
    go_ret
    exact ⟨rfl, rfl⟩
  · rw [cmpZ_gt h]
    have hd : decide (x < y) = false := decide_eq_false (by omega)
    go_enter Tryz.func138, Tryz.ntmps138
    go_wp2_with (go_at_call 144; refine (isNaNInt _ _).mono ?_; rintro e w' ⟨rfl, rfl⟩)
    go_ret
    exact ⟨rfl, rfl⟩
set_option maxHeartbeats 400000 in
theorem cmpI64 (x y : Int) (w : World) : Calls Tryz.prog 122 #[.int .i64 x, .int .i64 y] w fun e w' => e = .returned (.int .i64 (cmpZ x y)) ∧ w = w' := by
  rcases Int.lt_trichotomy x y with h | h | h
  · rw [cmpZ_lt h]
    go_enter Tryz.func122, Tryz.ntmps122
    go_wp2_with (go_at_call 139; refine (isNaNI64 _ _).mono ?_; rintro e w' ⟨rfl, rfl⟩)
    go_ret
    exact ⟨rfl, rfl⟩
  · rw [cmpZ_eq h]
    subst h
    go_enter Tryz.func122, Tryz.ntmps122
    go_wp2_with (go_at_call 139; refine (isNaNI64 _ _).mono ?_; rintro e w' ⟨rfl, rfl⟩)
    go_ret
    exact ⟨rfl, rfl⟩
  · rw [cmpZ_gt h]
    have hd : decide (x < y) = false := decide_eq_false (by omega)
    go_enter Tryz.func122, Tryz.ntmps122
    go_wp2_with (go_at_call 139; refine (isNaNI64 _ _).mono ?_; rintro e w' ⟨rfl, rfl⟩)
    go_ret
    exact ⟨rfl, rfl⟩
end Go.Proofs.YtgppagmejhgmaaaGreatDoor
