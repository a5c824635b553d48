/-
  Contracts of the model's limbs: sums, differences, order. Conditions: the limbs can be read.
-/
import Derived.Test.YtfjfmlofhifkmaaDoorTa
namespace Go.Proofs.YtfjfmlofhifkmaaDoor
set_option linter.unusedVariables false
open Go Go.RowKit

/-- Small limbs of value v in new memory. -/
structure VL (w : World) (lo : Nat) (L : List Nat) (v : Nat) (a : Option Addr) (c : Nat) : Prop where
  small : Small L
  value : val L = v
  fit : L.length ≤ c
  cap : c ≤ 9223372036854775807
  len : L.length ≤ 4194304
  own : Own w lo a (ofN L)
theorem VL.mono {w : World} {lo lo' : Nat} {L : List Nat} {v : Nat} {a : Option Addr} {c : Nat} (h : VL w lo L v a c) (hl : lo' ≤ lo) : VL w lo' L v a c := ⟨h.small, h.value, h.fit, h.cap, h.len, h.own.mono hl⟩
theorem VL.below {w w' : World} {lo : Nat} {L : List Nat} {v : Nat} {a : Option Addr} {c : Nat} (h : VL w lo L v a c) (hb : Below w.heap.size w w') : VL w' lo L v a c := ⟨h.small, h.value, h.fit, h.cap, h.len, h.own.below hb⟩
/-- The call returned small limbs of value v in new memory. -/
def RetV (v : Nat) (w : World) (e : Ending) (w' : World) : Prop := ∃ (L : List Nat) (a : Option Addr) (c : Nat), e = .returned (.slice a L.length c) ∧ VL w' w.heap.size L v a c ∧ Below w.heap.size w w'

/-- One number is appended to numbers of the call's own. -/
theorem wp_app1 {ops : Array Oper} {rest : List Oper} {o : Oper} {a : Act} {Q : Exit → Act → World → Prop} {w : World} (hgd : o.guard = none) (s x : Operand) (t : TypeId)
    (ho : o.op = .call { callee := .builtin .append, args := #[s, x], argTypes := #[t, t] }) (ht : Tryd.prog.underlying t = some (.slice 2))
    (V : World) (z : Int) (hW : w = V.alloc (.cells #[.int .i64 z] 2)) (lo : Nat) (v : Value) (xs : List Int) (hown : OwnV V lo v xs) (hs : a.eval s = v)
    (hx : a.eval x = .slice (some ⟨V.heap.size, 0, none⟩) 1 1) (hlen : xs.length ≤ 8388607) (hbase : lo ≤ V.heap.size)
    (h : ∀ v' w', OwnV w' lo v' (xs ++ [z]) → (∀ B, B ≤ V.heap.size → B ≤ lo → Below B V w') → V.heap.size ≤ w'.heap.size → wpList Tryd.prog ops Q rest (a.put o.dst v') w') : wpList Tryd.prog ops Q (o :: rest) a w := by
  subst hW
  refine wp_app hgd s x t ho ht lo v xs (hown.alloc _) hs ⟨V.heap.size, 0, none⟩ 1 1 [z] hx rfl ?_ (by simp; omega) (by simp; omega) ?_
  · intro i hi
    simp at hi
    subst hi
    simp [Addr.add]
  · intro v' w' h1 h2
    refine h v' w' h1 (fun B hB hl => ((Below.refl B V).alloc hB _).grown h2 (by simp; omega) (fun g hg => Nat.le_trans hl (hown.lt g hg))) ?_
    have := h2.size
    simp at this
    omega

structure PlusInv (xs ys L : List Nat) (c k : Nat) : Prop where
  len : L.length = k
  small : Small L
  hi : c ≤ 1
  sum : val L + 16777216 ^ k * c = val (xs.take k) + val (ys.take k)
theorem small_snoc {L : List Nat} (h : Small L) {x : Nat} (hx : x < 16777216) : Small (L ++ [x]) := small_append h (small_cons hx small_nil)
theorem val_snoc (L : List Nat) (x : Nat) : val (L ++ [x]) = val L + 16777216 ^ L.length * x := by rw [val_append]; simp [val]
theorem plusInv_step {xs ys L : List Nat} {c k : Nat} (h : PlusInv xs ys L c k) (hx : Small xs) (hy : Small ys) :
    PlusInv xs ys (L ++ [(c + xs.getD k 0 + ys.getD k 0) % 16777216]) ((c + xs.getD k 0 + ys.getD k 0) / 16777216) (k + 1) := by
  have h1 := getD_lt hx k
  have h2 := getD_lt hy k
  have hc := h.hi
  have hs := h.sum
  refine ⟨by simp [h.len], small_snoc h.small (by omega), by omega, ?_⟩
  rw [val_snoc, h.len, val_take_getD, val_take_getD]
  have h3 : (c + xs.getD k 0 + ys.getD k 0) % 16777216 + 16777216 * ((c + xs.getD k 0 + ys.getD k 0) / 16777216) = c + xs.getD k 0 + ys.getD k 0 := by omega
  generalize (c + xs.getD k 0 + ys.getD k 0) % 16777216 = r at *
  generalize (c + xs.getD k 0 + ys.getD k 0) / 16777216 = q at *
  rw [Nat.pow_succ]
  generalize xs.getD k 0 = x at *
  generalize ys.getD k 0 = y at *
  grind
theorem plusInv_end {xs ys L : List Nat} {c k : Nat} (h : PlusInv xs ys L c k) (hx : Small xs) (hy : Small ys) (h1 : xs.length < k) (h2 : ys.length < k) : c = 0 := by
  have hs := h.sum
  rw [List.take_of_length_le (by omega), List.take_of_length_le (by omega)] at hs
  rcases Nat.eq_zero_or_pos c with h0 | h0
  · exact h0
  · have a1 := val_lt hx
    have a2 := val_lt hy
    have b1 : 16777216 ^ xs.length ≤ 16777216 ^ (k - 1) := Nat.pow_le_pow_right (by omega) (by omega)
    have b2 : 16777216 ^ ys.length ≤ 16777216 ^ (k - 1) := Nat.pow_le_pow_right (by omega) (by omega)
    have b3 : 16777216 ^ k = 16777216 ^ (k - 1) * 16777216 := by rw [← Nat.pow_succ]; congr 1; omega
    have b4 : 16777216 ^ k * 1 ≤ 16777216 ^ k * c := Nat.mul_le_mul_left _ h0
    omega

set_option maxHeartbeats 2000000 in
theorem sPlus (a b : Option Addr) (xs ys : List Nat) (c1 c2 : Nat) (w : World) (B C : Nat) (hB : B ≤ w.heap.size) (hC : C ≤ w.heap.size) (hx : Ints w B a (ofN xs)) (hy : Ints w C b (ofN ys)) (sx : Small xs) (sy : Small ys)
    (hl : xs.length ≤ 1048576) (hl' : ys.length ≤ 1048576) :
    Calls Tryd.prog 97 #[.slice a xs.length c1, .slice b ys.length c2] w (RetV (val xs + val ys) w) := by
  have HX := Lib.hid hx
  have HY := Lib.hid hy
  have SX := Lib.hid sx
  have SY := Lib.hid sy
  have HL := Lib.hid hl
  have HL' := Lib.hid hl'
  have hl2 : xs.length ≤ 9223372036854775806 := by omega
  have hl3 : ys.length ≤ 9223372036854775806 := by omega
  obtain ⟨M, hM1, hM2, hM3⟩ : ∃ M, xs.length ≤ M ∧ ys.length ≤ M ∧ M ≤ 1048576 := ⟨max xs.length ys.length, by omega, by omega, by omega⟩
  have HM3 := Lib.hid hM3
  clear hx hy sx sy hl hl' hM3
  go_enter Tryd.func97, Tryd.ntmps97
  go_wp2
  go_loopw [5, 6, 7] (fun v q i wr => ∃ (k : Nat) (L : List Nat) (cr : Nat), i = .int .i64 k ∧ q = .int .i64 cr ∧ PlusInv xs ys L cr k ∧ k ≤ M + 1 ∧ (k = M + 1 → cr = 0) ∧ OwnV wr w.heap.size v (ofN L) ∧ Below w.heap.size w wr) (fun _ _ i _ => M + 1 - (intOf i).toNat)
  case atStart => exact ⟨0, [], 0, rfl, rfl, ⟨rfl, small_nil, by omega, by simp [val]⟩, by omega, fun _ => rfl, OwnV.empty w _ (Nat.le_refl _), (Below.refl _ _).alloc (Nat.le_refl _) _⟩
  case round =>
    obtain ⟨k, L, cr, rfl, rfl, hinv, hkM, hlast, hown, hbel⟩ := hrel
    by_cases hkx : k < xs.length
    · by_cases hky : k < ys.length
      · have OW := Lib.hid hown
        have HI := Lib.hid hinv
        have HB := Lib.hid hbel
        have hsz : w.heap.size ≤ wr.heap.size := hbel.size
        have hlen := Lib.hid hinv.len
        have HLS := Lib.hid hlast
        have hcr : (cr : Int) ≤ 1 := by have := hinv.hi; omega
        clear hown hinv hbel hlast
        obtain ⟨c', o, ha, hcB, hcell⟩ := HX.out k (by rw [ofN_length]; exact hkx)
        rw [ofN_at] at hcell
        subst ha
        obtain ⟨x, hxk⟩ : ∃ x : Nat, x = xs[k] := ⟨_, rfl⟩
        rw [← hxk] at hcell
        have hxb : (x : Int) < 16777216 := by have := SX.out k hkx; omega
        have HXK := Lib.hid (show xs.getD k 0 = x from (getD_of_lt hkx).trans hxk.symm)
        have hkI : (k : Int) < (xs.length : Int) := by omega
        have h1 : wr.cell? ⟨c', o + k, none⟩ = some (.int .i64 x) := by rw [HB.out.cell (p := ⟨c', o + k, none⟩) (by show c' < _; omega)]; exact hcell
        clear hcell hxk
        obtain ⟨c'', o', ha', hcC, hcell'⟩ := HY.out k (by rw [ofN_length]; exact hky)
        rw [ofN_at] at hcell'
        subst ha'
        obtain ⟨y, hyk⟩ : ∃ y : Nat, y = ys[k] := ⟨_, rfl⟩
        rw [← hyk] at hcell'
        have hyb : (y : Int) < 16777216 := by have := SY.out k hky; omega
        have HYK := Lib.hid (show ys.getD k 0 = y from (getD_of_lt hky).trans hyk.symm)
        have hkJ : (k : Int) < (ys.length : Int) := by omega
        have h1' : wr.cell? ⟨c'', o' + k, none⟩ = some (.int .i64 y) := by rw [HB.out.cell (p := ⟨c'', o' + k, none⟩) (by show c'' < _; omega)]; exact hcell'
        clear hcell' hyk
        have HST := Lib.hid (plusInv_step HI.out SX.out SY.out)
        rw [HXK.out, HYK.out] at HST
        go_wp2_with (at_builtin; refine wp_app1 rfl _ _ 24 rfl Tryd.underlying24 wr (((cr : Int) + (x : Int) + (y : Int)) % 16777216) rfl w.heap.size _ (ofN L) OW.out rfl rfl (by rw [ofN_length, hlen.out]; have := HM3.out; omega) (by omega) ?_; intro v' w' hown hb hs; have OW2 := Lib.hid hown; have HB2 := Lib.hid (hb w.heap.size (by omega) (Nat.le_refl _)); clear hown hb)
        go_roundw
        case rel =>
          refine ⟨k + 1, L ++ [(cr + x + y) % 16777216], (cr + x + y) / 16777216, by go_num, by first | rfl | (congr 1), ?_, by omega, ?_, ?_, HB.out.trans HB2.out⟩
          · exact HST.out
          · intro hk
            exact plusInv_end HST.out SX.out SY.out (by omega) (by omega)
          · have := OW2.out
            rw [ofN_append]
            exact this
        case measure => simp [intOf]; omega
      · have OW := Lib.hid hown
        have HI := Lib.hid hinv
        have HB := Lib.hid hbel
        have hsz : w.heap.size ≤ wr.heap.size := hbel.size
        have hlen := Lib.hid hinv.len
        have HLS := Lib.hid hlast
        have hcr : (cr : Int) ≤ 1 := by have := hinv.hi; omega
        clear hown hinv hbel hlast
        obtain ⟨c', o, ha, hcB, hcell⟩ := HX.out k (by rw [ofN_length]; exact hkx)
        rw [ofN_at] at hcell
        subst ha
        obtain ⟨x, hxk⟩ : ∃ x : Nat, x = xs[k] := ⟨_, rfl⟩
        rw [← hxk] at hcell
        have hxb : (x : Int) < 16777216 := by have := SX.out k hkx; omega
        have HXK := Lib.hid (show xs.getD k 0 = x from (getD_of_lt hkx).trans hxk.symm)
        have hkI : (k : Int) < (xs.length : Int) := by omega
        have h1 : wr.cell? ⟨c', o + k, none⟩ = some (.int .i64 x) := by rw [HB.out.cell (p := ⟨c', o + k, none⟩) (by show c' < _; omega)]; exact hcell
        clear hcell hxk
        have hdy : decide ((k : Int) < (ys.length : Int)) = false := decide_eq_false (by omega)
        have HYK := Lib.hid (show ys.getD k 0 = 0 from getD_of_ge (by omega))
        have HST := Lib.hid (plusInv_step HI.out SX.out SY.out)
        rw [HXK.out, HYK.out] at HST
        simp only [Nat.add_zero] at HST
        go_wp2_with (at_builtin; refine wp_app1 rfl _ _ 24 rfl Tryd.underlying24 wr (((cr : Int) + (x : Int)) % 16777216) rfl w.heap.size _ (ofN L) OW.out rfl rfl (by rw [ofN_length, hlen.out]; have := HM3.out; omega) (by omega) ?_; intro v' w' hown hb hs; have OW2 := Lib.hid hown; have HB2 := Lib.hid (hb w.heap.size (by omega) (Nat.le_refl _)); clear hown hb)
        go_roundw
        case rel =>
          refine ⟨k + 1, L ++ [(cr + x) % 16777216], (cr + x) / 16777216, by go_num, by first | rfl | (congr 1), ?_, by omega, ?_, ?_, HB.out.trans HB2.out⟩
          · exact HST.out
          · intro hk
            exact plusInv_end HST.out SX.out SY.out (by omega) (by omega)
          · have := OW2.out
            rw [ofN_append]
            exact this
        case measure => simp [intOf]; omega
    · by_cases hky : k < ys.length
      · have OW := Lib.hid hown
        have HI := Lib.hid hinv
        have HB := Lib.hid hbel
        have hsz : w.heap.size ≤ wr.heap.size := hbel.size
        have hlen := Lib.hid hinv.len
        have HLS := Lib.hid hlast
        have hcr : (cr : Int) ≤ 1 := by have := hinv.hi; omega
        clear hown hinv hbel hlast
        have hdx : decide ((k : Int) < (xs.length : Int)) = false := decide_eq_false (by omega)
        have HXK := Lib.hid (show xs.getD k 0 = 0 from getD_of_ge (by omega))
        obtain ⟨c'', o', ha', hcC, hcell'⟩ := HY.out k (by rw [ofN_length]; exact hky)
        rw [ofN_at] at hcell'
        subst ha'
        obtain ⟨y, hyk⟩ : ∃ y : Nat, y = ys[k] := ⟨_, rfl⟩
        rw [← hyk] at hcell'
        have hyb : (y : Int) < 16777216 := by have := SY.out k hky; omega
        have HYK := Lib.hid (show ys.getD k 0 = y from (getD_of_lt hky).trans hyk.symm)
        have hkJ : (k : Int) < (ys.length : Int) := by omega
        have h1' : wr.cell? ⟨c'', o' + k, none⟩ = some (.int .i64 y) := by rw [HB.out.cell (p := ⟨c'', o' + k, none⟩) (by show c'' < _; omega)]; exact hcell'
        clear hcell' hyk
        have HST := Lib.hid (plusInv_step HI.out SX.out SY.out)
        rw [HXK.out, HYK.out] at HST
        simp only [Nat.add_zero] at HST
        go_wp2_with (at_builtin; refine wp_app1 rfl _ _ 24 rfl Tryd.underlying24 wr (((cr : Int) + (y : Int)) % 16777216) rfl w.heap.size _ (ofN L) OW.out rfl rfl (by rw [ofN_length, hlen.out]; have := HM3.out; omega) (by omega) ?_; intro v' w' hown hb hs; have OW2 := Lib.hid hown; have HB2 := Lib.hid (hb w.heap.size (by omega) (Nat.le_refl _)); clear hown hb)
        go_roundw
        case rel =>
          refine ⟨k + 1, L ++ [(cr + y) % 16777216], (cr + y) / 16777216, by go_num, by first | rfl | (congr 1), ?_, by omega, ?_, ?_, HB.out.trans HB2.out⟩
          · exact HST.out
          · intro hk
            exact plusInv_end HST.out SX.out SY.out (by omega) (by omega)
          · have := OW2.out
            rw [ofN_append]
            exact this
        case measure => simp [intOf]; omega
      · by_cases hc0 : cr = 0
        · subst hc0
          have hdx : decide ((k : Int) < (xs.length : Int)) = false := decide_eq_false (by omega)
          have hdy : decide ((k : Int) < (ys.length : Int)) = false := decide_eq_false (by omega)
          have hs := hinv.sum
          rw [List.take_of_length_le (by omega), List.take_of_length_le (by omega)] at hs
          obtain ⟨a', c', rfl, hc', hc2', ho⟩ := hown.parts
          rw [ofN_length] at hc'
          have HEND := Lib.hid (show RetV (val xs + val ys) w (.returned (.slice a' L.length c')) wr from ⟨L, a', c', rfl, ⟨hinv.small, by omega, hc', hc2', by rw [hinv.len]; have := HM3.out; omega, ho⟩, hbel⟩)
          rw [ofN_length]
          clear hs hown ho hbel hinv
          go_wp2
          go_ret
          exact HEND.out
        · have OW := Lib.hid hown
          have HI := Lib.hid hinv
          have HB := Lib.hid hbel
          have hsz : w.heap.size ≤ wr.heap.size := hbel.size
          have hlen := Lib.hid hinv.len
          have HLS := Lib.hid hlast
          have hcr : (cr : Int) ≤ 1 := by have := hinv.hi; omega
          clear hown hinv hbel hlast
          have hdx : decide ((k : Int) < (xs.length : Int)) = false := decide_eq_false (by omega)
          have HXK := Lib.hid (show xs.getD k 0 = 0 from getD_of_ge (by omega))
          have hdy : decide ((k : Int) < (ys.length : Int)) = false := decide_eq_false (by omega)
          have HYK := Lib.hid (show ys.getD k 0 = 0 from getD_of_ge (by omega))
          obtain rfl : cr = 1 := by have := HI.out.hi; omega
          have hkM' : k ≤ M := by rcases Nat.lt_or_ge M k with h | h; exact absurd (HLS.out (by omega)) (by omega); exact h
          have hkb : (k : Int) ≤ 4611686018427387904 := by have := HM3.out; omega
          have HST := Lib.hid (plusInv_step HI.out SX.out SY.out)
          rw [HXK.out, HYK.out] at HST
          simp only [Nat.add_zero] at HST
          go_wp2_with (at_builtin; refine wp_app1 rfl _ _ 24 rfl Tryd.underlying24 wr (((1 : Int)) % 16777216) rfl w.heap.size _ (ofN L) OW.out rfl rfl (by rw [ofN_length, hlen.out]; have := HM3.out; omega) (by omega) ?_; intro v' w' hown hb hs; have OW2 := Lib.hid hown; have HB2 := Lib.hid (hb w.heap.size (by omega) (Nat.le_refl _)); clear hown hb)
          go_roundw
          case rel =>
            refine ⟨k + 1, L ++ [(1) % 16777216], (1) / 16777216, by go_num, by first | rfl | (congr 1), ?_, by omega, ?_, ?_, HB.out.trans HB2.out⟩
            · exact HST.out
            · intro hk
              exact plusInv_end HST.out SX.out SY.out (by omega) (by omega)
            · have := OW2.out
              rw [ofN_append]
              exact this
          case measure => simp [intOf]; omega
end Go.Proofs.YtfjfmlofhifkmaaDoor
