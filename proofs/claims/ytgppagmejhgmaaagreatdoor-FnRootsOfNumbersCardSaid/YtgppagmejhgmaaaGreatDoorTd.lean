/-
  Contracts of the model's limbs: copies, trimming, sums, differences, order. Conditions: the limbs can be read. Contracts of the model's limbs: sums, differences, order. Conditions: the limbs can be read. Contracts of the model's limbs: differences, order. Conditions: the limbs can be read. Contracts of the model's whole numbers: sums, opposites, differences. Conditions: the limbs can be read.
-/
import Derived.Test.YtgppagmejhgmaaaGreatDoorMt
namespace Go.Proofs.YtgppagmejhgmaaaGreatDoor
set_option linter.unusedVariables false
open Go Go.RowKit

set_option maxHeartbeats 400000 in
theorem sOwn (a : Option Addr) (xs : List Int) (c : Nat) (w : World) (B : Nat) (hB : B ≤ w.heap.size) (hl : xs.length ≤ 8388608) (hx : Ints w B a xs) :
    Calls Tryz.prog 129 #[.slice a xs.length c] w (RetL xs w) := by
  cases a with
  | none =>
    have h0 : xs = [] := by
      rcases Nat.eq_zero_or_pos xs.length with h | h
      · exact List.eq_nil_of_length_eq_zero h
      · obtain ⟨_, _, he, _⟩ := hx 0 h; cases he
    subst h0
    clear hx hl
    simp only [List.length_nil]
    go_enter Tryz.func129, Tryz.ntmps129
    go_wp2
    go_ret
    exact ⟨_, _, rfl, Nat.le_refl _, .inl rfl, (by repeat (first | exact Below.refl _ _ | assumption | refine Below.alloc ?_ (by simp <;> omega) _ | refine Below.setCell ?_ (by simp <;> omega) _ | refine below_drewN ?_ _))⟩
  | some ad =>
    have HX := Lib.hid hx
    have HL := Lib.hid hl
    clear hx hl
    go_enter Tryz.func129, Tryz.ntmps129
    go_wp2_with (at_builtin; refine wp_app rfl _ _ 58 rfl Tryz.underlying58 w.heap.size _ [] (OwnV.empty w _ (Nat.le_refl _)) rfl ad xs.length c xs rfl rfl (ints_add (HX.out.alloc hB _)) (by have := HL.out; simp; omega) (by simp) ?_; intro v' w' hown hgrow)
    obtain ⟨a', c', rfl, hc', _, ho⟩ := hown.parts
    have HO := Lib.hid ho
    have HB := Lib.hid ((Below.alloc (Below.refl w.heap.size w) (Nat.le_refl _) (.cells #[] 2)).grown hgrow (by simp) (fun g hg => by simp [Value.ownBlock] at hg; omega))
    clear ho hgrow hown
    go_wp2_with fail
    go_ret
    exact ⟨_, _, rfl, hc', HO.out, HB.out⟩

/-- A slice that is cut at its beginning. -/
theorem Ints.take {w : World} {B : Nat} {a : Option Addr} {xs : List Int} (h : Ints w B a xs) (n : Nat) : Ints w B a (xs.take n) := fun i hi => by
  have hi' : i < xs.length := by rw [List.length_take] at hi; omega
  obtain ⟨c, o, ha, hc, hcell⟩ := h i hi'
  exact ⟨c, o, ha, hc, by rw [List.getElem_take]; exact hcell⟩

/-- The call returned the whole number with sign and size in new memory. -/
def RetN (s : Int) (n : Nat) (w : World) (e : Ending) (w' : World) : Prop := ∃ a c, e = .returned (.agg #[.int .i64 s, .slice a (lim n).length c]) ∧ (lim n).length ≤ c ∧ Own w' w.heap.size a (lim n) ∧ Below w.heap.size w w'

set_option maxHeartbeats 400000 in
theorem sMake (s : Int) (a : Option Addr) (L : List Nat) (c : Nat) (w : World) (B : Nat) (hB : B ≤ w.heap.size) (hx : Ints w B a (ofN L)) (hs : Small L) (hc : L.length ≤ c) (hl : L.length ≤ 8388608) :
    Calls Tryz.prog 103 #[.int .i64 s, .slice a L.length c] w (RetN (sgnOf s (val L)) (val L) w) := by
  have HX := Lib.hid hx
  have HS := Lib.hid hs
  have HL := Lib.hid hl
  clear hx hs hl
  obtain ⟨r, hr⟩ : ∃ r, r = (dig (val L)).length := ⟨_, rfl⟩
  have HR := Lib.hid hr
  have htk := take_dig_len HS.out
  rw [← hr] at htk
  have HTK := Lib.hid htk
  have hrl : r ≤ L.length := by rw [hr]; exact dig_length_val_le HS.out
  have P0 := Lib.hid (BoxAt.new w 60 #[.int .i64 0, .slice none 0 0])
  have HO := Lib.hid (show ∀ o, Calls Tryz.prog 129 #[.slice a r c] (w.alloc o) (RetL (lim (val L)) (w.alloc o)) from fun o => by
    have := sOwn a (lim (val L)) c (w.alloc o) B (by simp; omega) (by rw [lim_length]; have := HL.out; have := HR.out; omega) ((by rw [lim, ← HTK.out, ← ofN_take]; exact HX.out.take r : Ints w B a (lim (val L))).alloc hB o)
    rw [lim_length, ← HR.out] at this
    exact this)
  clear hr htk
  go_enter Tryz.func103, Tryz.ntmps103
  go_wp2
  go_loop [5] (fun i => ∃ k : Nat, k ≤ L.length ∧ i = .int .i64 k ∧ Hid (∀ (j : Nat) (h : j < L.length), k ≤ j → L[j] = 0)) (fun i => (intOf i).toNat)
  case atStart => exact ⟨L.length, Nat.le_refl _, rfl, fun j h hj => absurd h (by omega)⟩
  case round =>
    obtain ⟨k, hk, rfl, hz⟩ := hrel
    have hend : (∀ (h0 : 0 < k), L[k - 1]'(by omega) ≠ 0) → k = r := fun h => by
      have := take_dig HS.out hk hz.out h
      rw [HR.out, ← this, List.length_take]
      omega
    by_cases h0 : 0 < k
    · obtain ⟨b, o, ha, hcB, hcell⟩ := HX.out (k - 1) (by rw [ofN_length]; omega)
      rw [ofN_at] at hcell
      subst ha
      have hi1 : ((k : Int) - 1).toNat = k - 1 := by omega
      have hi2 : (0 : Int) ≤ (k : Int) - 1 := by omega
      have hi3 : (k : Int) - 1 < (L.length : Int) := by omega
      have h0I : (0 : Int) < (k : Int) := by omega
      have hkb : (k : Int) ≤ 9223372036854775807 := by have := HL.out; omega
      obtain ⟨x, hxk⟩ : ∃ x : Nat, x = L[k - 1] := ⟨_, rfl⟩
      rw [← hxk] at hcell
      have hcell2 : ∀ o', (w.alloc o').cell? ⟨b, o + (k - 1), none⟩ = some (.int .i64 x) := fun o' => by rw [World.cell?_alloc_lt w _ ⟨b, o + (k - 1), none⟩ (by show b < _; omega)]; exact hcell
      have HXK := Lib.hid hxk
      clear hxk hcell
      by_cases hx0 : x = 0
      · subst hx0
        have HEND := Lib.hid hend
        clear hend
        go_wp2
        go_round
        case rel =>
          refine ⟨k - 1, by omega, by (try simp); omega, fun j h hj => ?_⟩
          by_cases hjk : j = k - 1
          · subst hjk; exact HXK.out.symm
          · exact hz.out j h (by omega)
        case measure => simp [intOf]; omega
      · have hne : ((x : Int) == 0) = false := by simpa using hx0
        obtain rfl : k = r := hend (fun _ => by rw [← HXK.out]; exact hx0)
        have hkz : ((k : Int) == 0) = false := by simp; omega
        have hv : val L ≠ 0 := fun h => by
          have := HR.out
          rw [h, dig_zero] at this
          simp at this
          omega
        have HE := Lib.hid (sgnOf_pos (s := s) hv)
        have hkc : (k : Int) ≤ (c : Int) := by omega
        have HRL := Lib.hid hrl
        clear hend hv hrl
        go_wp2_with fail
        refine (HO.out _).mono ?_
        rintro e w1 ⟨a1, c1, rfl, hc1, ho1, hb1⟩
        have HC1 := Lib.hid hc1
        have HO1 := Lib.hid ho1
        have HB1 := Lib.hid hb1
        have P1 := Lib.hid (P0.out.below hb1)
        obtain ⟨q1, q2, q3, q4⟩ := P1.out.two
        clear hc1 ho1 hb1
        go_wp2_with fail
        refine bodyPost_ret (v := .agg #[.int .i64 s, .slice a1 (lim (val L)).length c1]) (by simp [results, Tryz.results103, go_sem, *]) rfl ⟨a1, c1, by rw [HE.out], HC1.out, ((HO1.out.setFar (by simp) _).setFar (by simp) _).mono (by simp), (((Below.refl _ w).alloc (Nat.le_refl _) _).trans (HB1.out.mono (by simp)) |>.setCell (by simp) _).setCell (by simp) _⟩
    · obtain rfl : k = 0 := by omega
      have hr0 := hend (fun h => absurd h (Nat.lt_irrefl 0))
      have hv : val L = 0 := by
        have := HR.out
        rw [← hr0] at this
        exact (dig_nil_iff _).1 (List.eq_nil_of_length_eq_zero this.symm)
      have HE := Lib.hid hv
      clear hend hv hr0
      go_wp2
      refine bodyPost_ret (v := .agg #[.int .i64 0, .slice none 0 0]) (by simp [results, Tryz.results103, go_sem]) rfl ⟨none, 0, by rw [HE.out, sgnOf_zero, lim_zero]; rfl, by rw [HE.out, lim_zero]; exact Nat.le_refl _, by rw [HE.out, lim_zero]; exact .inl rfl, (by repeat (first | exact Below.refl _ _ | assumption | refine Below.alloc ?_ (by simp <;> omega) _ | refine Below.setCell ?_ (by simp <;> omega) _ | refine below_drewN ?_ _))⟩

/-- Small limbs of value v in new memory. -/
structure VL (w : World) (lo : Nat) (L : List Nat) (v : Nat) (a : Option Addr) (c : Nat) : Prop where
  small : Small L
  value : val L = v
  fit : L.length ≤ c
  cap : c ≤ 9223372036854775807
  len : L.length ≤ 4194304
  own : Own w lo a (ofN L)
theorem VL.mono {w : World} {lo lo' : Nat} {L : List Nat} {v : Nat} {a : Option Addr} {c : Nat} (h : VL w lo L v a c) (hl : lo' ≤ lo) : VL w lo' L v a c := ⟨h.small, h.value, h.fit, h.cap, h.len, h.own.mono hl⟩
theorem VL.below {w w' : World} {lo : Nat} {L : List Nat} {v : Nat} {a : Option Addr} {c : Nat} (h : VL w lo L v a c) (hb : Below w.heap.size w w') : VL w' lo L v a c := ⟨h.small, h.value, h.fit, h.cap, h.len, h.own.below hb⟩
/-- The call returned small limbs of value v in new memory. -/
def RetV (v : Nat) (w : World) (e : Ending) (w' : World) : Prop := ∃ (L : List Nat) (a : Option Addr) (c : Nat), e = .returned (.slice a L.length c) ∧ VL w' w.heap.size L v a c ∧ Below w.heap.size w w'

/-- One number is appended to numbers of the call's own. -/
theorem wp_app1 {ops : Array Oper} {rest : List Oper} {o : Oper} {a : Act} {Q : Exit → Act → World → Prop} {w : World} (hgd : o.guard = none) (s x : Operand) (t : TypeId)
    (ho : o.op = .call { callee := .builtin .append, args := #[s, x], argTypes := #[t, t] }) (ht : Tryz.prog.underlying t = some (.slice 2))
    (V : World) (z : Int) (hW : w = V.alloc (.cells #[.int .i64 z] 2)) (lo : Nat) (v : Value) (xs : List Int) (hown : OwnV V lo v xs) (hs : a.eval s = v)
    (hx : a.eval x = .slice (some ⟨V.heap.size, 0, none⟩) 1 1) (hlen : xs.length ≤ 8388607) (hbase : lo ≤ V.heap.size)
    (h : ∀ v' w', OwnV w' lo v' (xs ++ [z]) → (∀ B, B ≤ V.heap.size → B ≤ lo → Below B V w') → V.heap.size ≤ w'.heap.size → wpList Tryz.prog ops Q rest (a.put o.dst v') w') : wpList Tryz.prog ops Q (o :: rest) a w := by
  subst hW
  refine wp_app hgd s x t ho ht lo v xs (hown.alloc _) hs ⟨V.heap.size, 0, none⟩ 1 1 [z] hx rfl ?_ (by simp; omega) (by simp; omega) ?_
  · intro i hi
    simp at hi
    subst hi
    simp [Addr.add]
  · intro v' w' h1 h2
    refine h v' w' h1 (fun B hB hl => ((Below.refl B V).alloc hB _).grown h2 (by simp; omega) (fun g hg => Nat.le_trans hl (hown.lt g hg))) ?_
    have := h2.size
    simp at this
    omega

structure PlusInv (xs ys L : List Nat) (c k : Nat) : Prop where
  len : L.length = k
  small : Small L
  hi : c ≤ 1
  sum : val L + 16777216 ^ k * c = val (xs.take k) + val (ys.take k)
theorem small_snoc {L : List Nat} (h : Small L) {x : Nat} (hx : x < 16777216) : Small (L ++ [x]) := small_append h (small_cons hx small_nil)
theorem val_snoc (L : List Nat) (x : Nat) : val (L ++ [x]) = val L + 16777216 ^ L.length * x := by rw [val_append]; simp [val]
theorem plusInv_step {xs ys L : List Nat} {c k : Nat} (h : PlusInv xs ys L c k) (hx : Small xs) (hy : Small ys) :
    PlusInv xs ys (L ++ [(c + xs.getD k 0 + ys.getD k 0) % 16777216]) ((c + xs.getD k 0 + ys.getD k 0) / 16777216) (k + 1) := by
  have h1 := getD_lt hx k
  have h2 := getD_lt hy k
  have hc := h.hi
  have hs := h.sum
  refine ⟨by simp [h.len], small_snoc h.small (by omega), by omega, ?_⟩
  rw [val_snoc, h.len, val_take_getD, val_take_getD]
  have h3 : (c + xs.getD k 0 + ys.getD k 0) % 16777216 + 16777216 * ((c + xs.getD k 0 + ys.getD k 0) / 16777216) = c + xs.getD k 0 + ys.getD k 0 := by omega
  generalize (c + xs.getD k 0 + ys.getD k 0) % 16777216 = r at *
  generalize (c + xs.getD k 0 + ys.getD k 0) / 16777216 = q at *
  rw [Nat.pow_succ]
  generalize xs.getD k 0 = x at *
  generalize ys.getD k 0 = y at *
  grind
theorem plusInv_end {xs ys L : List Nat} {c k : Nat} (h : PlusInv xs ys L c k) (hx : Small xs) (hy : Small ys) (h1 : xs.length < k) (h2 : ys.length < k) : c = 0 := by
  have hs := h.sum
  rw [List.take_of_length_le (by omega), List.take_of_length_le (by omega)] at hs
  rcases Nat.eq_zero_or_pos c with h0 | h0
  · exact h0
  · have a1 := val_lt hx
    have a2 := val_lt hy
    have b1 : 16777216 ^ xs.length ≤ 16777216 ^ (k - 1) := Nat.pow_le_pow_right (by omega) (by omega)
    have b2 : 16777216 ^ ys.length ≤ 16777216 ^ (k - 1) := Nat.pow_le_pow_right (by omega) (by omega)
    have b3 : 16777216 ^ k = 16777216 ^ (k - 1) * 16777216 := by rw [← Nat.pow_succ]; congr 1; omega
    have b4 : 16777216 ^ k * 1 ≤ 16777216 ^ k * c := Nat.mul_le_mul_left _ h0
    omega

set_option maxHeartbeats 2000000 in
theorem sPlus (a b : Option Addr) (xs ys : List Nat) (c1 c2 : Nat) (w : World) (B C : Nat) (hB : B ≤ w.heap.size) (hC : C ≤ w.heap.size) (hx : Ints w B a (ofN xs)) (hy : Ints w C b (ofN ys)) (sx : Small xs) (sy : Small ys)
    (hl : xs.length ≤ 1048576) (hl' : ys.length ≤ 1048576) :
    Calls Tryz.prog 105 #[.slice a xs.length c1, .slice b ys.length c2] w (RetV (val xs + val ys) w) := by
  have HX := Lib.hid hx
  have HY := Lib.hid hy
  have SX := Lib.hid sx
  have SY := Lib.hid sy
  have HL := Lib.hid hl
  have HL' := Lib.hid hl'
  have hl2 : xs.length ≤ 9223372036854775806 := by omega
  have hl3 : ys.length ≤ 9223372036854775806 := by omega
  obtain ⟨M, hM1, hM2, hM3⟩ : ∃ M, xs.length ≤ M ∧ ys.length ≤ M ∧ M ≤ 1048576 := ⟨max xs.length ys.length, by omega, by omega, by omega⟩
  have HM3 := Lib.hid hM3
  clear hx hy sx sy hl hl' hM3
  go_enter Tryz.func105, Tryz.ntmps105
  go_wp2
  go_loopw [5, 6, 7] (fun v q i wr => ∃ (k : Nat) (L : List Nat) (cr : Nat), i = .int .i64 k ∧ q = .int .i64 cr ∧ PlusInv xs ys L cr k ∧ k ≤ M + 1 ∧ (k = M + 1 → cr = 0) ∧ OwnV wr w.heap.size v (ofN L) ∧ Below w.heap.size w wr) (fun _ _ i _ => M + 1 - (intOf i).toNat)
  case atStart => exact ⟨0, [], 0, rfl, rfl, ⟨rfl, small_nil, by omega, by simp [val]⟩, by omega, fun _ => rfl, OwnV.empty w _ (Nat.le_refl _), (Below.refl _ _).alloc (Nat.le_refl _) _⟩
  case round =>
    obtain ⟨k, L, cr, rfl, rfl, hinv, hkM, hlast, hown, hbel⟩ := hrel
    by_cases hkx : k < xs.length
    · by_cases hky : k < ys.length
      · have OW := Lib.hid hown
        have HI := Lib.hid hinv
        have HB := Lib.hid hbel
        have hsz : w.heap.size ≤ wr.heap.size := hbel.size
        have hlen := Lib.hid hinv.len
        have HLS := Lib.hid hlast
        have hcr : (cr : Int) ≤ 1 := by have := hinv.hi; omega
        clear hown hinv hbel hlast
        obtain ⟨c', o, ha, hcB, hcell⟩ := HX.out k (by rw [ofN_length]; exact hkx)
        rw [ofN_at] at hcell
        subst ha
        obtain ⟨x, hxk⟩ : ∃ x : Nat, x = xs[k] := ⟨_, rfl⟩
        rw [← hxk] at hcell
        have hxb : (x : Int) < 16777216 := by have := SX.out k hkx; omega
        have HXK := Lib.hid (show xs.getD k 0 = x from (getD_of_lt hkx).trans hxk.symm)
        have hkI : (k : Int) < (xs.length : Int) := by omega
        have h1 : wr.cell? ⟨c', o + k, none⟩ = some (.int .i64 x) := by rw [HB.out.cell (p := ⟨c', o + k, none⟩) (by show c' < _; omega)]; exact hcell
        clear hcell hxk
        obtain ⟨c'', o', ha', hcC, hcell'⟩ := HY.out k (by rw [ofN_length]; exact hky)
        rw [ofN_at] at hcell'
        subst ha'
        obtain ⟨y, hyk⟩ : ∃ y : Nat, y = ys[k] := ⟨_, rfl⟩
        rw [← hyk] at hcell'
        have hyb : (y : Int) < 16777216 := by have := SY.out k hky; omega
        have HYK := Lib.hid (show ys.getD k 0 = y from (getD_of_lt hky).trans hyk.symm)
        have hkJ : (k : Int) < (ys.length : Int) := by omega
        have h1' : wr.cell? ⟨c'', o' + k, none⟩ = some (.int .i64 y) := by rw [HB.out.cell (p := ⟨c'', o' + k, none⟩) (by show c'' < _; omega)]; exact hcell'
        clear hcell' hyk
        have HST := Lib.hid (plusInv_step HI.out SX.out SY.out)
        rw [HXK.out, HYK.out] at HST
        go_wp2_with (at_builtin; refine wp_app1 rfl _ _ 58 rfl Tryz.underlying58 wr (((cr : Int) + (x : Int) + (y : Int)) % 16777216) rfl w.heap.size _ (ofN L) OW.out rfl rfl (by rw [ofN_length, hlen.out]; have := HM3.out; omega) (by omega) ?_; intro v' w' hown hb hs; have OW2 := Lib.hid hown; have HB2 := Lib.hid (hb w.heap.size (by omega) (Nat.le_refl _)); clear hown hb)
        go_roundw
        case rel =>
          refine ⟨k + 1, L ++ [(cr + x + y) % 16777216], (cr + x + y) / 16777216, by go_num, by first | rfl | (congr 1), ?_, by omega, ?_, ?_, HB.out.trans HB2.out⟩
          · exact HST.out
          · intro hk
            exact plusInv_end HST.out SX.out SY.out (by omega) (by omega)
          · have := OW2.out
            rw [ofN_append]
            exact this
        case measure => simp [intOf]; omega
      · have OW := Lib.hid hown
        have HI := Lib.hid hinv
        have HB := Lib.hid hbel
        have hsz : w.heap.size ≤ wr.heap.size := hbel.size
        have hlen := Lib.hid hinv.len
        have HLS := Lib.hid hlast
        have hcr : (cr : Int) ≤ 1 := by have := hinv.hi; omega
        clear hown hinv hbel hlast
        obtain ⟨c', o, ha, hcB, hcell⟩ := HX.out k (by rw [ofN_length]; exact hkx)
        rw [ofN_at] at hcell
        subst ha
        obtain ⟨x, hxk⟩ : ∃ x : Nat, x = xs[k] := ⟨_, rfl⟩
        rw [← hxk] at hcell
        have hxb : (x : Int) < 16777216 := by have := SX.out k hkx; omega
        have HXK := Lib.hid (show xs.getD k 0 = x from (getD_of_lt hkx).trans hxk.symm)
        have hkI : (k : Int) < (xs.length : Int) := by omega
        have h1 : wr.cell? ⟨c', o + k, none⟩ = some (.int .i64 x) := by rw [HB.out.cell (p := ⟨c', o + k, none⟩) (by show c' < _; omega)]; exact hcell
        clear hcell hxk
        have hdy : decide ((k : Int) < (ys.length : Int)) = false := decide_eq_false (by omega)
        have HYK := Lib.hid (show ys.getD k 0 = 0 from getD_of_ge (by omega))
        have HST := Lib.hid (plusInv_step HI.out SX.out SY.out)
        rw [HXK.out, HYK.out] at HST
        simp only [Nat.add_zero] at HST
        go_wp2_with (at_builtin; refine wp_app1 rfl _ _ 58 rfl Tryz.underlying58 wr (((cr : Int) + (x : Int)) % 16777216) rfl w.heap.size _ (ofN L) OW.out rfl rfl (by rw [ofN_length, hlen.out]; have := HM3.out; omega) (by omega) ?_; intro v' w' hown hb hs; have OW2 := Lib.hid hown; have HB2 := Lib.hid (hb w.heap.size (by omega) (Nat.le_refl _)); clear hown hb)
        go_roundw
        case rel =>
          refine ⟨k + 1, L ++ [(cr + x) % 16777216], (cr + x) / 16777216, by go_num, by first | rfl | (congr 1), ?_, by omega, ?_, ?_, HB.out.trans HB2.out⟩
          · exact HST.out
          · intro hk
            exact plusInv_end HST.out SX.out SY.out (by omega) (by omega)
          · have := OW2.out
            rw [ofN_append]
            exact this
        case measure => simp [intOf]; omega
    · by_cases hky : k < ys.length
      · have OW := Lib.hid hown
        have HI := Lib.hid hinv
        have HB := Lib.hid hbel
        have hsz : w.heap.size ≤ wr.heap.size := hbel.size
        have hlen := Lib.hid hinv.len
        have HLS := Lib.hid hlast
        have hcr : (cr : Int) ≤ 1 := by have := hinv.hi; omega
        clear hown hinv hbel hlast
        have hdx : decide ((k : Int) < (xs.length : Int)) = false := decide_eq_false (by omega)
        have HXK := Lib.hid (show xs.getD k 0 = 0 from getD_of_ge (by omega))
        obtain ⟨c'', o', ha', hcC, hcell'⟩ := HY.out k (by rw [ofN_length]; exact hky)
        rw [ofN_at] at hcell'
        subst ha'
        obtain ⟨y, hyk⟩ : ∃ y : Nat, y = ys[k] := ⟨_, rfl⟩
        rw [← hyk] at hcell'
        have hyb : (y : Int) < 16777216 := by have := SY.out k hky; omega
        have HYK := Lib.hid (show ys.getD k 0 = y from (getD_of_lt hky).trans hyk.symm)
        have hkJ : (k : Int) < (ys.length : Int) := by omega
        have h1' : wr.cell? ⟨c'', o' + k, none⟩ = some (.int .i64 y) := by rw [HB.out.cell (p := ⟨c'', o' + k, none⟩) (by show c'' < _; omega)]; exact hcell'
        clear hcell' hyk
        have HST := Lib.hid (plusInv_step HI.out SX.out SY.out)
        rw [HXK.out, HYK.out] at HST
        simp only [Nat.add_zero] at HST
        go_wp2_with (at_builtin; refine wp_app1 rfl _ _ 58 rfl Tryz.underlying58 wr (((cr : Int) + (y : Int)) % 16777216) rfl w.heap.size _ (ofN L) OW.out rfl rfl (by rw [ofN_length, hlen.out]; have := HM3.out; omega) (by omega) ?_; intro v' w' hown hb hs; have OW2 := Lib.hid hown; have HB2 := Lib.hid (hb w.heap.size (by omega) (Nat.le_refl _)); clear hown hb)
        go_roundw
        case rel =>
          refine ⟨k + 1, L ++ [(cr + y) % 16777216], (cr + y) / 16777216, by go_num, by first | rfl | (congr 1), ?_, by omega, ?_, ?_, HB.out.trans HB2.out⟩
          · exact HST.out
          · intro hk
            exact plusInv_end HST.out SX.out SY.out (by omega) (by omega)
          · have := OW2.out
            rw [ofN_append]
            exact this
        case measure => simp [intOf]; omega
      · by_cases hc0 : cr = 0
        · subst hc0
          have hdx : decide ((k : Int) < (xs.length : Int)) = false := decide_eq_false (by omega)
          have hdy : decide ((k : Int) < (ys.length : Int)) = false := decide_eq_false (by omega)
          have hs := hinv.sum
          rw [List.take_of_length_le (by omega), List.take_of_length_le (by omega)] at hs
          obtain ⟨a', c', rfl, hc', hc2', ho⟩ := hown.parts
          rw [ofN_length] at hc'
          have HEND := Lib.hid (show RetV (val xs + val ys) w (.returned (.slice a' L.length c')) wr from ⟨L, a', c', rfl, ⟨hinv.small, by omega, hc', hc2', by rw [hinv.len]; have := HM3.out; omega, ho⟩, hbel⟩)
          rw [ofN_length]
          clear hs hown ho hbel hinv
          go_wp2
          go_ret
          exact HEND.out
        · have OW := Lib.hid hown
          have HI := Lib.hid hinv
          have HB := Lib.hid hbel
          have hsz : w.heap.size ≤ wr.heap.size := hbel.size
          have hlen := Lib.hid hinv.len
          have HLS := Lib.hid hlast
          have hcr : (cr : Int) ≤ 1 := by have := hinv.hi; omega
          clear hown hinv hbel hlast
          have hdx : decide ((k : Int) < (xs.length : Int)) = false := decide_eq_false (by omega)
          have HXK := Lib.hid (show xs.getD k 0 = 0 from getD_of_ge (by omega))
          have hdy : decide ((k : Int) < (ys.length : Int)) = false := decide_eq_false (by omega)
          have HYK := Lib.hid (show ys.getD k 0 = 0 from getD_of_ge (by omega))
          obtain rfl : cr = 1 := by have := HI.out.hi; omega
          have hkM' : k ≤ M := by rcases Nat.lt_or_ge M k with h | h; exact absurd (HLS.out (by omega)) (by omega); exact h
          have hkb : (k : Int) ≤ 4611686018427387904 := by have := HM3.out; omega
          have HST := Lib.hid (plusInv_step HI.out SX.out SY.out)
          rw [HXK.out, HYK.out] at HST
          simp only [Nat.add_zero] at HST
          go_wp2_with (at_builtin; refine wp_app1 rfl _ _ 58 rfl Tryz.underlying58 wr (((1 : Int)) % 16777216) rfl w.heap.size _ (ofN L) OW.out rfl rfl (by rw [ofN_length, hlen.out]; have := HM3.out; omega) (by omega) ?_; intro v' w' hown hb hs; have OW2 := Lib.hid hown; have HB2 := Lib.hid (hb w.heap.size (by omega) (Nat.le_refl _)); clear hown hb)
          go_roundw
          case rel =>
            refine ⟨k + 1, L ++ [(1) % 16777216], (1) / 16777216, by go_num, by first | rfl | (congr 1), ?_, by omega, ?_, ?_, HB.out.trans HB2.out⟩
            · exact HST.out
            · intro hk
              exact plusInv_end HST.out SX.out SY.out (by omega) (by omega)
            · have := OW2.out
              rw [ofN_append]
              exact this
          case measure => simp [intOf]; omega

structure MinusInv (xs ys L : List Nat) (c k : Nat) : Prop where
  len : L.length = k
  small : Small L
  hi : c ≤ 1
  sum : val L + val (ys.take k) = val (xs.take k) + 16777216 ^ k * c
theorem minusInv_step {xs ys L : List Nat} {c k r q : Nat} (h : MinusInv xs ys L c k) (hr : r < 16777216) (hq : q ≤ 1) (e : r + c + ys.getD k 0 = xs.getD k 0 + 16777216 * q) : MinusInv xs ys (L ++ [r]) q (k + 1) := by
  have hs := h.sum
  refine ⟨by simp [h.len], small_snoc h.small hr, hq, ?_⟩
  rw [val_snoc, h.len, val_take_getD, val_take_getD, Nat.pow_succ]
  generalize xs.getD k 0 = x at *
  generalize ys.getD k 0 = y at *
  have e2 : 16777216 ^ k * (r + c + y) = 16777216 ^ k * (x + 16777216 * q) := by rw [e]
  rw [Nat.mul_add, Nat.mul_add, Nat.mul_add] at e2
  have e3 : 16777216 ^ k * (16777216 * q) = 16777216 ^ k * 16777216 * q := by rw [Nat.mul_assoc]
  omega
theorem minusInv_done {xs ys L : List Nat} {c : Nat} (h : MinusInv xs ys L c xs.length) (hle : ys.length ≤ xs.length) (hv : val ys ≤ val xs) : val L = val xs - val ys := by
  have hs := h.sum
  rw [List.take_length, List.take_of_length_le hle] at hs
  have h1 := val_lt h.small
  rw [h.len] at h1
  rcases Nat.eq_zero_or_pos c with h0 | h0
  · subst h0; omega
  · have := h.hi
    obtain rfl : c = 1 := by omega
    omega

set_option maxHeartbeats 2000000 in
theorem sMinus (a b : Option Addr) (xs ys : List Nat) (c1 c2 : Nat) (w : World) (B C : Nat) (hB : B ≤ w.heap.size) (hC : C ≤ w.heap.size) (hx : Ints w B a (ofN xs)) (hy : Ints w C b (ofN ys)) (sx : Small xs) (sy : Small ys)
    (hl : xs.length ≤ 1048576) (hle : ys.length ≤ xs.length) (hv : val ys ≤ val xs) :
    Calls Tryz.prog 106 #[.slice a xs.length c1, .slice b ys.length c2] w (RetV (val xs - val ys) w) := by
  have HX := Lib.hid hx
  have HY := Lib.hid hy
  have SX := Lib.hid sx
  have SY := Lib.hid sy
  have HL := Lib.hid hl
  have HLE := Lib.hid hle
  have HV := Lib.hid hv
  have hl2 : xs.length ≤ 9223372036854775806 := by omega
  have hl3 : ys.length ≤ 9223372036854775806 := by omega
  clear hx hy sx sy hl hle hv
  go_enter Tryz.func106, Tryz.ntmps106
  go_wp2
  go_loopw [5, 6, 7] (fun v q i wr => ∃ (k : Nat) (L : List Nat) (cr : Nat), i = .int .i64 k ∧ q = .int .i64 cr ∧ MinusInv xs ys L cr k ∧ k ≤ xs.length ∧ OwnV wr w.heap.size v (ofN L) ∧ Below w.heap.size w wr) (fun _ _ i _ => xs.length - (intOf i).toNat)
  case atStart => exact ⟨0, [], 0, rfl, rfl, ⟨rfl, small_nil, by omega, by simp [val]⟩, by omega, OwnV.empty w _ (Nat.le_refl _), (Below.refl _ _).alloc (Nat.le_refl _) _⟩
  case round =>
    obtain ⟨k, L, cr, rfl, rfl, hinv, hkx', hown, hbel⟩ := hrel
    have OW := Lib.hid hown
    have HI := Lib.hid hinv
    have HB := Lib.hid hbel
    have hsz : w.heap.size ≤ wr.heap.size := hbel.size
    have hlen := Lib.hid hinv.len
    have hcr : (cr : Int) ≤ 1 := by have := hinv.hi; omega
    clear hown hinv hbel
    by_cases hkx : k < xs.length
    · obtain ⟨c', o, ha, hcB, hcell⟩ := HX.out k (by rw [ofN_length]; exact hkx)
      rw [ofN_at] at hcell
      subst ha
      obtain ⟨x, hxk⟩ : ∃ x : Nat, x = xs[k] := ⟨_, rfl⟩
      rw [← hxk] at hcell
      have hxb : (x : Int) < 16777216 := by have := SX.out k hkx; omega
      have HXK := Lib.hid (show xs.getD k 0 = x from (getD_of_lt hkx).trans hxk.symm)
      have hkI : (k : Int) < (xs.length : Int) := by omega
      have h1 : wr.cell? ⟨c', o + k, none⟩ = some (.int .i64 x) := by rw [HB.out.cell (p := ⟨c', o + k, none⟩) (by show c' < _; omega)]; exact hcell
      clear hcell hxk
      by_cases hky : k < ys.length
      · obtain ⟨c'', o', ha', hcC, hcell'⟩ := HY.out k (by rw [ofN_length]; exact hky)
        rw [ofN_at] at hcell'
        subst ha'
        obtain ⟨y, hyk⟩ : ∃ y : Nat, y = ys[k] := ⟨_, rfl⟩
        rw [← hyk] at hcell'
        have hyb : (y : Int) < 16777216 := by have := SY.out k hky; omega
        have HYK := Lib.hid (show ys.getD k 0 = y from (getD_of_lt hky).trans hyk.symm)
        have hkJ : (k : Int) < (ys.length : Int) := by omega
        have h1' : wr.cell? ⟨c'', o' + k, none⟩ = some (.int .i64 y) := by rw [HB.out.cell (p := ⟨c'', o' + k, none⟩) (by show c'' < _; omega)]; exact hcell'
        clear hcell' hyk
        by_cases hneg' : (x : Int) - (cr : Int) - (y : Int) < 0
        · have hneg : (x : Int) - (cr : Int) - (y : Int) < 0 := hneg'
          go_wp2_with (at_builtin; refine wp_app1 rfl _ _ 58 rfl Tryz.underlying58 wr ((x : Int) - (cr : Int) - (y : Int) + 16777216) rfl w.heap.size _ (ofN L) OW.out rfl rfl (by rw [ofN_length, hlen.out]; have := HL.out; omega) (by omega) ?_; intro v' w' hown hb hs; have OW2 := Lib.hid hown; have HB2 := Lib.hid (hb w.heap.size (by omega) (Nat.le_refl _)); clear hown hb)
          go_roundw
          case rel =>
            refine ⟨k + 1, L ++ [((x : Int) - (cr : Int) - (y : Int) + 16777216).toNat], 1, by go_num, rfl, minusInv_step HI.out (by omega) (by omega) (by rw [HXK.out, HYK.out]; omega), by omega, ?_, HB.out.trans HB2.out⟩
            have := OW2.out
            rw [ofN_append]
            show OwnV _ _ _ (ofN L ++ [((((x : Int) - (cr : Int) - (y : Int) + 16777216).toNat : Nat) : Int)])
            rw [Int.toNat_of_nonneg (by omega)]
            exact this
          case measure => simp [intOf]; omega
        · have hneg : decide ((x : Int) - (cr : Int) - (y : Int) < 0) = false := decide_eq_false hneg'
          have hpos : 0 ≤ (x : Int) - (cr : Int) - (y : Int) := by omega
          go_wp2_with (at_builtin; refine wp_app1 rfl _ _ 58 rfl Tryz.underlying58 wr ((x : Int) - (cr : Int) - (y : Int)) rfl w.heap.size _ (ofN L) OW.out rfl rfl (by rw [ofN_length, hlen.out]; have := HL.out; omega) (by omega) ?_; intro v' w' hown hb hs; have OW2 := Lib.hid hown; have HB2 := Lib.hid (hb w.heap.size (by omega) (Nat.le_refl _)); clear hown hb)
          go_roundw
          case rel =>
            refine ⟨k + 1, L ++ [((x : Int) - (cr : Int) - (y : Int)).toNat], 0, by go_num, rfl, minusInv_step HI.out (by omega) (by omega) (by rw [HXK.out, HYK.out]; omega), by omega, ?_, HB.out.trans HB2.out⟩
            have := OW2.out
            rw [ofN_append]
            show OwnV _ _ _ (ofN L ++ [((((x : Int) - (cr : Int) - (y : Int)).toNat : Nat) : Int)])
            rw [Int.toNat_of_nonneg (by omega)]
            exact this
          case measure => simp [intOf]; omega
      · have hdy : decide ((k : Int) < (ys.length : Int)) = false := decide_eq_false (by omega)
        have HYK := Lib.hid (show ys.getD k 0 = 0 from getD_of_ge (by omega))
        by_cases hneg' : (x : Int) - (cr : Int) < 0
        · have hneg : (x : Int) - (cr : Int) < 0 := hneg'
          go_wp2_with (at_builtin; refine wp_app1 rfl _ _ 58 rfl Tryz.underlying58 wr ((x : Int) - (cr : Int) + 16777216) rfl w.heap.size _ (ofN L) OW.out rfl rfl (by rw [ofN_length, hlen.out]; have := HL.out; omega) (by omega) ?_; intro v' w' hown hb hs; have OW2 := Lib.hid hown; have HB2 := Lib.hid (hb w.heap.size (by omega) (Nat.le_refl _)); clear hown hb)
          go_roundw
          case rel =>
            refine ⟨k + 1, L ++ [((x : Int) - (cr : Int) + 16777216).toNat], 1, by go_num, rfl, minusInv_step HI.out (by omega) (by omega) (by rw [HXK.out, HYK.out]; omega), by omega, ?_, HB.out.trans HB2.out⟩
            have := OW2.out
            rw [ofN_append]
            show OwnV _ _ _ (ofN L ++ [((((x : Int) - (cr : Int) + 16777216).toNat : Nat) : Int)])
            rw [Int.toNat_of_nonneg (by omega)]
            exact this
          case measure => simp [intOf]; omega
        · have hneg : decide ((x : Int) - (cr : Int) < 0) = false := decide_eq_false hneg'
          have hpos : 0 ≤ (x : Int) - (cr : Int) := by omega
          go_wp2_with (at_builtin; refine wp_app1 rfl _ _ 58 rfl Tryz.underlying58 wr ((x : Int) - (cr : Int)) rfl w.heap.size _ (ofN L) OW.out rfl rfl (by rw [ofN_length, hlen.out]; have := HL.out; omega) (by omega) ?_; intro v' w' hown hb hs; have OW2 := Lib.hid hown; have HB2 := Lib.hid (hb w.heap.size (by omega) (Nat.le_refl _)); clear hown hb)
          go_roundw
          case rel =>
            refine ⟨k + 1, L ++ [((x : Int) - (cr : Int)).toNat], 0, by go_num, rfl, minusInv_step HI.out (by omega) (by omega) (by rw [HXK.out, HYK.out]; omega), by omega, ?_, HB.out.trans HB2.out⟩
            have := OW2.out
            rw [ofN_append]
            show OwnV _ _ _ (ofN L ++ [((((x : Int) - (cr : Int)).toNat : Nat) : Int)])
            rw [Int.toNat_of_nonneg (by omega)]
            exact this
          case measure => simp [intOf]; omega
    · obtain rfl : k = xs.length := by omega
      obtain ⟨a', c', rfl, hc', hc2', ho⟩ := OW.out.parts
      rw [ofN_length] at hc'
      have HEND := Lib.hid (show RetV (val xs - val ys) w (.returned (.slice a' L.length c')) wr from ⟨L, a', c', rfl, ⟨HI.out.small, minusInv_done HI.out HLE.out HV.out, hc', hc2', by rw [HI.out.len]; have := HL.out; omega, ho⟩, HB.out⟩)
      rw [ofN_length]
      clear ho OW
      go_wp2
      go_ret
      exact HEND.out

set_option maxHeartbeats 1000000 in
theorem sCompareLimbs (a b : Option Addr) (m n : Nat) (c1 c2 : Nat) (w : World) (B C : Nat) (hx : Ints w B a (lim m)) (hy : Ints w C b (lim n)) (hl : (lim m).length ≤ 4611686018427387904) (hl' : (lim n).length ≤ 4611686018427387904) :
    Calls Tryz.prog 104 #[.slice a (lim m).length c1, .slice b (lim n).length c2] w (RetQ (.int .i64 (cmpZ m n)) w) := by
  have HX := Lib.hid hx
  have HY := Lib.hid hy
  clear hx hy
  obtain ⟨r, hr⟩ : ∃ r, r = cmpZ m n := ⟨_, rfl⟩
  rw [← hr]
  have HV := Lib.hid hr
  clear hr
  rcases Nat.lt_trichotomy (lim m).length (lim n).length with h | h | h
  · have hlt : m < n := by
      have := lt_of_length (small_dig m) (norm_dig n) (by rwa [lim_length, lim_length] at h)
      rwa [val_dig, val_dig] at this
    have HW := Lib.hid (show r = -1 from HV.out.trans (cmpZ_lt (by omega)))
    have hz : (((lim m).length : Int) != ((lim n).length : Int)) = true := by simp; omega
    have hd : ((lim m).length : Int) < ((lim n).length : Int) := by omega
    clear hlt
    go_enter Tryz.func104, Tryz.ntmps104
    go_wp2
    go_ret
    exact ⟨0, by rw [HW.out]; rfl, rfl⟩
  · have HN := Lib.hid h
    have hz : (((lim m).length : Int) != ((lim n).length : Int)) = false := by simp [h]
    clear h
    go_enter Tryz.func104, Tryz.ntmps104
    go_wp2
    clear hz
    go_loopw [5] (fun i wr => ∃ k q : Nat, k ≤ (lim m).length ∧ i = .int .i64 ((k : Int) - 1) ∧ wr = w.drewN q ∧ Hid ((dig m).drop k = (dig n).drop k)) (fun i _ => (intOf i + 1).toNat)
    case atStart => exact ⟨_, 0, Nat.le_refl _, rfl, rfl, by
      have := HN.out
      rw [lim_length, lim_length] at this
      show (dig m).drop _ = (dig n).drop _
      rw [List.drop_eq_nil_of_le (by rw [lim_length]; exact Nat.le_refl _), List.drop_eq_nil_of_le (by rw [lim_length, this]; exact Nat.le_refl _)]⟩
    case round =>
      obtain ⟨k, q, hk, rfl, rfl, hd⟩ := hrel
      by_cases h0 : 0 < k
      · have hkm : k - 1 < (dig m).length := by rw [lim_length] at hk; omega
        have hkn : k - 1 < (dig n).length := by have := HN.out; rw [lim_length, lim_length] at this; omega
        obtain ⟨c, o, ha, _, hcell⟩ := HX.out (k - 1) (by rw [lim_length]; exact hkm)
        obtain ⟨c', o', ha', _, hcell'⟩ := HY.out (k - 1) (by rw [lim_length]; exact hkn)
        simp only [lim, ofN_at] at hcell hcell'
        subst ha ha'
        obtain ⟨x, hxk⟩ : ∃ x : Nat, x = (dig m)[k - 1] := ⟨_, rfl⟩
        obtain ⟨y, hyk⟩ : ∃ y : Nat, y = (dig n)[k - 1] := ⟨_, rfl⟩
        rw [← hxk] at hcell
        rw [← hyk] at hcell'
        have HXK := Lib.hid hxk
        have HYK := Lib.hid hyk
        clear hxk hyk
        have hi1 : ((k : Int) - 1).toNat = k - 1 := by omega
        have hi0 : (0 : Int) ≤ (k : Int) - 1 := by omega
        have hi2 : (k : Int) - 1 < ((lim m).length : Int) := by omega
        have hi3 : (k : Int) - 1 < ((lim n).length : Int) := by have := HN.out; omega
        have hdk : (dig m).drop (k - 1 + 1) = (dig n).drop (k - 1 + 1) := by rw [Nat.sub_add_cancel h0]; exact hd.out
        have HDK := Lib.hid hdk
        clear hdk
        have hlen : (dig m).length = (dig n).length := by have := HN.out; rwa [lim_length, lim_length] at this
        have HLEN := Lib.hid hlen
        clear hlen
        rcases Nat.lt_trichotomy x y with hxy | hxy | hxy
        · have hlt : m < n := by
            have := lt_of_limb (small_dig m) HLEN.out (k - 1) hkm HDK.out (by rw [← HXK.out, ← HYK.out]; exact hxy)
            rwa [val_dig, val_dig] at this
          have HW := Lib.hid (show r = -1 from HV.out.trans (cmpZ_lt (by omega)))
          have hne : ((x : Int) != (y : Int)) = true := by simp; omega
          have hxy' : (x : Int) < (y : Int) := by omega
          clear hlt
          go_wp2
          go_quiet (fail)
          go_wp2
          go_quiet (fail)
          go_wp2
          go_ret
          exact ⟨_, by rw [HW.out]; rfl, (by first | rfl | exact World.drewN_drewN _ _ _ | (rw [World.drewN_drewN, World.drewN_drewN]))⟩
        · have hdd : (dig m).drop (k - 1) = (dig n).drop (k - 1) := drop_same HLEN.out (k - 1) hkm HDK.out (by rw [← HXK.out, ← HYK.out]; exact hxy)
          have HDD := Lib.hid hdd
          have hne : ((x : Int) != (y : Int)) = false := by simp [hxy]
          clear hdd hxy
          go_wp2
          go_quiet (fail)
          go_wp2
          go_roundw
          case rel => exact ⟨k - 1, _, by omega, (by first | rfl | (congr 1; omega)), (by first | rfl | exact World.drewN_drewN _ _ _), HDD.out⟩
          case measure => simp [intOf]; omega
        · have hlt : n < m := by
            have := lt_of_limb (small_dig n) HLEN.out.symm (k - 1) (by rw [← HLEN.out]; exact hkm) HDK.out.symm (by rw [← HXK.out, ← HYK.out]; exact hxy)
            rwa [val_dig, val_dig] at this
          have HW := Lib.hid (show r = 1 from HV.out.trans (cmpZ_gt (by omega)))
          have hne : ((x : Int) != (y : Int)) = true := by simp; omega
          have hxy' : decide ((x : Int) < (y : Int)) = false := decide_eq_false (by omega)
          clear hlt
          go_wp2
          go_quiet (fail)
          go_wp2
          go_quiet (fail)
          go_wp2
          go_ret
          exact ⟨_, by rw [HW.out]; rfl, (by first | rfl | exact World.drewN_drewN _ _ _ | (rw [World.drewN_drewN, World.drewN_drewN]))⟩
      · obtain rfl : k = 0 := by omega
        have heq : m = n := by
          have := hd.out
          simp only [List.drop_zero] at this
          rw [← val_dig m, ← val_dig n, this]
        have HW := Lib.hid (show r = 0 from HV.out.trans (cmpZ_eq (by omega)))
        clear heq
        go_wp2
        go_ret
        exact ⟨_, by rw [HW.out]; rfl, rfl⟩
  · have hlt : n < m := by
      have := lt_of_length (small_dig n) (norm_dig m) (by rwa [lim_length, lim_length] at h)
      rwa [val_dig, val_dig] at this
    have HW := Lib.hid (show r = 1 from HV.out.trans (cmpZ_gt (by omega)))
    have hz : (((lim m).length : Int) != ((lim n).length : Int)) = true := by simp; omega
    have hd : decide (((lim m).length : Int) < ((lim n).length : Int)) = false := decide_eq_false (by omega)
    have hd' : decide ((lim m).length < (lim n).length) = false := decide_eq_false (by omega)
    clear hlt h
    go_enter Tryz.func104, Tryz.ntmps104
    go_wp2
    go_ret
    exact ⟨0, by rw [HW.out]; rfl, rfl⟩

theorem sMakeL (s : Int) (a : Option Addr) (n : Nat) (c : Nat) (w : World) (B : Nat) (hB : B ≤ w.heap.size) (hx : Ints w B a (lim n)) (hc : (lim n).length ≤ c) (hl : (lim n).length ≤ 8388608) :
    Calls Tryz.prog 103 #[.int .i64 s, .slice a (lim n).length c] w (RetN (sgnOf s n) n w) := by
  rw [lim_length] at hc hl ⊢
  have := sMake s a (dig n) c w B hB hx (small_dig n) hc hl
  rwa [val_dig] at this

set_option maxHeartbeats 2000000 in
theorem sAdd (s t : Int) (a b : Option Addr) (m n c1 c2 : Nat) (w : World) (B C : Nat) (hB : B ≤ w.heap.size) (hC : C ≤ w.heap.size) (hx : Ints w B a (lim m)) (hy : Ints w C b (lim n)) (hs : Sg s m) (ht : Sg t n)
    (hl : (lim m).length ≤ 1048576) (hl' : (lim n).length ≤ 1048576) (hc1 : (lim m).length ≤ c1) (hc2 : (lim n).length ≤ c2) :
    Calls Tryz.prog 83 #[.agg #[.int .i64 s, .slice a (lim m).length c1], .agg #[.int .i64 t, .slice b (lim n).length c2]] w (RetZ (s * m + t * n) w) := by

  obtain ⟨W0, hW0⟩ : ∃ W0 : World, ((w.alloc (.cells #[.int .i64 s, .slice a (lim m).length c1] 60)).alloc (.cells #[.int .i64 t, .slice b (lim n).length c2] 60)).alloc (.cells #[.int .i64 0, .slice none 0 0] 60) = W0 := ⟨_, rfl⟩
  obtain ⟨p1, p2, p5, p3, p4⟩ := three_box w 60 #[.int .i64 s, .slice a (lim m).length c1] #[.int .i64 t, .slice b (lim n).length c2] #[.int .i64 0, .slice none 0 0]
  rw [hW0] at p1 p2 p3 p4 p5
  have HW0 := Lib.hid hW0
  have P3 := Lib.hid p3
  have P4 := Lib.hid p4
  have SS := Lib.hid (show ∀ W, Below W0.heap.size W0 W → (W.cell? ⟨w.heap.size, 0, none⟩ = some (.int .i64 s) ∧ W.cell? ⟨w.heap.size, 1, none⟩ = some (.slice a (lim m).length c1) ∧ W.cell? ⟨w.heap.size + 1, 0, none⟩ = some (.int .i64 t) ∧ W.cell? ⟨w.heap.size + 1, 1, none⟩ = some (.slice b (lim n).length c2)) from
    fun W hW => ⟨(p1.below hW).cell 0, (p1.below hW).cell 1, (p2.below hW).cell 0, (p2.below hW).cell 1⟩)
  have SR := Lib.hid (show ∀ W, Below W0.heap.size W0 W → (W.cell? ⟨w.heap.size + 1 + 1, 0, none⟩ = some (.int .i64 0) ∧ W.cell? ⟨w.heap.size + 1 + 1, 1, none⟩ = some (.slice none 0 0) ∧ W.frozen? ⟨w.heap.size + 1 + 1, 0, none⟩ = false ∧ W.frozen? ⟨w.heap.size + 1 + 1, 1, none⟩ = false) from
    fun W hW => (p5.below hW).two)
  have ST := Lib.hid (show ∀ W u v, Below W0.heap.size W0 W → (fun W : World => W.cell? ⟨w.heap.size, 0, none⟩ = some (.int .i64 s) ∧ W.cell? ⟨w.heap.size, 1, none⟩ = some (.slice a (lim m).length c1) ∧ W.cell? ⟨w.heap.size + 1, 0, none⟩ = some (.int .i64 t) ∧ W.cell? ⟨w.heap.size + 1, 1, none⟩ = some (.slice b (lim n).length c2)) ((W.setCell ⟨w.heap.size + 1 + 1, 0, none⟩ u).setCell ⟨w.heap.size + 1 + 1, 1, none⟩ v) from fun W u v hW =>
    ⟨(((p1.below hW).far (by simp <;> omega) _).far (by simp <;> omega) _).cell 0, (((p1.below hW).far (by simp <;> omega) _).far (by simp <;> omega) _).cell 1, (((p2.below hW).far (by simp <;> omega) _).far (by simp <;> omega) _).cell 0, (((p2.below hW).far (by simp <;> omega) _).far (by simp <;> omega) _).cell 1⟩)
  have hT : Below W0.heap.size W0 W0 := Below.refl _ _
  have hT' : Below W0.heap.size W0 W0.drew := hT.drew
  have IX := Lib.hid (show ∀ W, Below W0.heap.size W0 W → Ints W B a (lim m) ∧ Ints W C b (lim n) ∧ B ≤ W.heap.size ∧ C ≤ W.heap.size from fun W hW => ⟨hx.below ((p3.mono hB).trans (hW.mono (by omega))), hy.below ((p3.mono hC).trans (hW.mono (by omega))), by have := hW.size; omega, by have := hW.size; omega⟩)
  have HMK := Lib.hid (show ∀ (s : Int) (v : Nat) (L : List Nat) (a : Option Addr) (c : Nat) W, VL W W0.heap.size L v a c → Below W0.heap.size W0 W → Calls Tryz.prog 103 #[.int .i64 s, .slice a L.length c] W fun e w' => ∃ a c, e = .returned (.agg #[.int .i64 (sgnOf s v), .slice a (lim v).length c]) ∧ (lim v).length ≤ c ∧ Own w' W0.heap.size a (lim v) ∧ Below W0.heap.size W0 w' from
    fun s v L a c W hV hW => by
      have := sMake s a L c W W.heap.size (Nat.le_refl _) hV.own.ints hV.small hV.fit (by have := hV.len; omega)
      rw [hV.value] at this
      exact this.mono fun e w' ⟨a, c, he, hc, ho, hb⟩ => ⟨a, c, he, hc, ho.mono hW.size, hW.trans (hb.mono hW.size)⟩)
  have HMA := Lib.hid (show ∀ W, Below W0.heap.size W0 W → Calls Tryz.prog 103 #[.int .i64 s, .slice a (lim m).length c1] W fun e w' => ∃ a c, e = .returned (.agg #[.int .i64 (sgnOf s m), .slice a (lim m).length c]) ∧ (lim m).length ≤ c ∧ Own w' W0.heap.size a (lim m) ∧ Below W0.heap.size W0 w' from
    fun W hW => (sMakeL s a m c1 W B (IX.out W hW).2.2.1 (IX.out W hW).1 hc1 (by omega)).mono fun e w' ⟨a, c, he, hc, ho, hb⟩ => ⟨a, c, he, hc, ho.mono hW.size, hW.trans (hb.mono hW.size)⟩)
  have HMB := Lib.hid (show ∀ W, Below W0.heap.size W0 W → Calls Tryz.prog 103 #[.int .i64 t, .slice b (lim n).length c2] W fun e w' => ∃ a c, e = .returned (.agg #[.int .i64 (sgnOf t n), .slice a (lim n).length c]) ∧ (lim n).length ≤ c ∧ Own w' W0.heap.size a (lim n) ∧ Below W0.heap.size W0 w' from
    fun W hW => (sMakeL t b n c2 W C (IX.out W hW).2.2.2 (IX.out W hW).2.1 hc2 (by omega)).mono fun e w' ⟨a, c, he, hc, ho, hb⟩ => ⟨a, c, he, hc, ho.mono hW.size, hW.trans (hb.mono hW.size)⟩)
  have HPL := Lib.hid (show ∀ W, Below W0.heap.size W0 W → Calls Tryz.prog 105 #[.slice a (lim m).length c1, .slice b (lim n).length c2] W fun e w' => ∃ (L : List Nat) (a : Option Addr) (c : Nat), e = .returned (.slice a L.length c) ∧ VL w' W0.heap.size L (m + n) a c ∧ Below W0.heap.size W0 w' from
    fun W hW => by
      have := sPlus a b (dig m) (dig n) c1 c2 W B C (IX.out W hW).2.2.1 (IX.out W hW).2.2.2 (IX.out W hW).1 (IX.out W hW).2.1 (small_dig m) (small_dig n) (by rw [← lim_length]; exact hl) (by rw [← lim_length]; exact hl')
      rw [val_dig, val_dig, ← lim_length, ← lim_length] at this
      exact this.mono fun e w' ⟨L, a, c, he, hv, hb⟩ => ⟨L, a, c, he, hv.mono hW.size, hW.trans (hb.mono hW.size)⟩)
  have HCM := Lib.hid (show ∀ W, Below W0.heap.size W0 W → Calls Tryz.prog 104 #[.slice a (lim m).length c1, .slice b (lim n).length c2] W fun e w' => e = .returned (.int .i64 (cmpZ m n)) ∧ Below W0.heap.size W0 w' from
    fun W hW => (sCompareLimbs a b m n c1 c2 W B C (IX.out W hW).1 (IX.out W hW).2.1 (by omega) (by omega)).mono fun e w' ⟨k, he, hb⟩ => ⟨he, by rw [hb]; exact below_drewN hW k⟩)
  have HM1 := Lib.hid (show n ≤ m → ∀ W, Below W0.heap.size W0 W → Calls Tryz.prog 106 #[.slice a (lim m).length c1, .slice b (lim n).length c2] W fun e w' => ∃ (L : List Nat) (a : Option Addr) (c : Nat), e = .returned (.slice a L.length c) ∧ VL w' W0.heap.size L (m - n) a c ∧ Below W0.heap.size W0 w' from
    fun hmn W hW => by
      have hle := lim_le_of_le hmn
      rw [lim_length, lim_length] at hle
      have := sMinus a b (dig m) (dig n) c1 c2 W B C (IX.out W hW).2.2.1 (IX.out W hW).2.2.2 (IX.out W hW).1 (IX.out W hW).2.1 (small_dig m) (small_dig n) (by rw [← lim_length]; exact hl) hle (by rw [val_dig, val_dig]; exact hmn)
      rw [val_dig, val_dig, ← lim_length, ← lim_length] at this
      exact this.mono fun e w' ⟨L, a, c, he, hv, hb⟩ => ⟨L, a, c, he, hv.mono hW.size, hW.trans (hb.mono hW.size)⟩)
  have HM2 := Lib.hid (show m ≤ n → ∀ W, Below W0.heap.size W0 W → Calls Tryz.prog 106 #[.slice b (lim n).length c2, .slice a (lim m).length c1] W fun e w' => ∃ (L : List Nat) (a : Option Addr) (c : Nat), e = .returned (.slice a L.length c) ∧ VL w' W0.heap.size L (n - m) a c ∧ Below W0.heap.size W0 w' from
    fun hmn W hW => by
      have hle := lim_le_of_le hmn
      rw [lim_length, lim_length] at hle
      have := sMinus b a (dig n) (dig m) c2 c1 W C B (IX.out W hW).2.2.2 (IX.out W hW).2.2.1 (IX.out W hW).2.1 (IX.out W hW).1 (small_dig n) (small_dig m) (by rw [← lim_length]; exact hl') hle (by rw [val_dig, val_dig]; exact hmn)
      rw [val_dig, val_dig, ← lim_length, ← lim_length] at this
      exact this.mono fun e w' ⟨L, a, c, he, hv, hb⟩ => ⟨L, a, c, he, hv.mono hW.size, hW.trans (hb.mono hW.size)⟩)
  clear p1 p2 p3 p4 p5 hx hy hl hl' hW0 hB hC IX hc1 hc2
  have HSG := Lib.hid hs
  have HTG := Lib.hid ht
  have hst : (-1 ≤ s ∧ s ≤ 1) ∧ (-1 ≤ t ∧ t ≤ 1) := by unfold Sg at hs ht; omega
  obtain ⟨⟨hs1, hs2⟩, ht1, ht2⟩ := hst
  clear hs ht
  by_cases hs0 : s = 0
  · subst hs0
    have hfin : sgnOf t n = ((0 : Int) * m + t * n).sign ∧ n = ((0 : Int) * m + t * n).natAbs := sgnOf_eq (by have := HTG.out; unfold Sg at this; omega) (by simp)
    have HF := Lib.hid hfin
    obtain ⟨z, hz⟩ : ∃ z, z = (0 : Int) * m + t * n := ⟨_, rfl⟩
    rw [← hz] at HF ⊢
    clear hfin hz
    go_enter Tryz.func83, Tryz.ntmps83
    go_wp2_with fail
    rw [HW0.out]
    refine (HMB.out _ hT).mono ?_
    rintro e w1 ⟨a', c', rfl, hc', ho', hb⟩
    have HC' := Lib.hid hc'
    have HO' := Lib.hid ho'
    clear hc' ho'
    obtain ⟨q1, q2, q3, q4⟩ := SR.out _ hb
    go_wp2_with fail
    refine bodyPost_ret (v := .agg #[.int .i64 (sgnOf t n), .slice a' (lim n).length c']) (by simp [results, Tryz.results83, go_sem, *]) rfl ?_
    exact retZ_end P3.out P4.out hb _ _ HO'.out HC'.out HF.out
  · have hsz : (s == 0) = false := by simpa using hs0
    by_cases ht0 : t = 0
    · subst ht0
      have hfin : sgnOf s m = (s * (m : Int) + (0 : Int) * n).sign ∧ m = (s * (m : Int) + (0 : Int) * n).natAbs := sgnOf_eq (by have := HSG.out; unfold Sg at this; omega) (by simp)
      have HF := Lib.hid hfin
      obtain ⟨z, hz⟩ : ∃ z, z = s * (m : Int) + (0 : Int) * n := ⟨_, rfl⟩
      rw [← hz] at HF ⊢
      clear hfin hz
      go_enter Tryz.func83, Tryz.ntmps83
      go_wp2_with fail
      rw [HW0.out]
      refine (HMA.out _ hT).mono ?_
      rintro e w1 ⟨a', c', rfl, hc', ho', hb⟩
      have HC' := Lib.hid hc'
      have HO' := Lib.hid ho'
      clear hc' ho'
      obtain ⟨q1, q2, q3, q4⟩ := SR.out _ hb
      go_wp2_with fail
      refine bodyPost_ret (v := .agg #[.int .i64 (sgnOf s m), .slice a' (lim m).length c']) (by simp [results, Tryz.results83, go_sem, *]) rfl ?_
      exact retZ_end P3.out P4.out hb _ _ HO'.out HC'.out HF.out
    · have htz : (t == 0) = false := by simpa using ht0
      by_cases hst : s = t
      · subst hst
        have hss : (s == s) = true := by simp
        have hfin : sgnOf s (m + n) = (s * (m : Int) + s * n).sign ∧ m + n = (s * (m : Int) + s * n).natAbs := sgnOf_eq (by omega) (by rw [Int.natCast_add, Int.mul_add])
        have HF := Lib.hid hfin
        obtain ⟨z, hz⟩ : ∃ z, z = s * (m : Int) + s * n := ⟨_, rfl⟩
        rw [← hz] at HF ⊢
        clear hfin hz
        go_enter Tryz.func83, Tryz.ntmps83
        go_wp2_with fail
        rw [HW0.out]
        go_region_held3 (fun W => W.cell? ⟨w.heap.size, 0, none⟩ = some (.int .i64 s) ∧ W.cell? ⟨w.heap.size, 1, none⟩ = some (.slice a (lim m).length c1) ∧ W.cell? ⟨w.heap.size + 1, 0, none⟩ = some (.int .i64 s) ∧ W.cell? ⟨w.heap.size + 1, 1, none⟩ = some (.slice b (lim n).length c2))
          (first | exact SS.out _ (by assumption) | exact ST.out _ _ _ (by assumption))
          (first
          | (go_at_call 105; refine (HPL.out _ (by assumption)).mono ?_; rintro e w' ⟨L, a', c', rfl, hV', hb⟩)
          | (go_at_call 103; refine (HMK.out _ _ _ _ _ _ (by assumption) (by assumption)).mono ?_; rintro e w' ⟨a', c', rfl, hc', ho', hb⟩; obtain ⟨q1, q2, q3, q4⟩ := SR.out _ hb))
        go_wp2_with fail
        refine bodyPost_ret (v := .agg #[.int .i64 (sgnOf s (m + n)), .slice a' (lim (m + n)).length c']) (by simp [results, Tryz.results83, go_sem, *]) rfl ?_
        exact retZ_end P3.out P4.out (by assumption) _ _ (by assumption) (by assumption) HF.out
      · have hss : (s == t) = false := by simpa using hst
        by_cases hmn : m < n
        · have hq := cmpZ_lt (x := (m : Int)) (y := n) (by omega)
          rw [hq] at HCM
          clear hq
          have HMM := Lib.hid (HM2.out (by omega))
          have hfin : sgnOf t (n - m) = (s * (m : Int) + t * n).sign ∧ n - m = (s * (m : Int) + t * n).natAbs := by
            refine sgnOf_eq (by omega) ?_
            rw [Int.natCast_sub (by omega)]
            have : (s = 1 ∧ t = -1) ∨ (s = -1 ∧ t = 1) := by omega
            rcases this with ⟨rfl, rfl⟩ | ⟨rfl, rfl⟩ <;> omega
          have HF := Lib.hid hfin
          obtain ⟨z, hz⟩ : ∃ z, z = s * (m : Int) + t * n := ⟨_, rfl⟩
          rw [← hz] at HF ⊢
          clear hfin hz hmn
          go_enter Tryz.func83, Tryz.ntmps83
          go_wp2_with fail
          rw [HW0.out]
          refine (HCM.out _ hT).mono ?_
          rintro e w1 ⟨rfl, hb⟩
          obtain ⟨k1, k2, k3, k4⟩ := SS.out _ hb
          have hbd := Below.drew hb
          go_wp2_with fail
          clear k1 k2 k3 k4
          go_region_held3 (fun W => W.cell? ⟨w.heap.size, 0, none⟩ = some (.int .i64 s) ∧ W.cell? ⟨w.heap.size, 1, none⟩ = some (.slice a (lim m).length c1) ∧ W.cell? ⟨w.heap.size + 1, 0, none⟩ = some (.int .i64 t) ∧ W.cell? ⟨w.heap.size + 1, 1, none⟩ = some (.slice b (lim n).length c2))
            (first | exact SS.out _ (by assumption) | exact ST.out _ _ _ (by assumption))
            (first
            | (go_at_call 106; refine (HMM.out _ (by assumption)).mono ?_; rintro e w' ⟨L, a', c', rfl, hV', hb⟩)
            | (go_at_call 103; refine (HMK.out _ _ _ _ _ _ (by assumption) (by assumption)).mono ?_; rintro e w' ⟨a', c', rfl, hc', ho', hb⟩; obtain ⟨q1, q2, q3, q4⟩ := SR.out _ hb))
          go_wp2_with fail
          refine bodyPost_ret (v := .agg #[.int .i64 (sgnOf t (n - m)), .slice a' (lim (n - m)).length c']) (by simp [results, Tryz.results83, go_sem, *]) rfl ?_
          exact retZ_end P3.out P4.out (by assumption) _ _ (by assumption) (by assumption) HF.out
        · have hq : ∃ q : Int, q = cmpZ m n ∧ 0 ≤ q ∧ q ≤ 1 := ⟨_, rfl, by unfold cmpZ; repeat' split <;> omega, by unfold cmpZ; repeat' split <;> omega⟩
          obtain ⟨q, hq, hq0, hq1⟩ := hq
          rw [← hq] at HCM
          clear hq
          have HMM := Lib.hid (HM1.out (by omega))
          have hfin : sgnOf s (m - n) = (s * (m : Int) + t * n).sign ∧ m - n = (s * (m : Int) + t * n).natAbs := by
            refine sgnOf_eq (by omega) ?_
            rw [Int.natCast_sub (by omega)]
            have : (s = 1 ∧ t = -1) ∨ (s = -1 ∧ t = 1) := by omega
            rcases this with ⟨rfl, rfl⟩ | ⟨rfl, rfl⟩ <;> omega
          have HF := Lib.hid hfin
          obtain ⟨z, hz⟩ : ∃ z, z = s * (m : Int) + t * n := ⟨_, rfl⟩
          rw [← hz] at HF ⊢
          clear hfin hz hmn
          go_enter Tryz.func83, Tryz.ntmps83
          go_wp2_with fail
          rw [HW0.out]
          refine (HCM.out _ hT).mono ?_
          rintro e w1 ⟨rfl, hb⟩
          obtain ⟨k1, k2, k3, k4⟩ := SS.out _ hb
          have hbd := Below.drew hb
          go_wp2_with fail
          clear k1 k2 k3 k4
          go_region_held3 (fun W => W.cell? ⟨w.heap.size, 0, none⟩ = some (.int .i64 s) ∧ W.cell? ⟨w.heap.size, 1, none⟩ = some (.slice a (lim m).length c1) ∧ W.cell? ⟨w.heap.size + 1, 0, none⟩ = some (.int .i64 t) ∧ W.cell? ⟨w.heap.size + 1, 1, none⟩ = some (.slice b (lim n).length c2))
            (first | exact SS.out _ (by assumption) | exact ST.out _ _ _ (by assumption))
            (first
            | (go_at_call 106; refine (HMM.out _ (by assumption)).mono ?_; rintro e w' ⟨L, a', c', rfl, hV', hb⟩)
            | (go_at_call 103; refine (HMK.out _ _ _ _ _ _ (by assumption) (by assumption)).mono ?_; rintro e w' ⟨a', c', rfl, hc', ho', hb⟩; obtain ⟨q1, q2, q3, q4⟩ := SR.out _ hb))
          go_wp2_with fail
          refine bodyPost_ret (v := .agg #[.int .i64 (sgnOf s (m - n)), .slice a' (lim (m - n)).length c']) (by simp [results, Tryz.results83, go_sem, *]) rfl ?_
          exact retZ_end P3.out P4.out (by assumption) _ _ (by assumption) (by assumption) HF.out
end Go.Proofs.YtgppagmejhgmaaaGreatDoor
