/-
  Contracts of the model's limbs: copies, trimming, sums, differences, order. Conditions: the limbs can be read. Contracts of the model's limbs: sums, differences, order. Conditions: the limbs can be read. Contracts of the model's limbs: differences, order. Conditions: the limbs can be read. Contracts of the model's whole numbers: sums, opposites, differences. Conditions: the limbs can be read.
-/
import Derived.Test.YtnnbfoemmgddeaaDoorMt
namespace Go.Proofs.YtnnbfoemmgddeaaDoor
set_option linter.unusedVariables false
open Go Go.RowKit

set_option maxHeartbeats 400000 in
theorem sOwn (a : Option Addr) (xs : List Int) (c : Nat) (w : World) (B : Nat) (hB : B ≤ w.heap.size) (hl : xs.length ≤ 8388608) (hx : Ints w B a xs) :
    Calls Tryd.prog 90 #[.slice a xs.length c] w (RetL xs w) := by
  cases a with
  | none =>
    have h0 : xs = [] := by
      rcases Nat.eq_zero_or_pos xs.length with h | h
      · exact List.eq_nil_of_length_eq_zero h
      · obtain ⟨_, _, he, _⟩ := hx 0 h; cases he
    subst h0
    clear hx hl
    simp only [List.length_nil]
    go_enter Tryd.func90, Tryd.ntmps90
    go_wp2
    go_ret
    exact ⟨_, _, rfl, Nat.le_refl _, .inl rfl, (by repeat (first | exact Below.refl _ _ | assumption | refine Below.alloc ?_ (by simp <;> omega) _ | refine Below.setCell ?_ (by simp <;> omega) _ | refine below_drewN ?_ _))⟩
  | some ad =>
    have HX := Lib.hid hx
    have HL := Lib.hid hl
    clear hx hl
    go_enter Tryd.func90, Tryd.ntmps90
    go_wp2_with (at_builtin; refine wp_app rfl _ _ 26 rfl Tryd.underlying26 w.heap.size _ [] (OwnV.empty w _ (Nat.le_refl _)) rfl ad xs.length c xs rfl rfl (ints_add (HX.out.alloc hB _)) (by have := HL.out; simp; omega) (by simp) ?_; intro v' w' hown hgrow)
    obtain ⟨a', c', rfl, hc', _, ho⟩ := hown.parts
    have HO := Lib.hid ho
    have HB := Lib.hid ((Below.alloc (Below.refl w.heap.size w) (Nat.le_refl _) (.cells #[] 2)).grown hgrow (by simp) (fun g hg => by simp [Value.ownBlock] at hg; omega))
    clear ho hgrow hown
    go_wp2_with fail
    go_ret
    exact ⟨_, _, rfl, hc', HO.out, HB.out⟩

/-- A slice that is cut at its beginning. -/
theorem Ints.take {w : World} {B : Nat} {a : Option Addr} {xs : List Int} (h : Ints w B a xs) (n : Nat) : Ints w B a (xs.take n) := fun i hi => by
  have hi' : i < xs.length := by rw [List.length_take] at hi; omega
  obtain ⟨c, o, ha, hc, hcell⟩ := h i hi'
  exact ⟨c, o, ha, hc, by rw [List.getElem_take]; exact hcell⟩

/-- The call returned the whole number with sign and size in new memory. -/
def RetN (s : Int) (n : Nat) (w : World) (e : Ending) (w' : World) : Prop := ∃ a c, e = .returned (.agg #[.int .i64 s, .slice a (lim n).length c]) ∧ (lim n).length ≤ c ∧ Own w' w.heap.size a (lim n) ∧ Below w.heap.size w w'

set_option maxHeartbeats 400000 in
theorem sMake (s : Int) (a : Option Addr) (L : List Nat) (c : Nat) (w : World) (B : Nat) (hB : B ≤ w.heap.size) (hx : Ints w B a (ofN L)) (hs : Small L) (hc : L.length ≤ c) (hl : L.length ≤ 8388608) :
    Calls Tryd.prog 69 #[.int .i64 s, .slice a L.length c] w (RetN (sgnOf s (val L)) (val L) w) := by
  have HX := Lib.hid hx
  have HS := Lib.hid hs
  have HL := Lib.hid hl
  clear hx hs hl
  obtain ⟨r, hr⟩ : ∃ r, r = (dig (val L)).length := ⟨_, rfl⟩
  have HR := Lib.hid hr
  have htk := take_dig_len HS.out
  rw [← hr] at htk
  have HTK := Lib.hid htk
  have hrl : r ≤ L.length := by rw [hr]; exact dig_length_val_le HS.out
  have P0 := Lib.hid (BoxAt.new w 28 #[.int .i64 0, .slice none 0 0])
  have HO := Lib.hid (show ∀ o, Calls Tryd.prog 90 #[.slice a r c] (w.alloc o) (RetL (lim (val L)) (w.alloc o)) from fun o => by
    have := sOwn a (lim (val L)) c (w.alloc o) B (by simp; omega) (by rw [lim_length]; have := HL.out; have := HR.out; omega) ((by rw [lim, ← HTK.out, ← ofN_take]; exact HX.out.take r : Ints w B a (lim (val L))).alloc hB o)
    rw [lim_length, ← HR.out] at this
    exact this)
  clear hr htk
  go_enter Tryd.func69, Tryd.ntmps69
  go_wp2
  go_loop [5] (fun i => ∃ k : Nat, k ≤ L.length ∧ i = .int .i64 k ∧ Hid (∀ (j : Nat) (h : j < L.length), k ≤ j → L[j] = 0)) (fun i => (intOf i).toNat)
  case atStart => exact ⟨L.length, Nat.le_refl _, rfl, fun j h hj => absurd h (by omega)⟩
  case round =>
    obtain ⟨k, hk, rfl, hz⟩ := hrel
    have hend : (∀ (h0 : 0 < k), L[k - 1]'(by omega) ≠ 0) → k = r := fun h => by
      have := take_dig HS.out hk hz.out h
      rw [HR.out, ← this, List.length_take]
      omega
    by_cases h0 : 0 < k
    · obtain ⟨b, o, ha, hcB, hcell⟩ := HX.out (k - 1) (by rw [ofN_length]; omega)
      rw [ofN_at] at hcell
      subst ha
      have hi1 : ((k : Int) - 1).toNat = k - 1 := by omega
      have hi2 : (0 : Int) ≤ (k : Int) - 1 := by omega
      have hi3 : (k : Int) - 1 < (L.length : Int) := by omega
      have h0I : (0 : Int) < (k : Int) := by omega
      have hkb : (k : Int) ≤ 9223372036854775807 := by have := HL.out; omega
      obtain ⟨x, hxk⟩ : ∃ x : Nat, x = L[k - 1] := ⟨_, rfl⟩
      rw [← hxk] at hcell
      have hcell2 : ∀ o', (w.alloc o').cell? ⟨b, o + (k - 1), none⟩ = some (.int .i64 x) := fun o' => by rw [World.cell?_alloc_lt w _ ⟨b, o + (k - 1), none⟩ (by show b < _; omega)]; exact hcell
      have HXK := Lib.hid hxk
      clear hxk hcell
      by_cases hx0 : x = 0
      · subst hx0
        have HEND := Lib.hid hend
        clear hend
        go_wp2
        go_round
        case rel =>
          refine ⟨k - 1, by omega, by (try simp); omega, fun j h hj => ?_⟩
          by_cases hjk : j = k - 1
          · subst hjk; exact HXK.out.symm
          · exact hz.out j h (by omega)
        case measure => simp [intOf]; omega
      · have hne : ((x : Int) == 0) = false := by simpa using hx0
        obtain rfl : k = r := hend (fun _ => by rw [← HXK.out]; exact hx0)
        have hkz : ((k : Int) == 0) = false := by simp; omega
        have hv : val L ≠ 0 := fun h => by
          have := HR.out
          rw [h, dig_zero] at this
          simp at this
          omega
        have HE := Lib.hid (sgnOf_pos (s := s) hv)
        have hkc : (k : Int) ≤ (c : Int) := by omega
        have HRL := Lib.hid hrl
        clear hend hv hrl
        go_wp2_with fail
        refine (HO.out _).mono ?_
        rintro e w1 ⟨a1, c1, rfl, hc1, ho1, hb1⟩
        have HC1 := Lib.hid hc1
        have HO1 := Lib.hid ho1
        have HB1 := Lib.hid hb1
        have P1 := Lib.hid (P0.out.below hb1)
        obtain ⟨q1, q2, q3, q4⟩ := P1.out.two
        clear hc1 ho1 hb1
        go_wp2_with fail
        refine bodyPost_ret (v := .agg #[.int .i64 s, .slice a1 (lim (val L)).length c1]) (by simp [results, Tryd.results69, go_sem, *]) rfl ⟨a1, c1, by rw [HE.out], HC1.out, ((HO1.out.setFar (by simp) _).setFar (by simp) _).mono (by simp), (((Below.refl _ w).alloc (Nat.le_refl _) _).trans (HB1.out.mono (by simp)) |>.setCell (by simp) _).setCell (by simp) _⟩
    · obtain rfl : k = 0 := by omega
      have hr0 := hend (fun h => absurd h (Nat.lt_irrefl 0))
      have hv : val L = 0 := by
        have := HR.out
        rw [← hr0] at this
        exact (dig_nil_iff _).1 (List.eq_nil_of_length_eq_zero this.symm)
      have HE := Lib.hid hv
      clear hend hv hr0
      go_wp2
      refine bodyPost_ret (v := .agg #[.int .i64 0, .slice none 0 0]) (by simp [results, Tryd.results69, go_sem]) rfl ⟨none, 0, by rw [HE.out, sgnOf_zero, lim_zero]; rfl, by rw [HE.out, lim_zero]; exact Nat.le_refl _, by rw [HE.out, lim_zero]; exact .inl rfl, (by repeat (first | exact Below.refl _ _ | assumption | refine Below.alloc ?_ (by simp <;> omega) _ | refine Below.setCell ?_ (by simp <;> omega) _ | refine below_drewN ?_ _))⟩

/-- Small limbs of value v in new memory. -/
structure VL (w : World) (lo : Nat) (L : List Nat) (v : Nat) (a : Option Addr) (c : Nat) : Prop where
  small : Small L
  value : val L = v
  fit : L.length ≤ c
  cap : c ≤ 9223372036854775807
  len : L.length ≤ 4194304
  own : Own w lo a (ofN L)
theorem VL.mono {w : World} {lo lo' : Nat} {L : List Nat} {v : Nat} {a : Option Addr} {c : Nat} (h : VL w lo L v a c) (hl : lo' ≤ lo) : VL w lo' L v a c := ⟨h.small, h.value, h.fit, h.cap, h.len, h.own.mono hl⟩
theorem VL.below {w w' : World} {lo : Nat} {L : List Nat} {v : Nat} {a : Option Addr} {c : Nat} (h : VL w lo L v a c) (hb : Below w.heap.size w w') : VL w' lo L v a c := ⟨h.small, h.value, h.fit, h.cap, h.len, h.own.below hb⟩
/-- The call returned small limbs of value v in new memory. -/
def RetV (v : Nat) (w : World) (e : Ending) (w' : World) : Prop := ∃ (L : List Nat) (a : Option Addr) (c : Nat), e = .returned (.slice a L.length c) ∧ VL w' w.heap.size L v a c ∧ Below w.heap.size w w'

/-- One number is appended to numbers of the call's own. -/
theorem wp_app1 {ops : Array Oper} {rest : List Oper} {o : Oper} {a : Act} {Q : Exit → Act → World → Prop} {w : World} (hgd : o.guard = none) (s x : Operand) (t : TypeId)
    (ho : o.op = .call { callee := .builtin .append, args := #[s, x], argTypes := #[t, t] }) (ht : Tryd.prog.underlying t = some (.slice 2))
    (V : World) (z : Int) (hW : w = V.alloc (.cells #[.int .i64 z] 2)) (lo : Nat) (v : Value) (xs : List Int) (hown : OwnV V lo v xs) (hs : a.eval s = v)
    (hx : a.eval x = .slice (some ⟨V.heap.size, 0, none⟩) 1 1) (hlen : xs.length ≤ 8388607) (hbase : lo ≤ V.heap.size)
    (h : ∀ v' w', OwnV w' lo v' (xs ++ [z]) → (∀ B, B ≤ V.heap.size → B ≤ lo → Below B V w') → V.heap.size ≤ w'.heap.size → wpList Tryd.prog ops Q rest (a.put o.dst v') w') : wpList Tryd.prog ops Q (o :: rest) a w := by
  subst hW
  refine wp_app hgd s x t ho ht lo v xs (hown.alloc _) hs ⟨V.heap.size, 0, none⟩ 1 1 [z] hx rfl ?_ (by simp; omega) (by simp; omega) ?_
  · intro i hi
    simp at hi
    subst hi
    simp [Addr.add]
  · intro v' w' h1 h2
    refine h v' w' h1 (fun B hB hl => ((Below.refl B V).alloc hB _).grown h2 (by simp; omega) (fun g hg => Nat.le_trans hl (hown.lt g hg))) ?_
    have := h2.size
    simp at this
    omega

structure PlusInv (xs ys L : List Nat) (c k : Nat) : Prop where
  len : L.length = k
  small : Small L
  hi : c ≤ 1
  sum : val L + 16777216 ^ k * c = val (xs.take k) + val (ys.take k)
theorem small_snoc {L : List Nat} (h : Small L) {x : Nat} (hx : x < 16777216) : Small (L ++ [x]) := small_append h (small_cons hx small_nil)
theorem val_snoc (L : List Nat) (x : Nat) : val (L ++ [x]) = val L + 16777216 ^ L.length * x := by rw [val_append]; simp [val]
theorem plusInv_step {xs ys L : List Nat} {c k : Nat} (h : PlusInv xs ys L c k) (hx : Small xs) (hy : Small ys) :
    PlusInv xs ys (L ++ [(c + xs.getD k 0 + ys.getD k 0) % 16777216]) ((c + xs.getD k 0 + ys.getD k 0) / 16777216) (k + 1) := by
  have h1 := getD_lt hx k
  have h2 := getD_lt hy k
  have hc := h.hi
  have hs := h.sum
  refine ⟨by simp [h.len], small_snoc h.small (by omega), by omega, ?_⟩
  rw [val_snoc, h.len, val_take_getD, val_take_getD]
  have h3 : (c + xs.getD k 0 + ys.getD k 0) % 16777216 + 16777216 * ((c + xs.getD k 0 + ys.getD k 0) / 16777216) = c + xs.getD k 0 + ys.getD k 0 := by omega
  generalize (c + xs.getD k 0 + ys.getD k 0) % 16777216 = r at *
  generalize (c + xs.getD k 0 + ys.getD k 0) / 16777216 = q at *
  rw [Nat.pow_succ]
  generalize xs.getD k 0 = x at *
  generalize ys.getD k 0 = y at *
  grind
theorem plusInv_end {xs ys L : List Nat} {c k : Nat} (h : PlusInv xs ys L c k) (hx : Small xs) (hy : Small ys) (h1 : xs.length < k) (h2 : ys.length < k) : c = 0 := by
  have hs := h.sum
  rw [List.take_of_length_le (by omega), List.take_of_length_le (by omega)] at hs
  rcases Nat.eq_zero_or_pos c with h0 | h0
  · exact h0
  · have a1 := val_lt hx
    have a2 := val_lt hy
    have b1 : 16777216 ^ xs.length ≤ 16777216 ^ (k - 1) := Nat.pow_le_pow_right (by omega) (by omega)
    have b2 : 16777216 ^ ys.length ≤ 16777216 ^ (k - 1) := Nat.pow_le_pow_right (by omega) (by omega)
    have b3 : 16777216 ^ k = 16777216 ^ (k - 1) * 16777216 := by rw [← Nat.pow_succ]; congr 1; omega
    have b4 : 16777216 ^ k * 1 ≤ 16777216 ^ k * c := Nat.mul_le_mul_left _ h0
    omega

structure MinusInv (xs ys L : List Nat) (c k : Nat) : Prop where
  len : L.length = k
  small : Small L
  hi : c ≤ 1
  sum : val L + val (ys.take k) = val (xs.take k) + 16777216 ^ k * c
theorem minusInv_step {xs ys L : List Nat} {c k r q : Nat} (h : MinusInv xs ys L c k) (hr : r < 16777216) (hq : q ≤ 1) (e : r + c + ys.getD k 0 = xs.getD k 0 + 16777216 * q) : MinusInv xs ys (L ++ [r]) q (k + 1) := by
  have hs := h.sum
  refine ⟨by simp [h.len], small_snoc h.small hr, hq, ?_⟩
  rw [val_snoc, h.len, val_take_getD, val_take_getD, Nat.pow_succ]
  generalize xs.getD k 0 = x at *
  generalize ys.getD k 0 = y at *
  have e2 : 16777216 ^ k * (r + c + y) = 16777216 ^ k * (x + 16777216 * q) := by rw [e]
  rw [Nat.mul_add, Nat.mul_add, Nat.mul_add] at e2
  have e3 : 16777216 ^ k * (16777216 * q) = 16777216 ^ k * 16777216 * q := by rw [Nat.mul_assoc]
  omega
theorem minusInv_done {xs ys L : List Nat} {c : Nat} (h : MinusInv xs ys L c xs.length) (hle : ys.length ≤ xs.length) (hv : val ys ≤ val xs) : val L = val xs - val ys := by
  have hs := h.sum
  rw [List.take_length, List.take_of_length_le hle] at hs
  have h1 := val_lt h.small
  rw [h.len] at h1
  rcases Nat.eq_zero_or_pos c with h0 | h0
  · subst h0; omega
  · have := h.hi
    obtain rfl : c = 1 := by omega
    omega

theorem sMakeL (s : Int) (a : Option Addr) (n : Nat) (c : Nat) (w : World) (B : Nat) (hB : B ≤ w.heap.size) (hx : Ints w B a (lim n)) (hc : (lim n).length ≤ c) (hl : (lim n).length ≤ 8388608) :
    Calls Tryd.prog 69 #[.int .i64 s, .slice a (lim n).length c] w (RetN (sgnOf s n) n w) := by
  rw [lim_length] at hc hl ⊢
  have := sMake s a (dig n) c w B hB hx (small_dig n) hc hl
  rwa [val_dig] at this

end Go.Proofs.YtnnbfoemmgddeaaDoor
