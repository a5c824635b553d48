/-
  Contracts of the model's limbs: differences, order. Conditions: the limbs can be read.
-/
import Derived.Test.YtfjfmlofhifkmaaDoorTb
namespace Go.Proofs.YtfjfmlofhifkmaaDoor
set_option linter.unusedVariables false
open Go Go.RowKit

structure MinusInv (xs ys L : List Nat) (c k : Nat) : Prop where
  len : L.length = k
  small : Small L
  hi : c ≤ 1
  sum : val L + val (ys.take k) = val (xs.take k) + 16777216 ^ k * c
theorem minusInv_step {xs ys L : List Nat} {c k r q : Nat} (h : MinusInv xs ys L c k) (hr : r < 16777216) (hq : q ≤ 1) (e : r + c + ys.getD k 0 = xs.getD k 0 + 16777216 * q) : MinusInv xs ys (L ++ [r]) q (k + 1) := by
  have hs := h.sum
  refine ⟨by simp [h.len], small_snoc h.small hr, hq, ?_⟩
  rw [val_snoc, h.len, val_take_getD, val_take_getD, Nat.pow_succ]
  generalize xs.getD k 0 = x at *
  generalize ys.getD k 0 = y at *
  have e2 : 16777216 ^ k * (r + c + y) = 16777216 ^ k * (x + 16777216 * q) := by rw [e]
  rw [Nat.mul_add, Nat.mul_add, Nat.mul_add] at e2
  have e3 : 16777216 ^ k * (16777216 * q) = 16777216 ^ k * 16777216 * q := by rw [Nat.mul_assoc]
  omega
theorem minusInv_done {xs ys L : List Nat} {c : Nat} (h : MinusInv xs ys L c xs.length) (hle : ys.length ≤ xs.length) (hv : val ys ≤ val xs) : val L = val xs - val ys := by
  have hs := h.sum
  rw [List.take_length, List.take_of_length_le hle] at hs
  have h1 := val_lt h.small
  rw [h.len] at h1
  rcases Nat.eq_zero_or_pos c with h0 | h0
  · subst h0; omega
  · have := h.hi
    obtain rfl : c = 1 := by omega
    omega

set_option maxHeartbeats 2000000 in
theorem sMinus (a b : Option Addr) (xs ys : List Nat) (c1 c2 : Nat) (w : World) (B C : Nat) (hB : B ≤ w.heap.size) (hC : C ≤ w.heap.size) (hx : Ints w B a (ofN xs)) (hy : Ints w C b (ofN ys)) (sx : Small xs) (sy : Small ys)
    (hl : xs.length ≤ 1048576) (hle : ys.length ≤ xs.length) (hv : val ys ≤ val xs) :
    Calls Tryd.prog 99 #[.slice a xs.length c1, .slice b ys.length c2] w (RetV (val xs - val ys) w) := by
  have HX := Lib.hid hx
  have HY := Lib.hid hy
  have SX := Lib.hid sx
  have SY := Lib.hid sy
  have HL := Lib.hid hl
  have HLE := Lib.hid hle
  have HV := Lib.hid hv
  have hl2 : xs.length ≤ 9223372036854775806 := by omega
  have hl3 : ys.length ≤ 9223372036854775806 := by omega
  clear hx hy sx sy hl hle hv
  go_enter Tryd.func99, Tryd.ntmps99
  go_wp2
  go_loopw [5, 6, 7] (fun v q i wr => ∃ (k : Nat) (L : List Nat) (cr : Nat), i = .int .i64 k ∧ q = .int .i64 cr ∧ MinusInv xs ys L cr k ∧ k ≤ xs.length ∧ OwnV wr w.heap.size v (ofN L) ∧ Below w.heap.size w wr) (fun _ _ i _ => xs.length - (intOf i).toNat)
  case atStart => exact ⟨0, [], 0, rfl, rfl, ⟨rfl, small_nil, by omega, by simp [val]⟩, by omega, OwnV.empty w _ (Nat.le_refl _), (Below.refl _ _).alloc (Nat.le_refl _) _⟩
  case round =>
    obtain ⟨k, L, cr, rfl, rfl, hinv, hkx', hown, hbel⟩ := hrel
    have OW := Lib.hid hown
    have HI := Lib.hid hinv
    have HB := Lib.hid hbel
    have hsz : w.heap.size ≤ wr.heap.size := hbel.size
    have hlen := Lib.hid hinv.len
    have hcr : (cr : Int) ≤ 1 := by have := hinv.hi; omega
    clear hown hinv hbel
    by_cases hkx : k < xs.length
    · obtain ⟨c', o, ha, hcB, hcell⟩ := HX.out k (by rw [ofN_length]; exact hkx)
      rw [ofN_at] at hcell
      subst ha
      obtain ⟨x, hxk⟩ : ∃ x : Nat, x = xs[k] := ⟨_, rfl⟩
      rw [← hxk] at hcell
      have hxb : (x : Int) < 16777216 := by have := SX.out k hkx; omega
      have HXK := Lib.hid (show xs.getD k 0 = x from (getD_of_lt hkx).trans hxk.symm)
      have hkI : (k : Int) < (xs.length : Int) := by omega
      have h1 : wr.cell? ⟨c', o + k, none⟩ = some (.int .i64 x) := by rw [HB.out.cell (p := ⟨c', o + k, none⟩) (by show c' < _; omega)]; exact hcell
      clear hcell hxk
      by_cases hky : k < ys.length
      · obtain ⟨c'', o', ha', hcC, hcell'⟩ := HY.out k (by rw [ofN_length]; exact hky)
        rw [ofN_at] at hcell'
        subst ha'
        obtain ⟨y, hyk⟩ : ∃ y : Nat, y = ys[k] := ⟨_, rfl⟩
        rw [← hyk] at hcell'
        have hyb : (y : Int) < 16777216 := by have := SY.out k hky; omega
        have HYK := Lib.hid (show ys.getD k 0 = y from (getD_of_lt hky).trans hyk.symm)
        have hkJ : (k : Int) < (ys.length : Int) := by omega
        have h1' : wr.cell? ⟨c'', o' + k, none⟩ = some (.int .i64 y) := by rw [HB.out.cell (p := ⟨c'', o' + k, none⟩) (by show c'' < _; omega)]; exact hcell'
        clear hcell' hyk
        by_cases hneg' : (x : Int) - (cr : Int) - (y : Int) < 0
        · have hneg : (x : Int) - (cr : Int) - (y : Int) < 0 := hneg'
          go_wp2_with (at_builtin; refine wp_app1 rfl _ _ 24 rfl Tryd.underlying24 wr ((x : Int) - (cr : Int) - (y : Int) + 16777216) rfl w.heap.size _ (ofN L) OW.out rfl rfl (by rw [ofN_length, hlen.out]; have := HL.out; omega) (by omega) ?_; intro v' w' hown hb hs; have OW2 := Lib.hid hown; have HB2 := Lib.hid (hb w.heap.size (by omega) (Nat.le_refl _)); clear hown hb)
          go_roundw
          case rel =>
            refine ⟨k + 1, L ++ [((x : Int) - (cr : Int) - (y : Int) + 16777216).toNat], 1, by go_num, rfl, minusInv_step HI.out (by omega) (by omega) (by rw [HXK.out, HYK.out]; omega), by omega, ?_, HB.out.trans HB2.out⟩
            have := OW2.out
            rw [ofN_append]
            show OwnV _ _ _ (ofN L ++ [((((x : Int) - (cr : Int) - (y : Int) + 16777216).toNat : Nat) : Int)])
            rw [Int.toNat_of_nonneg (by omega)]
            exact this
          case measure => simp [intOf]; omega
        · have hneg : decide ((x : Int) - (cr : Int) - (y : Int) < 0) = false := decide_eq_false hneg'
          have hpos : 0 ≤ (x : Int) - (cr : Int) - (y : Int) := by omega
          go_wp2_with (at_builtin; refine wp_app1 rfl _ _ 24 rfl Tryd.underlying24 wr ((x : Int) - (cr : Int) - (y : Int)) rfl w.heap.size _ (ofN L) OW.out rfl rfl (by rw [ofN_length, hlen.out]; have := HL.out; omega) (by omega) ?_; intro v' w' hown hb hs; have OW2 := Lib.hid hown; have HB2 := Lib.hid (hb w.heap.size (by omega) (Nat.le_refl _)); clear hown hb)
          go_roundw
          case rel =>
            refine ⟨k + 1, L ++ [((x : Int) - (cr : Int) - (y : Int)).toNat], 0, by go_num, rfl, minusInv_step HI.out (by omega) (by omega) (by rw [HXK.out, HYK.out]; omega), by omega, ?_, HB.out.trans HB2.out⟩
            have := OW2.out
            rw [ofN_append]
            show OwnV _ _ _ (ofN L ++ [((((x : Int) - (cr : Int) - (y : Int)).toNat : Nat) : Int)])
            rw [Int.toNat_of_nonneg (by omega)]
            exact this
          case measure => simp [intOf]; omega
      · have hdy : decide ((k : Int) < (ys.length : Int)) = false := decide_eq_false (by omega)
        have HYK := Lib.hid (show ys.getD k 0 = 0 from getD_of_ge (by omega))
        by_cases hneg' : (x : Int) - (cr : Int) < 0
        · have hneg : (x : Int) - (cr : Int) < 0 := hneg'
          go_wp2_with (at_builtin; refine wp_app1 rfl _ _ 24 rfl Tryd.underlying24 wr ((x : Int) - (cr : Int) + 16777216) rfl w.heap.size _ (ofN L) OW.out rfl rfl (by rw [ofN_length, hlen.out]; have := HL.out; omega) (by omega) ?_; intro v' w' hown hb hs; have OW2 := Lib.hid hown; have HB2 := Lib.hid (hb w.heap.size (by omega) (Nat.le_refl _)); clear hown hb)
          go_roundw
          case rel =>
            refine ⟨k + 1, L ++ [((x : Int) - (cr : Int) + 16777216).toNat], 1, by go_num, rfl, minusInv_step HI.out (by omega) (by omega) (by rw [HXK.out, HYK.out]; omega), by omega, ?_, HB.out.trans HB2.out⟩
            have := OW2.out
            rw [ofN_append]
            show OwnV _ _ _ (ofN L ++ [((((x : Int) - (cr : Int) + 16777216).toNat : Nat) : Int)])
            rw [Int.toNat_of_nonneg (by omega)]
            exact this
          case measure => simp [intOf]; omega
        · have hneg : decide ((x : Int) - (cr : Int) < 0) = false := decide_eq_false hneg'
          have hpos : 0 ≤ (x : Int) - (cr : Int) := by omega
          go_wp2_with (at_builtin; refine wp_app1 rfl _ _ 24 rfl Tryd.underlying24 wr ((x : Int) - (cr : Int)) rfl w.heap.size _ (ofN L) OW.out rfl rfl (by rw [ofN_length, hlen.out]; have := HL.out; omega) (by omega) ?_; intro v' w' hown hb hs; have OW2 := Lib.hid hown; have HB2 := Lib.hid (hb w.heap.size (by omega) (Nat.le_refl _)); clear hown hb)
          go_roundw
          case rel =>
            refine ⟨k + 1, L ++ [((x : Int) - (cr : Int)).toNat], 0, by go_num, rfl, minusInv_step HI.out (by omega) (by omega) (by rw [HXK.out, HYK.out]; omega), by omega, ?_, HB.out.trans HB2.out⟩
            have := OW2.out
            rw [ofN_append]
            show OwnV _ _ _ (ofN L ++ [((((x : Int) - (cr : Int)).toNat : Nat) : Int)])
            rw [Int.toNat_of_nonneg (by omega)]
            exact this
          case measure => simp [intOf]; omega
    · obtain rfl : k = xs.length := by omega
      obtain ⟨a', c', rfl, hc', hc2', ho⟩ := OW.out.parts
      rw [ofN_length] at hc'
      have HEND := Lib.hid (show RetV (val xs - val ys) w (.returned (.slice a' L.length c')) wr from ⟨L, a', c', rfl, ⟨HI.out.small, minusInv_done HI.out HLE.out HV.out, hc', hc2', by rw [HI.out.len]; have := HL.out; omega, ho⟩, HB.out⟩)
      rw [ofN_length]
      clear ho OW
      go_wp2
      go_ret
      exact HEND.out

set_option maxHeartbeats 1000000 in
theorem sCompareLimbs (a b : Option Addr) (m n : Nat) (c1 c2 : Nat) (w : World) (B C : Nat) (hx : Ints w B a (lim m)) (hy : Ints w C b (lim n)) (hl : (lim m).length ≤ 4611686018427387904) (hl' : (lim n).length ≤ 4611686018427387904) :
    Calls Tryd.prog 98 #[.slice a (lim m).length c1, .slice b (lim n).length c2] w (RetQ (.int .i64 (cmpZ m n)) w) := by
  have HX := Lib.hid hx
  have HY := Lib.hid hy
  clear hx hy
  obtain ⟨r, hr⟩ : ∃ r, r = cmpZ m n := ⟨_, rfl⟩
  rw [← hr]
  have HV := Lib.hid hr
  clear hr
  rcases Nat.lt_trichotomy (lim m).length (lim n).length with h | h | h
  · have hlt : m < n := by
      have := lt_of_length (small_dig m) (norm_dig n) (by rwa [lim_length, lim_length] at h)
      rwa [val_dig, val_dig] at this
    have HW := Lib.hid (show r = -1 from HV.out.trans (cmpZ_lt (by omega)))
    have hz : (((lim m).length : Int) != ((lim n).length : Int)) = true := by simp; omega
    have hd : ((lim m).length : Int) < ((lim n).length : Int) := by omega
    clear hlt
    go_enter Tryd.func98, Tryd.ntmps98
    go_wp2
    go_ret
    exact ⟨0, by rw [HW.out]; rfl, rfl⟩
  · have HN := Lib.hid h
    have hz : (((lim m).length : Int) != ((lim n).length : Int)) = false := by simp [h]
    clear h
    go_enter Tryd.func98, Tryd.ntmps98
    go_wp2
    clear hz
    go_loopw [5] (fun i wr => ∃ k q : Nat, k ≤ (lim m).length ∧ i = .int .i64 ((k : Int) - 1) ∧ wr = w.drewN q ∧ Hid ((dig m).drop k = (dig n).drop k)) (fun i _ => (intOf i + 1).toNat)
    case atStart => exact ⟨_, 0, Nat.le_refl _, rfl, rfl, by
      have := HN.out
      rw [lim_length, lim_length] at this
      show (dig m).drop _ = (dig n).drop _
      rw [List.drop_eq_nil_of_le (by rw [lim_length]; exact Nat.le_refl _), List.drop_eq_nil_of_le (by rw [lim_length, this]; exact Nat.le_refl _)]⟩
    case round =>
      obtain ⟨k, q, hk, rfl, rfl, hd⟩ := hrel
      by_cases h0 : 0 < k
      · have hkm : k - 1 < (dig m).length := by rw [lim_length] at hk; omega
        have hkn : k - 1 < (dig n).length := by have := HN.out; rw [lim_length, lim_length] at this; omega
        obtain ⟨c, o, ha, _, hcell⟩ := HX.out (k - 1) (by rw [lim_length]; exact hkm)
        obtain ⟨c', o', ha', _, hcell'⟩ := HY.out (k - 1) (by rw [lim_length]; exact hkn)
        simp only [lim, ofN_at] at hcell hcell'
        subst ha ha'
        obtain ⟨x, hxk⟩ : ∃ x : Nat, x = (dig m)[k - 1] := ⟨_, rfl⟩
        obtain ⟨y, hyk⟩ : ∃ y : Nat, y = (dig n)[k - 1] := ⟨_, rfl⟩
        rw [← hxk] at hcell
        rw [← hyk] at hcell'
        have HXK := Lib.hid hxk
        have HYK := Lib.hid hyk
        clear hxk hyk
        have hi1 : ((k : Int) - 1).toNat = k - 1 := by omega
        have hi0 : (0 : Int) ≤ (k : Int) - 1 := by omega
        have hi2 : (k : Int) - 1 < ((lim m).length : Int) := by omega
        have hi3 : (k : Int) - 1 < ((lim n).length : Int) := by have := HN.out; omega
        have hdk : (dig m).drop (k - 1 + 1) = (dig n).drop (k - 1 + 1) := by rw [Nat.sub_add_cancel h0]; exact hd.out
        have HDK := Lib.hid hdk
        clear hdk
        have hlen : (dig m).length = (dig n).length := by have := HN.out; rwa [lim_length, lim_length] at this
        have HLEN := Lib.hid hlen
        clear hlen
        rcases Nat.lt_trichotomy x y with hxy | hxy | hxy
        · have hlt : m < n := by
            have := lt_of_limb (small_dig m) HLEN.out (k - 1) hkm HDK.out (by rw [← HXK.out, ← HYK.out]; exact hxy)
            rwa [val_dig, val_dig] at this
          have HW := Lib.hid (show r = -1 from HV.out.trans (cmpZ_lt (by omega)))
          have hne : ((x : Int) != (y : Int)) = true := by simp; omega
          have hxy' : (x : Int) < (y : Int) := by omega
          clear hlt
          go_wp2
          go_quiet (fail)
          go_wp2
          go_quiet (fail)
          go_wp2
          go_ret
          exact ⟨_, by rw [HW.out]; rfl, (by first | rfl | exact World.drewN_drewN _ _ _ | (rw [World.drewN_drewN, World.drewN_drewN]))⟩
        · have hdd : (dig m).drop (k - 1) = (dig n).drop (k - 1) := drop_same HLEN.out (k - 1) hkm HDK.out (by rw [← HXK.out, ← HYK.out]; exact hxy)
          have HDD := Lib.hid hdd
          have hne : ((x : Int) != (y : Int)) = false := by simp [hxy]
          clear hdd hxy
          go_wp2
          go_quiet (fail)
          go_wp2
          go_roundw
          case rel => exact ⟨k - 1, _, by omega, (by first | rfl | (congr 1; omega)), (by first | rfl | exact World.drewN_drewN _ _ _), HDD.out⟩
          case measure => simp [intOf]; omega
        · have hlt : n < m := by
            have := lt_of_limb (small_dig n) HLEN.out.symm (k - 1) (by rw [← HLEN.out]; exact hkm) HDK.out.symm (by rw [← HXK.out, ← HYK.out]; exact hxy)
            rwa [val_dig, val_dig] at this
          have HW := Lib.hid (show r = 1 from HV.out.trans (cmpZ_gt (by omega)))
          have hne : ((x : Int) != (y : Int)) = true := by simp; omega
          have hxy' : decide ((x : Int) < (y : Int)) = false := decide_eq_false (by omega)
          clear hlt
          go_wp2
          go_quiet (fail)
          go_wp2
          go_quiet (fail)
          go_wp2
          go_ret
          exact ⟨_, by rw [HW.out]; rfl, (by first | rfl | exact World.drewN_drewN _ _ _ | (rw [World.drewN_drewN, World.drewN_drewN]))⟩
      · obtain rfl : k = 0 := by omega
        have heq : m = n := by
          have := hd.out
          simp only [List.drop_zero] at this
          rw [← val_dig m, ← val_dig n, this]
        have HW := Lib.hid (show r = 0 from HV.out.trans (cmpZ_eq (by omega)))
        clear heq
        go_wp2
        go_ret
        exact ⟨_, by rw [HW.out]; rfl, rfl⟩
  · have hlt : n < m := by
      have := lt_of_length (small_dig n) (norm_dig m) (by rwa [lim_length, lim_length] at h)
      rwa [val_dig, val_dig] at this
    have HW := Lib.hid (show r = 1 from HV.out.trans (cmpZ_gt (by omega)))
    have hz : (((lim m).length : Int) != ((lim n).length : Int)) = true := by simp; omega
    have hd : decide (((lim m).length : Int) < ((lim n).length : Int)) = false := decide_eq_false (by omega)
    have hd' : decide ((lim m).length < (lim n).length) = false := decide_eq_false (by omega)
    clear hlt h
    go_enter Tryd.func98, Tryd.ntmps98
    go_wp2
    go_ret
    exact ⟨0, by rw [HW.out]; rfl, rfl⟩
end Go.Proofs.YtfjfmlofhifkmaaDoor
