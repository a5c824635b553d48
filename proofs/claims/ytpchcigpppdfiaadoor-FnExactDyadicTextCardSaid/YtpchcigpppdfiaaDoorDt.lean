/-
  Contracts: DyadicText, of the program and of the model. Conditions: the limbs can be read, the listed table of powers of 10.
-/
import Derived.Test.YtpchcigpppdfiaaDoorTw
import Derived.Test.YtpchcigpppdfiaaDoorOd
import Derived.Test.YtpchcigpppdfiaaDoorUg
import Derived.Deep.RegionHeld3
namespace Go.Proofs.YtpchcigpppdfiaaDoor
set_option linter.unusedVariables false
open Go Go.RowKit

theorem wtx_itoa (x : Int) : Lib.itoa x = wtx x.sign x.natAbs := by
  unfold Lib.itoa wtx
  by_cases h : x < 0
  · rw [if_pos h, if_pos (by rw [Int.sign_eq_neg_one_of_neg h]; omega), decDigits_eq]
  · rw [if_neg h, if_neg (by have := Int.sign_nonneg_iff.2 (show 0 ≤ x by omega); omega), decDigits_eq, show x.toNat = x.natAbs by omega]
theorem iFormatI (x : Int) (h1 : -5000 ≤ x) (h2 : x ≤ 5000) (w : World) {B : Nat} (h : Pows B w) :
    Calls Tryd.prog 74 #[.int .i64 x, .int .i64 10] w (RetB (.string (btx (wtx x.sign x.natAbs))) w) := by
  refine (Sf_strconv_FormatInt_10 x (by omega) (by omega) w (Lib.TabBelow.here h)).mono ?_
  rintro e w' ⟨rfl, k, os, rfl⟩
  refine ⟨?_, Lib.below_grow _ _ (Nat.le_refl _) _ _⟩
  rw [wtx_itoa]
  rfl
theorem wtx_len {s : Int} {m : Nat} (h : nd m ≤ 1601) : (wtx s m).length ≤ 1602 := by
  unfold wtx
  split
  · rw [List.length_cons, decT_length]; omega
  · rw [decT_length]; omega
theorem sg_sign (x : Int) : Sg x.sign x.natAbs := by
  unfold Sg
  rcases Int.lt_trichotomy x 0 with h | h | h
  · rw [Int.sign_eq_neg_one_of_neg h]; omega
  · subst h; simp
  · rw [Int.sign_eq_one_of_pos h]; omega
theorem small_lim {n : Nat} (h : n < 16777216) : (lim n).length ≤ 200 := by
  rw [lim_length]
  have := dig_length_le (n := n) (k := 1) (by simpa using h)
  omega
/-- An exact number's text. -/
def dtx (s : Int) (m : Nat) (x : Int) : List UInt8 := (wtx s m ++ [112]) ++ wtx x.sign x.natAbs
noncomputable def dtxR (s : Int) (xs : List Int) (x : Int) : ByteArray × Int := if dyB s xs x = true then (btx (dtx s (val (xs.map Int.toNat)) x), 0) else ({ data := #[] }, 1)
theorem dtxR_yes {s : Int} {xs : List Int} {x : Int} (h : dyB s xs x = true) : dtxR s xs x = (btx (dtx s (val (xs.map Int.toNat)) x), 0) := by unfold dtxR; rw [if_pos h]
theorem dtxR_no {s : Int} {xs : List Int} {x : Int} (h : dyB s xs x = false) : dtxR s xs x = ({ data := #[] }, 1) := by unfold dtxR; rw [if_neg (by rw [h]; simp)]

set_option maxRecDepth 100000 in
set_option maxHeartbeats 4000000 in
theorem iDyadicText (s : Int) (a : Option Addr) (xs : List Int) (c1 : Nat) (x : Int) (w : World) (B : Nat) (hB : B ≤ w.heap.size) (hx : Ints w B a xs) (hl : xs.length ≤ 9223372036854775807) (hp : Pows w.heap.size w) :
    Calls Tryd.prog 32 #[.agg #[.int .i64 s, .slice a xs.length c1, .int .i64 x]] w (RetB (.tuple #[.string (dtxR s xs x).1, .int .i64 (dtxR s xs x).2]) w) := by
  obtain ⟨W0, hW0⟩ : ∃ W0 : World, w.alloc (.cells #[.int .i64 s, .slice a xs.length c1, .int .i64 x] 47) = W0 := ⟨_, rfl⟩
  obtain ⟨p1, p3, p4⟩ := one_box w 47 #[.int .i64 s, .slice a xs.length c1, .int .i64 x]
  rw [hW0] at p1 p3 p4
  have HW0 := Lib.hid hW0
  have P3 := Lib.hid p3
  have P4 := Lib.hid p4
  have SS := Lib.hid (show ∀ W, Below W0.heap.size W0 W → (W.cell? ⟨w.heap.size, 0, none⟩ = some (.int .i64 s) ∧ W.cell? ⟨w.heap.size, 1, none⟩ = some (.slice a xs.length c1) ∧ W.cell? ⟨w.heap.size, 2, none⟩ = some (.int .i64 x)) from
    fun W hW => ⟨(p1.below hW).cell 0, (p1.below hW).cell 1, (p1.below hW).cell 2⟩)
  have IX := Lib.hid (show ∀ W, Below W0.heap.size W0 W → Ints W B a xs ∧ B ≤ W.heap.size from fun W hW => ⟨hx.below ((p3.mono hB).trans (hW.mono (by omega))), by have := hW.size; omega⟩)
  have hT : Below W0.heap.size W0 W0 := Below.refl _ _
  have HEND := Lib.hid (show ∀ v W, Below W0.heap.size W0 W → RetB v w (.returned v) W from fun v W hW => ⟨rfl, P3.out.trans (hW.mono (by omega))⟩)
  have HI1 := Lib.hid (show ∀ W, Below W0.heap.size W0 W → Calls Tryd.prog 73 #[.agg #[.int .i64 s, .slice a xs.length c1, .int .i64 x]] W fun e w' => e = .returned (.bool (dyB s xs x)) ∧ Below W0.heap.size W0 w' from
    fun W hW => (iIsDyadic s a xs c1 x W B (IX.out W hW).2 hl (IX.out W hW).1).mono fun e w' ⟨he, hb⟩ => ⟨he, hW.trans (hb.mono hW.size)⟩)
  have HPW := Lib.hid (show ∀ W, Below W0.heap.size W0 W → Pows W.heap.size W from fun W hW => hp.at_ (P3.out.trans (hW.mono (by omega))) (by have := hW.size; omega))
  cases h1 : dyB s xs x
  · rw [dtxR_no h1]
    rw [h1] at HI1
    clear p1 p3 p4 hx hW0 hB h1 hl IX hp HPW
    go_enter Tryd.func32, Tryd.ntmps32
    go_wp2_with fail
    rw [HW0.out]
    refine (HI1.out _ hT).mono ?_
    rintro e w1 ⟨rfl, hb⟩
    obtain ⟨k1, k2, k3⟩ := SS.out _ hb
    go_wp2_with fail
    go_ret2
    exact HEND.out _ _ hb
  · have e1 := dyB_iff.1 h1
    rw [dtxR_yes h1]
    rw [h1] at HI1
    obtain ⟨m, rfl, hm, sm⟩ := isWh_of e1.1
    rw [val_lim]
    have hx1 := e1.2.1
    have hx2 := e1.2.2.1
    have HA := Lib.hid (show ∀ W, Below W0.heap.size W0 W → Calls Tryd.prog 37 #[.agg #[.int .i64 s, .slice a (lim m).length c1]] W fun e w' => e = .returned (.string (btx (wtx s m))) ∧ Below W0.heap.size W0 w' from
      fun W hW => (iWText s a m c1 W B (IX.out W hW).2 (IX.out W hW).1 hm (HPW.out W hW)).mono fun e w' ⟨he, hb⟩ => ⟨he, hW.trans (hb.mono hW.size)⟩)
    have HF := Lib.hid (show ∀ W, Below W0.heap.size W0 W → Calls Tryd.prog 74 #[.int .i64 x, .int .i64 10] W fun e w' => e = .returned (.string (btx (wtx x.sign x.natAbs))) ∧ Below W0.heap.size W0 w' from
      fun W hW => (iFormatI x hx1 hx2 W (HPW.out W hW)).mono fun e w' ⟨he, hb⟩ => ⟨he, hW.trans (hb.mono hW.size)⟩)
    have hs1 := btx_size (wtx s m)
    have hs2 := btx_size (wtx x.sign x.natAbs)
    have hl1 := wtx_len (s := s) (nd_lim hm)
    have hl2 := wtx_len (s := x.sign) (nd_lim (small_lim (n := x.natAbs) (by omega)))
    have hc1 : btx (wtx s m) ++ { data := #[112] } = btx (wtx s m ++ [112]) := btx_app _ [112]
    have hc2 := btx_app (wtx s m ++ [112]) (wtx x.sign x.natAbs)
    have hs3 : (btx (wtx s m ++ [112])).size = (wtx s m).length + 1 := by rw [btx_size, List.length_append]; rfl
    unfold dtx
    obtain ⟨t1, ht1⟩ : ∃ t, t = wtx s m := ⟨_, rfl⟩
    obtain ⟨t2, ht2⟩ : ∃ t, t = wtx x.sign x.natAbs := ⟨_, rfl⟩
    rw [← ht1] at HA hs1 hl1 hc1 hc2 hs3 ⊢
    rw [← ht2] at HF hs2 hl2 hc2 ⊢
    obtain ⟨t3, ht3⟩ : ∃ t, t = t1 ++ [112] := ⟨_, rfl⟩
    rw [← ht3] at hc1 hc2 hs3 ⊢
    have hno1 : ¬ (9223372036854775807 < t1.length + 1) := by omega
    have hno2 : ¬ (9223372036854775807 < t1.length + 1 + t2.length) := by omega
    clear p1 p3 p4 hx hW0 hB hl IX sm hm e1 h1 ht1 ht2 ht3 hp HPW hl1 hl2 hx1 hx2
    go_enter Tryd.func32, Tryd.ntmps32
    go_wp2_with fail
    rw [HW0.out]
    refine (HI1.out _ hT).mono ?_
    rintro e w1 ⟨rfl, hb⟩
    obtain ⟨k1, k2, k3⟩ := SS.out _ hb
    have hbd := hb.drew
    go_wp2_with fail
    go_region_held3 (fun W => W.cell? ⟨w.heap.size, 0, none⟩ = some (.int .i64 s) ∧ W.cell? ⟨w.heap.size, 1, none⟩ = some (.slice a (lim m).length c1) ∧ W.cell? ⟨w.heap.size, 2, none⟩ = some (.int .i64 x))
      (exact SS.out _ (by assumption))
      (first
      | (go_at_call 37; with_reducible refine (HA.out _ (by assumption)).mono ?_; rintro e w2 ⟨rfl, hb2⟩)
      | (go_at_call 74; with_reducible refine (HF.out _ (by assumption)).mono ?_; rintro e w3 ⟨rfl, hb3⟩))
    go_wp2_with fail
    go_ret2
    exact HEND.out _ _ (by assumption)

set_option maxRecDepth 100000 in
set_option maxHeartbeats 4000000 in
theorem sL03Text (s : Int) (a : Option Addr) (m c1 : Nat) (x : Int) (w : World) (B : Nat) (hB : B ≤ w.heap.size) (hx : Ints w B a (lim m)) (hs : Sg s m) (hm : (lim m).length ≤ 200) (hx1 : -5000 ≤ x) (hx2 : x ≤ 5000) :
    Calls Tryd.prog 72 #[.agg #[.int .i64 s, .slice a (lim m).length c1, .int .i64 x]] w (RetB (.string (btx (dtx s m x))) w) := by
  obtain ⟨W0, hW0⟩ : ∃ W0 : World, w.alloc (.cells #[.int .i64 s, .slice a (lim m).length c1, .int .i64 x] 47) = W0 := ⟨_, rfl⟩
  obtain ⟨p1, p3, p4⟩ := one_box w 47 #[.int .i64 s, .slice a (lim m).length c1, .int .i64 x]
  rw [hW0] at p1 p3 p4
  have HW0 := Lib.hid hW0
  have P3 := Lib.hid p3
  have P4 := Lib.hid p4
  have SS := Lib.hid (show ∀ W, Below W0.heap.size W0 W → (W.cell? ⟨w.heap.size, 0, none⟩ = some (.int .i64 s) ∧ W.cell? ⟨w.heap.size, 1, none⟩ = some (.slice a (lim m).length c1) ∧ W.cell? ⟨w.heap.size, 2, none⟩ = some (.int .i64 x)) from
    fun W hW => ⟨(p1.below hW).cell 0, (p1.below hW).cell 1, (p1.below hW).cell 2⟩)
  have hT : Below W0.heap.size W0 W0 := Below.refl _ _
  have hTd := hT.drew
  have HEND := Lib.hid (show ∀ v W, Below W0.heap.size W0 W → RetB v w (.returned v) W from fun v W hW => ⟨rfl, P3.out.trans (hW.mono (by omega))⟩)
  have HA := Lib.hid (show ∀ W, Below W0.heap.size W0 W → Calls Tryd.prog 39 #[.agg #[.int .i64 s, .slice a (lim m).length c1]] W fun e w' => e = .returned (.string (btx (wtx s m))) ∧ Below W0.heap.size W0 w' ∧ Below W.heap.size W w' from
    fun W hW => (sText s a m c1 W B (by have := hW.size; omega) (hx.below ((p3.mono hB).trans (hW.mono (by omega)))) hs hm).mono fun e w' ⟨he, hb⟩ => ⟨he, hW.trans (hb.mono hW.size), hb⟩)
  have HO := Lib.hid (show ∀ W, Below W0.heap.size W0 W → Calls Tryd.prog 55 #[.int .i64 x] W fun e w' => ∃ a' c', e = .returned (.agg #[.int .i64 x.sign, .slice a' (lim x.natAbs).length c']) ∧ Own w' W.heap.size a' (lim x.natAbs) ∧ Below W0.heap.size W0 w' from
    fun W hW => (sOf x (by omega) (by omega) W).mono fun e w' ⟨a', c', he, _, ho, hb⟩ => ⟨a', c', he, ho, hW.trans (hb.mono hW.size)⟩)
  have HB := Lib.hid (show ∀ (a' : Option Addr) (c' lo : Nat) (W1 W : World), Own W1 lo a' (lim x.natAbs) → Below W1.heap.size W1 W → Below W0.heap.size W0 W → Calls Tryd.prog 39 #[.agg #[.int .i64 x.sign, .slice a' (lim x.natAbs).length c']] W fun e w' => e = .returned (.string (btx (wtx x.sign x.natAbs))) ∧ Below W0.heap.size W0 w' from
    fun a' c' lo W1 W ho h1 hW => (sText x.sign a' x.natAbs c' W W.heap.size (Nat.le_refl _) (ho.below h1).ints (sg_sign x) (small_lim (by omega))).mono fun e w' ⟨he, hb⟩ => ⟨he, hW.trans (hb.mono hW.size)⟩)
  have hs1 := btx_size (wtx s m)
  have hs2 := btx_size (wtx x.sign x.natAbs)
  have hl1 := wtx_len (s := s) (nd_lim hm)
  have hl2 := wtx_len (s := x.sign) (nd_lim (small_lim (n := x.natAbs) (by omega)))
  have hc1 : btx (wtx s m) ++ { data := #[112] } = btx (wtx s m ++ [112]) := btx_app _ [112]
  have hc2 := btx_app (wtx s m ++ [112]) (wtx x.sign x.natAbs)
  have hs3 : (btx (wtx s m ++ [112])).size = (wtx s m).length + 1 := by rw [btx_size, List.length_append]; rfl
  unfold dtx
  obtain ⟨t1, ht1⟩ : ∃ t, t = wtx s m := ⟨_, rfl⟩
  obtain ⟨t2, ht2⟩ : ∃ t, t = wtx x.sign x.natAbs := ⟨_, rfl⟩
  rw [← ht1] at HA hs1 hl1 hc1 hc2 hs3 ⊢
  rw [← ht2] at HB hs2 hl2 hc2 ⊢
  obtain ⟨t3, ht3⟩ : ∃ t, t = t1 ++ [112] := ⟨_, rfl⟩
  rw [← ht3] at hc1 hc2 hs3 ⊢
  have hno1 : ¬ (9223372036854775807 < t1.length + 1) := by omega
  have hno2 : ¬ (9223372036854775807 < t1.length + 1 + t2.length) := by omega
  obtain ⟨k1, k2, k3⟩ := SS.out _ hT
  clear p1 p3 p4 hx hW0 hB hm hs ht1 ht2 ht3 hl1 hl2 hx1 hx2
  obtain ⟨ls, hls⟩ : ∃ q, q = x.sign := ⟨_, rfl⟩
  obtain ⟨ln, hln⟩ : ∃ q, q = (lim x.natAbs).length := ⟨_, rfl⟩
  rw [← hls, ← hln] at HB HO
  clear hls hln
  go_enter Tryd.func72, Tryd.ntmps72
  go_wp2_with fail
  rw [HW0.out]
  go_region_held3 (fun W => W.cell? ⟨w.heap.size, 0, none⟩ = some (.int .i64 s) ∧ W.cell? ⟨w.heap.size, 1, none⟩ = some (.slice a (lim m).length c1) ∧ W.cell? ⟨w.heap.size, 2, none⟩ = some (.int .i64 x))
    (exact SS.out _ (by assumption))
    (first
    | (go_at_call 39; with_reducible refine (HA.out _ (by assumption)).mono ?_; rintro e w2 ⟨rfl, hb2, hbb2⟩)
    | (go_at_call 55; with_reducible refine (HO.out _ (by assumption)).mono ?_; rintro e w3 ⟨a5, c5, rfl, ho5, hb3⟩)
    | (go_at_call 39; with_reducible refine (HB.out _ _ _ _ _ ho5 (by first | exact hbb2 | exact Below.refl _ _) (by assumption)).mono ?_; rintro e w4 ⟨rfl, hb4⟩))
  go_wp2_with fail
  go_ret
  exact HEND.out _ _ (by assumption)

set_option maxRecDepth 100000 in
set_option maxHeartbeats 4000000 in
theorem sDyadicText (s : Int) (a : Option Addr) (xs : List Int) (c1 : Nat) (x : Int) (w : World) (B : Nat) (hB : B ≤ w.heap.size) (hx : Ints w B a xs) (hl : xs.length ≤ 9223372036854775807) :
    Calls Tryd.prog 30 #[.agg #[.int .i64 s, .slice a xs.length c1, .int .i64 x]] w (RetB (.tuple #[.string (dtxR s xs x).1, .int .i64 (dtxR s xs x).2]) w) := by
  obtain ⟨W0, hW0⟩ : ∃ W0 : World, w.alloc (.cells #[.int .i64 s, .slice a xs.length c1, .int .i64 x] 47) = W0 := ⟨_, rfl⟩
  obtain ⟨p1, p3, p4⟩ := one_box w 47 #[.int .i64 s, .slice a xs.length c1, .int .i64 x]
  rw [hW0] at p1 p3 p4
  have HW0 := Lib.hid hW0
  have P3 := Lib.hid p3
  have P4 := Lib.hid p4
  have SS := Lib.hid (show ∀ W, Below W0.heap.size W0 W → (W.cell? ⟨w.heap.size, 0, none⟩ = some (.int .i64 s) ∧ W.cell? ⟨w.heap.size, 1, none⟩ = some (.slice a xs.length c1) ∧ W.cell? ⟨w.heap.size, 2, none⟩ = some (.int .i64 x)) from
    fun W hW => ⟨(p1.below hW).cell 0, (p1.below hW).cell 1, (p1.below hW).cell 2⟩)
  have IX := Lib.hid (show ∀ W, Below W0.heap.size W0 W → Ints W B a xs ∧ B ≤ W.heap.size from fun W hW => ⟨hx.below ((p3.mono hB).trans (hW.mono (by omega))), by have := hW.size; omega⟩)
  have hT : Below W0.heap.size W0 W0 := Below.refl _ _
  have HEND := Lib.hid (show ∀ v W, Below W0.heap.size W0 W → RetB v w (.returned v) W from fun v W hW => ⟨rfl, P3.out.trans (hW.mono (by omega))⟩)
  have HI1 := Lib.hid (show ∀ W, Below W0.heap.size W0 W → Calls Tryd.prog 61 #[.agg #[.int .i64 s, .slice a xs.length c1, .int .i64 x]] W fun e w' => e = .returned (.bool (dyB s xs x)) ∧ Below W0.heap.size W0 w' from
    fun W hW => (sDy s a xs c1 x W B (IX.out W hW).2 hl (IX.out W hW).1).mono fun e w' ⟨he, hb⟩ => ⟨he, hW.trans (hb.mono hW.size)⟩)
  cases h1 : dyB s xs x
  · rw [dtxR_no h1]
    rw [h1] at HI1
    clear p1 p3 p4 hx hW0 hB h1 hl IX
    go_enter Tryd.func30, Tryd.ntmps30
    go_wp2_with fail
    rw [HW0.out]
    refine (HI1.out _ hT).mono ?_
    rintro e w1 ⟨rfl, hb⟩
    obtain ⟨k1, k2, k3⟩ := SS.out _ hb
    go_wp2_with fail
    go_ret2
    exact HEND.out _ _ hb
  · have e1 := dyB_iff.1 h1
    rw [dtxR_yes h1]
    rw [h1] at HI1
    obtain ⟨m, rfl, hm, sm⟩ := isWh_of e1.1
    rw [val_lim]
    have hx1 := e1.2.1
    have hx2 := e1.2.2.1
    have HP := Lib.hid (show ∀ W, Below W0.heap.size W0 W → Calls Tryd.prog 72 #[.agg #[.int .i64 s, .slice a (lim m).length c1, .int .i64 x]] W fun e w' => e = .returned (.string (btx (dtx s m x))) ∧ Below W0.heap.size W0 w' from
      fun W hW => (sL03Text s a m c1 x W B (IX.out W hW).2 (IX.out W hW).1 sm hm hx1 hx2).mono fun e w' ⟨he, hb⟩ => ⟨he, hW.trans (hb.mono hW.size)⟩)
    obtain ⟨q, hq⟩ : ∃ q, q = btx (dtx s m x) := ⟨_, rfl⟩
    rw [← hq] at HP ⊢
    clear p1 p3 p4 hx hW0 hB hl IX sm hm e1 h1 hq hx1 hx2
    go_enter Tryd.func30, Tryd.ntmps30
    go_wp2_with fail
    rw [HW0.out]
    refine (HI1.out _ hT).mono ?_
    rintro e w1 ⟨rfl, hb⟩
    obtain ⟨k1, k2, k3⟩ := SS.out _ hb
    go_wp2_with fail
    refine (HP.out _ hb).mono ?_
    rintro e w3 ⟨rfl, hb3⟩
    go_wp2_with fail
    go_ret2
    exact HEND.out _ _ hb3
end Go.Proofs.YtpchcigpppdfiaaDoor
