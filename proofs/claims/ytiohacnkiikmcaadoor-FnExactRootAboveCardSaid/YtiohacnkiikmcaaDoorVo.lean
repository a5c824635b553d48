/-
  Contract of the model: shifts of whole numbers. Conditions: the limbs can be read. Contracts: ShiftWhole of the program and of the model. Conditions: the limbs can be read; the library's table is as its initialiser lays it.
-/
import Derived.Test.YtiohacnkiikmcaaDoorRd
import Derived.Test.YtiohacnkiikmcaaDoorUf
namespace Go.Proofs.YtiohacnkiikmcaaDoor
set_option linter.unusedVariables false
open Go Go.RowKit

theorem RetZ.alloc {z : Int} {w W : World} {e : Ending} (h : RetZ z w e W) (o : Obj) : RetZ z w e (W.alloc o) := by
  obtain ⟨a, c, he, hc, ho, hb⟩ := h
  exact ⟨a, c, he, hc, ho.alloc o, hb.alloc hb.size o⟩
theorem neg_less (M : Nat) : sgnOf (-1) M * (M : Int) - 1 * 1 = -1 * ((M + 1 : Nat) : Int) := by
  by_cases h : M = 0
  · subst h; rw [sgnOf_zero]; rfl
  · rw [sgnOf_pos h]; omega
theorem Sg.sgn1 (M : Nat) : Sg (sgnOf (-1) M) M := by
  unfold Sg
  by_cases h : M = 0
  · left; subst h; exact ⟨rfl, sgnOf_zero _⟩
  · right; exact ⟨h, .inr (sgnOf_pos h)⟩

set_option maxRecDepth 100000 in
set_option maxHeartbeats 4000000 in
theorem sShiftUp (s : Int) (a : Option Addr) (m c1 K : Nat) (w : World) (B : Nat) (hB : B ≤ w.heap.size) (hx : Ints w B a (lim m)) (hs : Sg s m) (hl : (lim m).length ≤ 1048576) (hk : K ≤ 100000000) :
    Calls Tryd.prog 86 #[.agg #[.int .i64 s, .slice a (lim m).length c1], .int .i64 (K : Int)] w (RetZ (s * (m : Int) * 2 ^ K) w) := by
  obtain ⟨W0, hW0⟩ : ∃ W0 : World, (w.alloc (.cells #[.int .i64 s, .slice a (lim m).length c1] 30)).alloc (.cells #[.int .i64 0, .slice none 0 0] 30) = W0 := ⟨_, rfl⟩
  obtain ⟨p1, p5, p3, p4⟩ := two_box w 30 #[.int .i64 s, .slice a (lim m).length c1] #[.int .i64 0, .slice none 0 0]
  rw [hW0] at p1 p3 p4 p5
  have HW0 := Lib.hid hW0
  have P3 := Lib.hid p3
  have P4 := Lib.hid p4
  have SS := Lib.hid (show ∀ W, Below W0.heap.size W0 W → (W.cell? ⟨w.heap.size, 0, none⟩ = some (.int .i64 s) ∧ W.cell? ⟨w.heap.size, 1, none⟩ = some (.slice a (lim m).length c1)) from
    fun W hW => ⟨(p1.below hW).cell 0, (p1.below hW).cell 1⟩)
  have SR := Lib.hid (show ∀ W, Below W0.heap.size W0 W → (W.cell? ⟨w.heap.size + 1, 0, none⟩ = some (.int .i64 0) ∧ W.cell? ⟨w.heap.size + 1, 1, none⟩ = some (.slice none 0 0) ∧ W.frozen? ⟨w.heap.size + 1, 0, none⟩ = false ∧ W.frozen? ⟨w.heap.size + 1, 1, none⟩ = false) from
    fun W hW => (p5.below hW).two)
  have hT : Below W0.heap.size W0 W0 := Below.refl _ _
  have HUP := Lib.hid (show ∀ W, Below W0.heap.size W0 W → Calls Tryd.prog 44 #[.agg #[.int .i64 s, .slice a (lim m).length c1], .int .i64 (K : Int)] W fun e w' => ∃ a c, e = .returned (.agg #[.int .i64 (sgnOf s (m * 2 ^ K)), .slice a (lim (m * 2 ^ K)).length c]) ∧ (lim (m * 2 ^ K)).length ≤ c ∧ Own w' W0.heap.size a (lim (m * 2 ^ K)) ∧ Below W0.heap.size W0 w' from
    fun W hW => (sLeft s a m c1 K W B (by have := hW.size; omega) (hx.below ((p3.mono hB).trans (hW.mono (by omega)))) hl (by omega)).mono fun e w' ⟨a, c, he, hc, ho, hb⟩ => ⟨a, c, he, hc, ho.mono hW.size, hW.trans (hb.mono hW.size)⟩)
  obtain ⟨z, hz⟩ : ∃ z, z = s * (m : Int) * 2 ^ K := ⟨_, rfl⟩
  obtain ⟨N, hN⟩ : ∃ N, N = m * 2 ^ K := ⟨_, rfl⟩
  have hfin : sgnOf s N = z.sign ∧ N = z.natAbs := sgnOf_eq (by
    unfold Sg at hs
    rcases hs with ⟨rfl, _⟩ | ⟨_, h | h⟩
    · right; right; rw [hN]; simp
    · exact .inl h
    · exact .inr (.inl h)) (by rw [hz, hN]; simp [Int.mul_assoc])
  have HF := Lib.hid hfin
  rw [← hN] at HUP
  rw [← hz]
  have hkI : (0 : Int) ≤ (K : Int) := by omega
  have hkI2 : (K : Int) ≤ 100000000 := by omega
  obtain ⟨k1, k2⟩ := SS.out _ hT
  clear p1 p3 p4 p5 hx hl hW0 hB hfin hs hz hN hk
  go_enter Tryd.func86, Tryd.ntmps86
  go_wp2_with fail
  rw [HW0.out]
  refine (HUP.out _ hT).mono ?_
  rintro e w1 ⟨a1, d1, rfl, hc1, ho1, hb1⟩
  obtain ⟨q1, q2, q3, q4⟩ := SR.out _ hb1
  go_wp2_with fail
  refine bodyPost_ret (v := .agg #[.int .i64 (sgnOf s N), .slice a1 (lim N).length d1]) (by simp [results, Tryd.results86, go_sem, *]) rfl ?_
  exact retZ_end2 P3.out P4.out hb1 _ _ ho1 hc1 HF.out

set_option maxRecDepth 100000 in
set_option maxHeartbeats 4000000 in
theorem sShiftDown (s : Int) (a : Option Addr) (m c1 K : Nat) (w : World) (B : Nat) (hB : B ≤ w.heap.size) (hx : Ints w B a (lim m)) (hs : Sg s m) (hl : (lim m).length ≤ 1048000) (hk : K ≤ 100000000) (hk0 : 0 < K) :
    Calls Tryd.prog 86 #[.agg #[.int .i64 s, .slice a (lim m).length c1], .int .i64 (-(K : Int))] w (RetZ (s * (m : Int) / 2 ^ K) w) := by
  obtain ⟨W0, hW0⟩ : ∃ W0 : World, (w.alloc (.cells #[.int .i64 s, .slice a (lim m).length c1] 30)).alloc (.cells #[.int .i64 0, .slice none 0 0] 30) = W0 := ⟨_, rfl⟩
  obtain ⟨p1, p5, p3, p4⟩ := two_box w 30 #[.int .i64 s, .slice a (lim m).length c1] #[.int .i64 0, .slice none 0 0]
  rw [hW0] at p1 p3 p4 p5
  have HW0 := Lib.hid hW0
  have P3 := Lib.hid p3
  have P4 := Lib.hid p4
  have SS := Lib.hid (show ∀ W, Below W0.heap.size W0 W → (W.cell? ⟨w.heap.size, 0, none⟩ = some (.int .i64 s) ∧ W.cell? ⟨w.heap.size, 1, none⟩ = some (.slice a (lim m).length c1)) from
    fun W hW => ⟨(p1.below hW).cell 0, (p1.below hW).cell 1⟩)
  have SR := Lib.hid (show ∀ W, Below W0.heap.size W0 W → (W.cell? ⟨w.heap.size + 1, 0, none⟩ = some (.int .i64 0) ∧ W.cell? ⟨w.heap.size + 1, 1, none⟩ = some (.slice none 0 0) ∧ W.frozen? ⟨w.heap.size + 1, 0, none⟩ = false ∧ W.frozen? ⟨w.heap.size + 1, 1, none⟩ = false) from
    fun W hW => (p5.below hW).two)
  have hT : Below W0.heap.size W0 W0 := Below.refl _ _
  have IX := Lib.hid (show ∀ W, Below W0.heap.size W0 W → Ints W B a (lim m) ∧ B ≤ W.heap.size from fun W hW => ⟨hx.below ((p3.mono hB).trans (hW.mono (by omega))), by have := hW.size; omega⟩)
  have HDN := Lib.hid (show ∀ W, Below W0.heap.size W0 W → Calls Tryd.prog 73 #[.agg #[.int .i64 s, .slice a (lim m).length c1], .int .i64 (K : Int)] W fun e w' => ∃ a c, e = .returned (.agg #[.int .i64 (sgnOf s (m / 2 ^ K)), .slice a (lim (m / 2 ^ K)).length c]) ∧ (lim (m / 2 ^ K)).length ≤ c ∧ Own w' W0.heap.size a (lim (m / 2 ^ K)) ∧ Below W0.heap.size W0 w' from
    fun W hW => (sCut s a m c1 K W B (IX.out W hW).2 (IX.out W hW).1 (by omega) (by omega)).mono fun e w' ⟨a, c, he, hc, ho, hb⟩ => ⟨a, c, he, hc, ho.mono hW.size, hW.trans (hb.mono hW.size)⟩)
  have HTW := Lib.hid (show m ≠ 0 → ∀ W, Below W0.heap.size W0 W → Calls Tryd.prog 72 #[.agg #[.int .i64 s, .slice a (lim m).length c1]] W fun e w' => e = .returned (.int .i64 (tw m : Int)) ∧ Below W.heap.size W w' from
    fun h0 W hW => (sTwos s a m c1 W B (IX.out W hW).2 (IX.out W hW).1 (by omega) h0).mono fun e w' ⟨he, hb⟩ => ⟨he, hb⟩)
  have hdl : (lim (m / 2 ^ K)).length ≤ 1048000 := Nat.le_trans (lim_le_of_le (Nat.div_le_self _ _)) hl
  obtain ⟨z, hz⟩ : ∃ z, z = s * (m : Int) / 2 ^ K := ⟨_, rfl⟩
  obtain ⟨N, hN⟩ : ∃ N, N = dnN s m K := ⟨_, rfl⟩
  have hfin : sgnOf s N = z.sign ∧ N = z.natAbs := sgnOf_eq (by
    have h2 := hs
    unfold Sg at h2
    rcases h2 with ⟨rfl, rfl⟩ | ⟨_, h | h⟩
    · right; right; rw [hN]; simp [dnN]
    · exact .inl h
    · exact .inr (.inl h)) (by rw [hz, hN]; exact dnN_eq hs)
  have hzN : z = s * (N : Int) := by rw [hz, hN]; exact (dnN_eq hs).symm
  have HF := Lib.hid hfin
  have HZN := Lib.hid hzN
  have HNN := Lib.hid (show N = if s < 0 ∧ tw m < K then m / 2 ^ K + 1 else m / 2 ^ K from hN)
  have HTL := Lib.hid (show tw m ≤ 25165824 from by
    by_cases h0 : m = 0
    · subst h0; rw [tw_zero]; omega
    · have := tw_len h0; rw [← lim_length] at this; omega)
  have HSG := Lib.hid (show (s < 0 → s = -1 ∧ m ≠ 0) from fun h => by unfold Sg at hs; omega)
  rw [← hz]
  obtain ⟨M, hM⟩ : ∃ M, M = m / 2 ^ K := ⟨_, rfl⟩
  rw [← hM] at HDN HNN hdl
  obtain ⟨t, ht⟩ : ∃ t, t = tw m := ⟨_, rfl⟩
  rw [← ht] at HTW HNN HTL
  have hkI2 : (K : Int) ≤ 100000000 := by omega
  have hk0I : (0 : Int) < (K : Int) := by omega
  have htI : (t : Int) ≤ 25165824 := by have := HTL.out; omega
  obtain ⟨k1, k2⟩ := SS.out _ hT
  have HDL := Lib.hid hdl
  clear p1 p3 p4 p5 hx hl hW0 hB hfin hs hz hN hk hk0 hdl hM ht hzN
  by_cases hs0 : s < 0
  · obtain ⟨rfl, hm0⟩ := HSG.out hs0
    clear hs0
    go_enter Tryd.func86, Tryd.ntmps86
    go_wp2_with fail
    rw [HW0.out]
    refine (HDN.out _ hT).mono ?_
    rintro e w1 ⟨a1, d1, rfl, hc1, ho1, hb1⟩
    have HC1 := Lib.hid hc1
    have HO1 := Lib.hid ho1
    have HB1 := Lib.hid hb1
    clear k1 k2
    obtain ⟨k1, k2⟩ := SS.out _ hb1
    have hlt : w.heap.size < w1.heap.size := by have := hb1.size; have := P4.out; omega
    have hlt2 : w.heap.size + 1 < w1.heap.size := by have := hb1.size; have := P4.out; omega
    have PB := Lib.hid (BoxAt.new w1 30 #[.int .i64 (sgnOf (-1) M), .slice a1 (lim M).length d1])
    have hb2 := Below.alloc hb1 hb1.size (.cells #[.int .i64 (sgnOf (-1) M), .slice a1 (lim M).length d1] 30)
    have HTC := Lib.hid (HTW.out hm0 _ hb2)
    have HB2 := Lib.hid hb2
    clear hc1 ho1 hb1 hb2
    go_wp2_with fail
    refine HTC.out.mono ?_
    rintro e w2 ⟨rfl, hb3⟩
    have PB2 := Lib.hid (PB.out.below hb3)
    have HO2 := Lib.hid ((HO1.out.alloc _).below hb3)
    have HB3 := Lib.hid (HB2.out.trans (hb3.mono HB2.out.size))
    have hsz3 := hb3.size
    simp at hsz3
    clear hb3 k1 k2
    obtain ⟨k1, k2⟩ := SS.out _ HB3.out
    obtain ⟨x1, x2, x3, x4⟩ := PB2.out.two
    by_cases htk : t < K
    · rw [if_pos ⟨by decide, htk⟩] at HNN
      have htkI : (t : Int) < (K : Int) := by omega
      have HXX := Lib.hid (show ∀ W, Below w2.heap.size w2 W → (W.cell? ⟨w1.heap.size, 0, none⟩ = some (.int .i64 (sgnOf (-1) M)) ∧ W.cell? ⟨w1.heap.size, 1, none⟩ = some (.slice a1 (lim M).length d1)) from fun W hW => ⟨(PB2.out.below hW).cell 0, (PB2.out.below hW).cell 1⟩)
      have HXT := Lib.hid (show ∀ W u v, Below w2.heap.size w2 W → (fun W : World => W.cell? ⟨w1.heap.size, 0, none⟩ = some (.int .i64 (sgnOf (-1) M)) ∧ W.cell? ⟨w1.heap.size, 1, none⟩ = some (.slice a1 (lim M).length d1)) ((W.setCell ⟨w.heap.size + 1, 0, none⟩ u).setCell ⟨w.heap.size + 1, 1, none⟩ v) from fun W u v hW =>
        ⟨(((PB2.out.below hW).far (by simp <;> omega) _).far (by simp <;> omega) _).cell 0, (((PB2.out.below hW).far (by simp <;> omega) _).far (by simp <;> omega) _).cell 1⟩)
      have HOF := Lib.hid (show ∀ W, Below w2.heap.size w2 W → Calls Tryd.prog 49 #[.int .i64 1] W fun e w' => ∃ b d, e = .returned (.agg #[.int .i64 1, .slice b 1 d]) ∧ 1 ≤ d ∧ Ints w' w'.heap.size b [1] ∧ Below w2.heap.size w2 w' from fun W hW => by
        have h := sOfP 1 (by omega) W
        have e1 : sgnOf 1 1 = 1 := sgnOf_pos (by decide)
        exact h.mono fun e w' ⟨b, d, he, hd, ho, hb⟩ => by
          rw [e1, lim_one] at he
          rw [lim_one] at hd ho
          exact ⟨b, d, he, hd, ho.ints, hW.trans (hb.mono hW.size)⟩)
      have HSB := Lib.hid (show ∀ (b : Option Addr) (d : Nat) W, Below w2.heap.size w2 W → 1 ≤ d → Ints W W.heap.size b [1] → Calls Tryd.prog 97 #[.agg #[.int .i64 (sgnOf (-1) M), .slice a1 (lim M).length d1], .agg #[.int .i64 1, .slice b 1 d]] W fun e w' => ∃ a c, e = .returned (.agg #[.int .i64 (sgnOf (-1) N), .slice a (lim N).length c]) ∧ (lim N).length ≤ c ∧ Own w' W0.heap.size a (lim N) ∧ Below w2.heap.size w2 w' ∧ Below W0.heap.size W0 w' from fun b d W hW hd hi => by
        have hW0 := HB3.out.trans (hW.mono HB3.out.size)
        have h := sSub (sgnOf (-1) M) 1 a1 b M 1 d1 d W W.heap.size W.heap.size (Nat.le_refl _) (Nat.le_refl _) (HO2.out.below hW).ints (by rw [lim_one]; exact hi) (Sg.sgn1 M) (.inr ⟨by decide, .inl rfl⟩) (by have := HDL.out; omega) (by rw [lim_one]; simp) HC1.out (by rw [lim_one]; exact hd)
        have e1 : sgnOf (-1) M * (M : Int) - 1 * ((1 : Nat) : Int) = z := by
          rw [HZN.out, HNN.out]
          exact neg_less M
        rw [lim_one, e1] at h
        obtain ⟨f1, f2⟩ := HF.out
        rw [f1, f2]
        exact h.mono fun e w' ⟨a, c, he, hc, ho, hb⟩ => ⟨a, c, he, hc, ho.mono hW0.size, hW.trans (hb.mono hW.size), hW0.trans (hb.mono hW0.size)⟩)
      have hTd : Below w2.heap.size w2 w2.drew := (Below.refl _ _).drew
      clear x1 x2 x3 x4
      go_wp2_with fail
      go_region_held3 (fun W => W.cell? ⟨w1.heap.size, 0, none⟩ = some (.int .i64 (sgnOf (-1) M)) ∧ W.cell? ⟨w1.heap.size, 1, none⟩ = some (.slice a1 (lim M).length d1))
        (first | exact HXX.out _ (by assumption) | exact HXT.out _ _ _ (by assumption))
        (first
        | (go_at_call 49; refine (HOF.out _ (by assumption)).mono ?_; rintro e w' ⟨b, d, rfl, hd, hi, hb⟩)
        | (go_at_call 97; refine (HSB.out _ _ _ (by assumption) hd hi).mono ?_; rintro e w5 ⟨a', c', rfl, hc', ho', hb', hb0⟩; obtain ⟨q1, q2, q3, q4⟩ := SR.out _ hb0))
      go_wp2_with fail
      refine bodyPost_ret (v := .agg #[.int .i64 (sgnOf (-1) N), .slice a' (lim N).length c']) (by simp [results, Tryd.results86, go_sem, *]) rfl ?_
      exact retZ_end2 P3.out P4.out hb0 _ _ ho' hc' HF.out
    · rw [if_neg (fun h => htk h.2)] at HNN
      obtain rfl : N = M := HNN.out
      have htkI : decide ((t : Int) < (K : Int)) = false := decide_eq_false (by omega)
      obtain ⟨q1, q2, q3, q4⟩ := SR.out _ HB3.out
      go_wp2_with fail
      refine bodyPost_ret (v := .agg #[.int .i64 (sgnOf (-1) N), .slice a1 (lim N).length d1]) (by simp [results, Tryd.results86, go_sem, *]) rfl ?_
      exact retZ_end2 P3.out P4.out HB3.out _ _ HO2.out HC1.out HF.out
  · rw [if_neg (fun h => hs0 h.1)] at HNN
    have hs0d : decide (s < 0) = false := decide_eq_false hs0
    obtain rfl : N = M := HNN.out
    go_enter Tryd.func86, Tryd.ntmps86
    go_wp2_with fail
    rw [HW0.out]
    refine (HDN.out _ hT).mono ?_
    rintro e w1 ⟨a1, d1, rfl, hc1, ho1, hb1⟩
    have HC1 := Lib.hid hc1
    have HO1 := Lib.hid ho1
    have HB1 := Lib.hid hb1
    clear k1 k2
    obtain ⟨k1, k2⟩ := SS.out _ hb1
    obtain ⟨q1, q2, q3, q4⟩ := SR.out _ hb1
    have hlt : w.heap.size < w1.heap.size := by have := hb1.size; have := P4.out; omega
    have hlt2 : w.heap.size + 1 < w1.heap.size := by have := hb1.size; have := P4.out; omega
    have HB2 := Lib.hid (Below.alloc hb1 hb1.size (.cells #[.int .i64 (sgnOf s N), .slice a1 (lim N).length d1] 30))
    clear hc1 ho1 hb1
    go_wp2_with fail
    refine bodyPost_ret (v := .agg #[.int .i64 (sgnOf s N), .slice a1 (lim N).length d1]) (by simp [results, Tryd.results86, go_sem, *]) rfl ?_
    exact (retZ_end2 P3.out P4.out HB1.out _ _ HO1.out HC1.out HF.out).alloc _

theorem iShZ (s : Int) (a : Option Addr) (m c1 : Nat) (k : Int) (w : World) (B : Nat) (hB : B ≤ w.heap.size) (hx : Ints w B a (lim m)) (hs : Sg s m) (hl : (lim m).length ≤ 1048000) (h1 : -100000000 ≤ k) (h2 : k ≤ 100000000) (hT : Tab w) :
    Calls Tryd.prog 75 #[.agg #[.int .i64 s, .slice a (lim m).length c1], .int .i64 k] w (RetZ (shZ (s * (m : Int)) k) w) := by
  by_cases h : 0 ≤ k
  · obtain ⟨K, rfl⟩ := Int.eq_ofNat_of_zero_le h
    rw [shZ_up]
    exact iShiftUp s a m c1 K w B hB hx hs (by omega) (by omega)
  · obtain ⟨K, hK⟩ := Int.eq_ofNat_of_zero_le (show 0 ≤ -k by omega)
    obtain rfl : k = -(K : Int) := by omega
    rw [shZ_down _ _ (by omega)]
    exact iShiftDown s a m c1 K w B hB hx hs (by omega) (by omega) (by omega) hT
theorem sShZ (s : Int) (a : Option Addr) (m c1 : Nat) (k : Int) (w : World) (B : Nat) (hB : B ≤ w.heap.size) (hx : Ints w B a (lim m)) (hs : Sg s m) (hl : (lim m).length ≤ 1048000) (h1 : -100000000 ≤ k) (h2 : k ≤ 100000000) :
    Calls Tryd.prog 86 #[.agg #[.int .i64 s, .slice a (lim m).length c1], .int .i64 k] w (RetZ (shZ (s * (m : Int)) k) w) := by
  by_cases h : 0 ≤ k
  · obtain ⟨K, rfl⟩ := Int.eq_ofNat_of_zero_le h
    rw [shZ_up]
    exact sShiftUp s a m c1 K w B hB hx hs (by omega) (by omega)
  · obtain ⟨K, hK⟩ := Int.eq_ofNat_of_zero_le (show 0 ≤ -k by omega)
    obtain rfl : k = -(K : Int) := by omega
    rw [shZ_down _ _ (by omega)]
    exact sShiftDown s a m c1 K w B hB hx hs hl (by omega) (by omega)

noncomputable def shR (s : Int) (xs : List Int) (k : Int) : Int × List Int × Int := @ite _ (IsWh s xs) (Classical.propDecidable _) (if -5000 ≤ k ∧ k ≤ 5000 then fitZ (shZ (wv s xs) k) else (0, [], 2)) (0, [], 1)
theorem shR_yes {s : Int} {xs : List Int} {k : Int} (h : IsWh s xs) (h1 : -5000 ≤ k ∧ k ≤ 5000) : shR s xs k = fitZ (shZ (wv s xs) k) := by unfold shR; rw [if_pos h, if_pos h1]
theorem shR_rng {s : Int} {xs : List Int} {k : Int} (h : IsWh s xs) (h1 : ¬ (-5000 ≤ k ∧ k ≤ 5000)) : shR s xs k = (0, [], 2) := by unfold shR; rw [if_pos h, if_neg h1]
theorem shR_no {s : Int} {xs : List Int} {k : Int} (h : ¬ IsWh s xs) : shR s xs k = (0, [], 1) := by unfold shR; rw [if_neg h]
theorem fitW_len' (s : Int) (n : Nat) : (fitW s n).2.1.length ≤ 200 := by
  unfold fitW
  split
  · assumption
  · simp
theorem shR_len (s : Int) (xs : List Int) (k : Int) : (shR s xs k).2.1.length ≤ 200 := by
  unfold shR
  split
  · split
    · exact fitW_len' _ _
    · simp
  · simp
theorem retWC_zeroB {w W0 W : World} (code : Int) (P3 : Below w.heap.size w W0) (P4 : W0.heap.size = w.heap.size + 2) (hb : Below W0.heap.size W0 W) (u v : Value) :
    RetWC (0, [], code) w.heap.size w (.returned (.tuple #[.agg #[.int .i64 0, .slice none 0 0], .int .i64 code])) ((W.setCell ⟨w.heap.size + 1, 0, none⟩ u).setCell ⟨w.heap.size + 1, 1, none⟩ v) :=
  ⟨none, 0, rfl, Nat.le_refl _, Own.nil, ((P3.trans (hb.mono (by omega))).setCell (by simp <;> omega) _).setCell (by simp <;> omega) _⟩
theorem retWC_endB {w W0 W : World} {r : Int × List Int × Int} {a : Option Addr} {c : Nat} (P3 : Below w.heap.size w W0) (P4 : W0.heap.size = w.heap.size + 2) (hb : Below W0.heap.size W0 W) (u v : Value) (ho : Own W W0.heap.size a r.2.1) (hc : r.2.1.length ≤ c) :
    RetWC r w.heap.size w (.returned (.tuple #[.agg #[.int .i64 r.1, .slice a r.2.1.length c], .int .i64 r.2.2])) ((W.setCell ⟨w.heap.size + 1, 0, none⟩ u).setCell ⟨w.heap.size + 1, 1, none⟩ v) :=
  ⟨a, c, rfl, hc, ((ho.setFar (by simp; omega) _).setFar (by simp; omega) _).mono (by omega), ((P3.trans (hb.mono (by omega))).setCell (by simp <;> omega) _).setCell (by simp <;> omega) _⟩

theorem shZ_len {s k : Int} {m : Nat} (hm : (lim m).length ≤ 200) (hs : s = 0 ∨ s = 1 ∨ s = -1) (h1 : -5000 ≤ k) (h2 : k ≤ 5000) : (lim (shZ (s * (m : Int)) k).natAbs).length ≤ 9223372036854775807 := by
  have h3 : (s * (m : Int)).natAbs ≤ m := by
    rcases hs with rfl | rfl | rfl <;> simp
  obtain ⟨z, hz⟩ : ∃ z, z = s * (m : Int) := ⟨_, rfl⟩
  rw [← hz] at h3 ⊢
  have hzl := lim_le_of_le h3
  by_cases h : 0 ≤ k
  · obtain ⟨K, rfl⟩ := Int.eq_ofNat_of_zero_le h
    rw [shZ_up, Int.natAbs_mul]
    have e : ((2 : Int) ^ K).natAbs = 2 ^ K := by rw [show (2 : Int) ^ K = ((2 ^ K : Nat) : Int) by simp]; exact Int.natAbs_natCast _
    rw [e]
    have h4 := lim_mul_len z.natAbs (2 ^ K)
    have h5 : (lim (2 ^ K)).length ≤ K / 24 + 1 := by
      rw [lim_length]
      refine dig_length_le ?_
      rw [two24]
      exact Nat.pow_lt_pow_right (by omega) (by omega)
    omega
  · obtain ⟨K, hK⟩ := Int.eq_ofNat_of_zero_le (show 0 ≤ -k by omega)
    obtain rfl : k = -(K : Int) := by omega
    rw [shZ_down _ _ (by omega)]
    have e : (2 : Int) ^ K = ((2 ^ K : Nat) : Int) := by simp
    rw [e]
    have h4 := lim_le_of_le (Int.natAbs_ediv_le_natAbs z ((2 ^ K : Nat) : Int))
    omega

end Go.Proofs.YtiohacnkiikmcaaDoor
