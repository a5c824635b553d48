/-
  Contracts of the model's whole numbers: sums, opposites, differences. Conditions: the limbs can be read.
-/
import Derived.Test.YtfjfmlofhifkmaaDoorTc
namespace Go.Proofs.YtfjfmlofhifkmaaDoor
set_option linter.unusedVariables false
open Go Go.RowKit

theorem sMakeL (s : Int) (a : Option Addr) (n : Nat) (c : Nat) (w : World) (B : Nat) (hB : B ≤ w.heap.size) (hx : Ints w B a (lim n)) (hc : (lim n).length ≤ c) (hl : (lim n).length ≤ 8388608) :
    Calls Tryd.prog 96 #[.int .i64 s, .slice a (lim n).length c] w (RetN (sgnOf s n) n w) := by
  rw [lim_length] at hc hl ⊢
  have := sMake s a (dig n) c w B hB hx (small_dig n) hc hl
  rwa [val_dig] at this

set_option maxHeartbeats 2000000 in
theorem sAdd (s t : Int) (a b : Option Addr) (m n c1 c2 : Nat) (w : World) (B C : Nat) (hB : B ≤ w.heap.size) (hC : C ≤ w.heap.size) (hx : Ints w B a (lim m)) (hy : Ints w C b (lim n)) (hs : Sg s m) (ht : Sg t n)
    (hl : (lim m).length ≤ 1048576) (hl' : (lim n).length ≤ 1048576) (hc1 : (lim m).length ≤ c1) (hc2 : (lim n).length ≤ c2) :
    Calls Tryd.prog 52 #[.agg #[.int .i64 s, .slice a (lim m).length c1], .agg #[.int .i64 t, .slice b (lim n).length c2]] w (RetZ (s * m + t * n) w) := by

  obtain ⟨W0, hW0⟩ : ∃ W0 : World, ((w.alloc (.cells #[.int .i64 s, .slice a (lim m).length c1] 26)).alloc (.cells #[.int .i64 t, .slice b (lim n).length c2] 26)).alloc (.cells #[.int .i64 0, .slice none 0 0] 26) = W0 := ⟨_, rfl⟩
  obtain ⟨p1, p2, p5, p3, p4⟩ := three_box w 26 #[.int .i64 s, .slice a (lim m).length c1] #[.int .i64 t, .slice b (lim n).length c2] #[.int .i64 0, .slice none 0 0]
  rw [hW0] at p1 p2 p3 p4 p5
  have HW0 := Lib.hid hW0
  have P3 := Lib.hid p3
  have P4 := Lib.hid p4
  have SS := Lib.hid (show ∀ W, Below W0.heap.size W0 W → (W.cell? ⟨w.heap.size, 0, none⟩ = some (.int .i64 s) ∧ W.cell? ⟨w.heap.size, 1, none⟩ = some (.slice a (lim m).length c1) ∧ W.cell? ⟨w.heap.size + 1, 0, none⟩ = some (.int .i64 t) ∧ W.cell? ⟨w.heap.size + 1, 1, none⟩ = some (.slice b (lim n).length c2)) from
    fun W hW => ⟨(p1.below hW).cell 0, (p1.below hW).cell 1, (p2.below hW).cell 0, (p2.below hW).cell 1⟩)
  have SR := Lib.hid (show ∀ W, Below W0.heap.size W0 W → (W.cell? ⟨w.heap.size + 1 + 1, 0, none⟩ = some (.int .i64 0) ∧ W.cell? ⟨w.heap.size + 1 + 1, 1, none⟩ = some (.slice none 0 0) ∧ W.frozen? ⟨w.heap.size + 1 + 1, 0, none⟩ = false ∧ W.frozen? ⟨w.heap.size + 1 + 1, 1, none⟩ = false) from
    fun W hW => (p5.below hW).two)
  have ST := Lib.hid (show ∀ W u v, Below W0.heap.size W0 W → (fun W : World => W.cell? ⟨w.heap.size, 0, none⟩ = some (.int .i64 s) ∧ W.cell? ⟨w.heap.size, 1, none⟩ = some (.slice a (lim m).length c1) ∧ W.cell? ⟨w.heap.size + 1, 0, none⟩ = some (.int .i64 t) ∧ W.cell? ⟨w.heap.size + 1, 1, none⟩ = some (.slice b (lim n).length c2)) ((W.setCell ⟨w.heap.size + 1 + 1, 0, none⟩ u).setCell ⟨w.heap.size + 1 + 1, 1, none⟩ v) from fun W u v hW =>
    ⟨(((p1.below hW).far (by simp <;> omega) _).far (by simp <;> omega) _).cell 0, (((p1.below hW).far (by simp <;> omega) _).far (by simp <;> omega) _).cell 1, (((p2.below hW).far (by simp <;> omega) _).far (by simp <;> omega) _).cell 0, (((p2.below hW).far (by simp <;> omega) _).far (by simp <;> omega) _).cell 1⟩)
  have hT : Below W0.heap.size W0 W0 := Below.refl _ _
  have hT' : Below W0.heap.size W0 W0.drew := hT.drew
  have IX := Lib.hid (show ∀ W, Below W0.heap.size W0 W → Ints W B a (lim m) ∧ Ints W C b (lim n) ∧ B ≤ W.heap.size ∧ C ≤ W.heap.size from fun W hW => ⟨hx.below ((p3.mono hB).trans (hW.mono (by omega))), hy.below ((p3.mono hC).trans (hW.mono (by omega))), by have := hW.size; omega, by have := hW.size; omega⟩)
  have HMK := Lib.hid (show ∀ (s : Int) (v : Nat) (L : List Nat) (a : Option Addr) (c : Nat) W, VL W W0.heap.size L v a c → Below W0.heap.size W0 W → Calls Tryd.prog 96 #[.int .i64 s, .slice a L.length c] W fun e w' => ∃ a c, e = .returned (.agg #[.int .i64 (sgnOf s v), .slice a (lim v).length c]) ∧ (lim v).length ≤ c ∧ Own w' W0.heap.size a (lim v) ∧ Below W0.heap.size W0 w' from
    fun s v L a c W hV hW => by
      have := sMake s a L c W W.heap.size (Nat.le_refl _) hV.own.ints hV.small hV.fit (by have := hV.len; omega)
      rw [hV.value] at this
      exact this.mono fun e w' ⟨a, c, he, hc, ho, hb⟩ => ⟨a, c, he, hc, ho.mono hW.size, hW.trans (hb.mono hW.size)⟩)
  have HMA := Lib.hid (show ∀ W, Below W0.heap.size W0 W → Calls Tryd.prog 96 #[.int .i64 s, .slice a (lim m).length c1] W fun e w' => ∃ a c, e = .returned (.agg #[.int .i64 (sgnOf s m), .slice a (lim m).length c]) ∧ (lim m).length ≤ c ∧ Own w' W0.heap.size a (lim m) ∧ Below W0.heap.size W0 w' from
    fun W hW => (sMakeL s a m c1 W B (IX.out W hW).2.2.1 (IX.out W hW).1 hc1 (by omega)).mono fun e w' ⟨a, c, he, hc, ho, hb⟩ => ⟨a, c, he, hc, ho.mono hW.size, hW.trans (hb.mono hW.size)⟩)
  have HMB := Lib.hid (show ∀ W, Below W0.heap.size W0 W → Calls Tryd.prog 96 #[.int .i64 t, .slice b (lim n).length c2] W fun e w' => ∃ a c, e = .returned (.agg #[.int .i64 (sgnOf t n), .slice a (lim n).length c]) ∧ (lim n).length ≤ c ∧ Own w' W0.heap.size a (lim n) ∧ Below W0.heap.size W0 w' from
    fun W hW => (sMakeL t b n c2 W C (IX.out W hW).2.2.2 (IX.out W hW).2.1 hc2 (by omega)).mono fun e w' ⟨a, c, he, hc, ho, hb⟩ => ⟨a, c, he, hc, ho.mono hW.size, hW.trans (hb.mono hW.size)⟩)
  have HPL := Lib.hid (show ∀ W, Below W0.heap.size W0 W → Calls Tryd.prog 97 #[.slice a (lim m).length c1, .slice b (lim n).length c2] W fun e w' => ∃ (L : List Nat) (a : Option Addr) (c : Nat), e = .returned (.slice a L.length c) ∧ VL w' W0.heap.size L (m + n) a c ∧ Below W0.heap.size W0 w' from
    fun W hW => by
      have := sPlus a b (dig m) (dig n) c1 c2 W B C (IX.out W hW).2.2.1 (IX.out W hW).2.2.2 (IX.out W hW).1 (IX.out W hW).2.1 (small_dig m) (small_dig n) (by rw [← lim_length]; exact hl) (by rw [← lim_length]; exact hl')
      rw [val_dig, val_dig, ← lim_length, ← lim_length] at this
      exact this.mono fun e w' ⟨L, a, c, he, hv, hb⟩ => ⟨L, a, c, he, hv.mono hW.size, hW.trans (hb.mono hW.size)⟩)
  have HCM := Lib.hid (show ∀ W, Below W0.heap.size W0 W → Calls Tryd.prog 98 #[.slice a (lim m).length c1, .slice b (lim n).length c2] W fun e w' => e = .returned (.int .i64 (cmpZ m n)) ∧ Below W0.heap.size W0 w' from
    fun W hW => (sCompareLimbs a b m n c1 c2 W B C (IX.out W hW).1 (IX.out W hW).2.1 (by omega) (by omega)).mono fun e w' ⟨k, he, hb⟩ => ⟨he, by rw [hb]; exact below_drewN hW k⟩)
  have HM1 := Lib.hid (show n ≤ m → ∀ W, Below W0.heap.size W0 W → Calls Tryd.prog 99 #[.slice a (lim m).length c1, .slice b (lim n).length c2] W fun e w' => ∃ (L : List Nat) (a : Option Addr) (c : Nat), e = .returned (.slice a L.length c) ∧ VL w' W0.heap.size L (m - n) a c ∧ Below W0.heap.size W0 w' from
    fun hmn W hW => by
      have hle := lim_le_of_le hmn
      rw [lim_length, lim_length] at hle
      have := sMinus a b (dig m) (dig n) c1 c2 W B C (IX.out W hW).2.2.1 (IX.out W hW).2.2.2 (IX.out W hW).1 (IX.out W hW).2.1 (small_dig m) (small_dig n) (by rw [← lim_length]; exact hl) hle (by rw [val_dig, val_dig]; exact hmn)
      rw [val_dig, val_dig, ← lim_length, ← lim_length] at this
      exact this.mono fun e w' ⟨L, a, c, he, hv, hb⟩ => ⟨L, a, c, he, hv.mono hW.size, hW.trans (hb.mono hW.size)⟩)
  have HM2 := Lib.hid (show m ≤ n → ∀ W, Below W0.heap.size W0 W → Calls Tryd.prog 99 #[.slice b (lim n).length c2, .slice a (lim m).length c1] W fun e w' => ∃ (L : List Nat) (a : Option Addr) (c : Nat), e = .returned (.slice a L.length c) ∧ VL w' W0.heap.size L (n - m) a c ∧ Below W0.heap.size W0 w' from
    fun hmn W hW => by
      have hle := lim_le_of_le hmn
      rw [lim_length, lim_length] at hle
      have := sMinus b a (dig n) (dig m) c2 c1 W C B (IX.out W hW).2.2.2 (IX.out W hW).2.2.1 (IX.out W hW).2.1 (IX.out W hW).1 (small_dig n) (small_dig m) (by rw [← lim_length]; exact hl') hle (by rw [val_dig, val_dig]; exact hmn)
      rw [val_dig, val_dig, ← lim_length, ← lim_length] at this
      exact this.mono fun e w' ⟨L, a, c, he, hv, hb⟩ => ⟨L, a, c, he, hv.mono hW.size, hW.trans (hb.mono hW.size)⟩)
  clear p1 p2 p3 p4 p5 hx hy hl hl' hW0 hB hC IX hc1 hc2
  have HSG := Lib.hid hs
  have HTG := Lib.hid ht
  have hst : (-1 ≤ s ∧ s ≤ 1) ∧ (-1 ≤ t ∧ t ≤ 1) := by unfold Sg at hs ht; omega
  obtain ⟨⟨hs1, hs2⟩, ht1, ht2⟩ := hst
  clear hs ht
  by_cases hs0 : s = 0
  · subst hs0
    have hfin : sgnOf t n = ((0 : Int) * m + t * n).sign ∧ n = ((0 : Int) * m + t * n).natAbs := sgnOf_eq (by have := HTG.out; unfold Sg at this; omega) (by simp)
    have HF := Lib.hid hfin
    obtain ⟨z, hz⟩ : ∃ z, z = (0 : Int) * m + t * n := ⟨_, rfl⟩
    rw [← hz] at HF ⊢
    clear hfin hz
    go_enter Tryd.func52, Tryd.ntmps52
    go_wp2_with fail
    rw [HW0.out]
    refine (HMB.out _ hT).mono ?_
    rintro e w1 ⟨a', c', rfl, hc', ho', hb⟩
    have HC' := Lib.hid hc'
    have HO' := Lib.hid ho'
    clear hc' ho'
    obtain ⟨q1, q2, q3, q4⟩ := SR.out _ hb
    go_wp2_with fail
    refine bodyPost_ret (v := .agg #[.int .i64 (sgnOf t n), .slice a' (lim n).length c']) (by simp [results, Tryd.results52, go_sem, *]) rfl ?_
    exact retZ_end P3.out P4.out hb _ _ HO'.out HC'.out HF.out
  · have hsz : (s == 0) = false := by simpa using hs0
    by_cases ht0 : t = 0
    · subst ht0
      have hfin : sgnOf s m = (s * (m : Int) + (0 : Int) * n).sign ∧ m = (s * (m : Int) + (0 : Int) * n).natAbs := sgnOf_eq (by have := HSG.out; unfold Sg at this; omega) (by simp)
      have HF := Lib.hid hfin
      obtain ⟨z, hz⟩ : ∃ z, z = s * (m : Int) + (0 : Int) * n := ⟨_, rfl⟩
      rw [← hz] at HF ⊢
      clear hfin hz
      go_enter Tryd.func52, Tryd.ntmps52
      go_wp2_with fail
      rw [HW0.out]
      refine (HMA.out _ hT).mono ?_
      rintro e w1 ⟨a', c', rfl, hc', ho', hb⟩
      have HC' := Lib.hid hc'
      have HO' := Lib.hid ho'
      clear hc' ho'
      obtain ⟨q1, q2, q3, q4⟩ := SR.out _ hb
      go_wp2_with fail
      refine bodyPost_ret (v := .agg #[.int .i64 (sgnOf s m), .slice a' (lim m).length c']) (by simp [results, Tryd.results52, go_sem, *]) rfl ?_
      exact retZ_end P3.out P4.out hb _ _ HO'.out HC'.out HF.out
    · have htz : (t == 0) = false := by simpa using ht0
      by_cases hst : s = t
      · subst hst
        have hss : (s == s) = true := by simp
        have hfin : sgnOf s (m + n) = (s * (m : Int) + s * n).sign ∧ m + n = (s * (m : Int) + s * n).natAbs := sgnOf_eq (by omega) (by rw [Int.natCast_add, Int.mul_add])
        have HF := Lib.hid hfin
        obtain ⟨z, hz⟩ : ∃ z, z = s * (m : Int) + s * n := ⟨_, rfl⟩
        rw [← hz] at HF ⊢
        clear hfin hz
        go_enter Tryd.func52, Tryd.ntmps52
        go_wp2_with fail
        rw [HW0.out]
        go_region_held3 (fun W => W.cell? ⟨w.heap.size, 0, none⟩ = some (.int .i64 s) ∧ W.cell? ⟨w.heap.size, 1, none⟩ = some (.slice a (lim m).length c1) ∧ W.cell? ⟨w.heap.size + 1, 0, none⟩ = some (.int .i64 s) ∧ W.cell? ⟨w.heap.size + 1, 1, none⟩ = some (.slice b (lim n).length c2))
          (first | exact SS.out _ (by assumption) | exact ST.out _ _ _ (by assumption))
          (first
          | (go_at_call 97; refine (HPL.out _ (by assumption)).mono ?_; rintro e w' ⟨L, a', c', rfl, hV', hb⟩)
          | (go_at_call 96; refine (HMK.out _ _ _ _ _ _ (by assumption) (by assumption)).mono ?_; rintro e w' ⟨a', c', rfl, hc', ho', hb⟩; obtain ⟨q1, q2, q3, q4⟩ := SR.out _ hb))
        go_wp2_with fail
        refine bodyPost_ret (v := .agg #[.int .i64 (sgnOf s (m + n)), .slice a' (lim (m + n)).length c']) (by simp [results, Tryd.results52, go_sem, *]) rfl ?_
        exact retZ_end P3.out P4.out (by assumption) _ _ (by assumption) (by assumption) HF.out
      · have hss : (s == t) = false := by simpa using hst
        by_cases hmn : m < n
        · have hq := cmpZ_lt (x := (m : Int)) (y := n) (by omega)
          rw [hq] at HCM
          clear hq
          have HMM := Lib.hid (HM2.out (by omega))
          have hfin : sgnOf t (n - m) = (s * (m : Int) + t * n).sign ∧ n - m = (s * (m : Int) + t * n).natAbs := by
            refine sgnOf_eq (by omega) ?_
            rw [Int.natCast_sub (by omega)]
            have : (s = 1 ∧ t = -1) ∨ (s = -1 ∧ t = 1) := by omega
            rcases this with ⟨rfl, rfl⟩ | ⟨rfl, rfl⟩ <;> omega
          have HF := Lib.hid hfin
          obtain ⟨z, hz⟩ : ∃ z, z = s * (m : Int) + t * n := ⟨_, rfl⟩
          rw [← hz] at HF ⊢
          clear hfin hz hmn
          go_enter Tryd.func52, Tryd.ntmps52
          go_wp2_with fail
          rw [HW0.out]
          refine (HCM.out _ hT).mono ?_
          rintro e w1 ⟨rfl, hb⟩
          obtain ⟨k1, k2, k3, k4⟩ := SS.out _ hb
          have hbd := Below.drew hb
          go_wp2_with fail
          clear k1 k2 k3 k4
          go_region_held3 (fun W => W.cell? ⟨w.heap.size, 0, none⟩ = some (.int .i64 s) ∧ W.cell? ⟨w.heap.size, 1, none⟩ = some (.slice a (lim m).length c1) ∧ W.cell? ⟨w.heap.size + 1, 0, none⟩ = some (.int .i64 t) ∧ W.cell? ⟨w.heap.size + 1, 1, none⟩ = some (.slice b (lim n).length c2))
            (first | exact SS.out _ (by assumption) | exact ST.out _ _ _ (by assumption))
            (first
            | (go_at_call 99; refine (HMM.out _ (by assumption)).mono ?_; rintro e w' ⟨L, a', c', rfl, hV', hb⟩)
            | (go_at_call 96; refine (HMK.out _ _ _ _ _ _ (by assumption) (by assumption)).mono ?_; rintro e w' ⟨a', c', rfl, hc', ho', hb⟩; obtain ⟨q1, q2, q3, q4⟩ := SR.out _ hb))
          go_wp2_with fail
          refine bodyPost_ret (v := .agg #[.int .i64 (sgnOf t (n - m)), .slice a' (lim (n - m)).length c']) (by simp [results, Tryd.results52, go_sem, *]) rfl ?_
          exact retZ_end P3.out P4.out (by assumption) _ _ (by assumption) (by assumption) HF.out
        · have hq : ∃ q : Int, q = cmpZ m n ∧ 0 ≤ q ∧ q ≤ 1 := ⟨_, rfl, by unfold cmpZ; repeat' split <;> omega, by unfold cmpZ; repeat' split <;> omega⟩
          obtain ⟨q, hq, hq0, hq1⟩ := hq
          rw [← hq] at HCM
          clear hq
          have HMM := Lib.hid (HM1.out (by omega))
          have hfin : sgnOf s (m - n) = (s * (m : Int) + t * n).sign ∧ m - n = (s * (m : Int) + t * n).natAbs := by
            refine sgnOf_eq (by omega) ?_
            rw [Int.natCast_sub (by omega)]
            have : (s = 1 ∧ t = -1) ∨ (s = -1 ∧ t = 1) := by omega
            rcases this with ⟨rfl, rfl⟩ | ⟨rfl, rfl⟩ <;> omega
          have HF := Lib.hid hfin
          obtain ⟨z, hz⟩ : ∃ z, z = s * (m : Int) + t * n := ⟨_, rfl⟩
          rw [← hz] at HF ⊢
          clear hfin hz hmn
          go_enter Tryd.func52, Tryd.ntmps52
          go_wp2_with fail
          rw [HW0.out]
          refine (HCM.out _ hT).mono ?_
          rintro e w1 ⟨rfl, hb⟩
          obtain ⟨k1, k2, k3, k4⟩ := SS.out _ hb
          have hbd := Below.drew hb
          go_wp2_with fail
          clear k1 k2 k3 k4
          go_region_held3 (fun W => W.cell? ⟨w.heap.size, 0, none⟩ = some (.int .i64 s) ∧ W.cell? ⟨w.heap.size, 1, none⟩ = some (.slice a (lim m).length c1) ∧ W.cell? ⟨w.heap.size + 1, 0, none⟩ = some (.int .i64 t) ∧ W.cell? ⟨w.heap.size + 1, 1, none⟩ = some (.slice b (lim n).length c2))
            (first | exact SS.out _ (by assumption) | exact ST.out _ _ _ (by assumption))
            (first
            | (go_at_call 99; refine (HMM.out _ (by assumption)).mono ?_; rintro e w' ⟨L, a', c', rfl, hV', hb⟩)
            | (go_at_call 96; refine (HMK.out _ _ _ _ _ _ (by assumption) (by assumption)).mono ?_; rintro e w' ⟨a', c', rfl, hc', ho', hb⟩; obtain ⟨q1, q2, q3, q4⟩ := SR.out _ hb))
          go_wp2_with fail
          refine bodyPost_ret (v := .agg #[.int .i64 (sgnOf s (m - n)), .slice a' (lim (m - n)).length c']) (by simp [results, Tryd.results52, go_sem, *]) rfl ?_
          exact retZ_end P3.out P4.out (by assumption) _ _ (by assumption) (by assumption) HF.out
end Go.Proofs.YtfjfmlofhifkmaaDoor
