/-
  Contracts: sums and differences of whole numbers. Conditions: the limbs can be read.
-/
import Derived.Test.YtfjfmlofhifkmaaDoorMq
namespace Go.Proofs.YtfjfmlofhifkmaaDoor
set_option linter.unusedVariables false
open Go Go.RowKit

theorem Sg.of (z : Int) : Sg z.sign z.natAbs := by
  unfold Sg
  rcases Int.lt_trichotomy z 0 with h | h | h
  · right; exact ⟨by omega, .inr (Int.sign_eq_neg_one_of_neg h)⟩
  · left; subst h; exact ⟨rfl, rfl⟩
  · right; exact ⟨by omega, .inl (Int.sign_eq_one_of_pos h)⟩
theorem Sg.mul (z : Int) : z.sign * (z.natAbs : Int) = z := Int.sign_mul_natAbs z
theorem Sg.eq {s z : Int} {n : Nat} (h : Sg s n) (e : s * n = z) : s = z.sign ∧ n = z.natAbs := by
  subst e
  unfold Sg at h
  rcases h with ⟨rfl, rfl⟩ | ⟨h, rfl | rfl⟩
  · exact ⟨rfl, rfl⟩
  · exact ⟨by rw [Int.one_mul]; exact (Int.sign_eq_one_of_pos (by omega)).symm, by omega⟩
  · exact ⟨(Int.sign_eq_neg_one_of_neg (by omega)).symm, by omega⟩
theorem sgnOf_eq {s z : Int} {n : Nat} (hs : s = 1 ∨ s = -1 ∨ n = 0) (e : s * n = z) : sgnOf s n = z.sign ∧ n = z.natAbs := by
  have h : Sg (sgnOf s n) n := by
    unfold Sg
    by_cases h0 : n = 0
    · left; subst h0; exact ⟨rfl, sgnOf_zero s⟩
    · right; rw [sgnOf_pos h0]; exact ⟨h0, by omega⟩
  refine h.eq ?_
  by_cases h0 : n = 0
  · subst h0; rw [sgnOf_zero]; rw [← e]; simp
  · rw [sgnOf_pos h0]; exact e
/-- The call returned the whole number z in new memory. -/
def RetZ (z : Int) (w : World) (e : Ending) (w' : World) : Prop := ∃ a c, e = .returned (.agg #[.int .i64 z.sign, .slice a (lim z.natAbs).length c]) ∧ (lim z.natAbs).length ≤ c ∧ Own w' w.heap.size a (lim z.natAbs) ∧ Below w.heap.size w w'

theorem three_box (w : World) (t : TypeId) (p q r : Array Value) : BoxAt (((w.alloc (.cells p t)).alloc (.cells q t)).alloc (.cells r t)) w.heap.size t p ∧ BoxAt (((w.alloc (.cells p t)).alloc (.cells q t)).alloc (.cells r t)) (w.heap.size + 1) t q ∧
    BoxAt (((w.alloc (.cells p t)).alloc (.cells q t)).alloc (.cells r t)) (w.heap.size + 2) t r ∧ Below w.heap.size w (((w.alloc (.cells p t)).alloc (.cells q t)).alloc (.cells r t)) ∧ (((w.alloc (.cells p t)).alloc (.cells q t)).alloc (.cells r t)).heap.size = w.heap.size + 3 := by
  obtain ⟨h1, h2, h3, h4⟩ := two_box w t p q
  refine ⟨h1.alloc _, h2.alloc _, ?_, h3.alloc (by omega) _, by simp⟩
  have := BoxAt.new ((w.alloc (.cells p t)).alloc (.cells q t)) t r
  simpa using this

set_option maxHeartbeats 400000 in
theorem iOr (s t : Int) (g : Nat) (c : Nat) (w : World) (h0 : w.cell? ⟨g, 0, none⟩ = some (.int .i64 s)) (h1 : w.cell? ⟨g, 1, none⟩ = some (.int .i64 t)) :
    Calls Tryd.prog 108 #[.slice (some ⟨g, 0, none⟩) 2 c] w fun e w' => e = .returned (.int .i64 (if s = 0 then t else s)) ∧ w = w' := by
  by_cases hs : s = 0
  · rw [if_pos hs]
    subst hs
    by_cases ht : t = 0
    · subst ht
      go_enter Tryd.func108, Tryd.ntmps108
      go_wp2
      refine wp_loop_rounds 3 ?_
      rw [rounds_succ]
      go_wp2
      rw [rounds_succ]
      go_wp2
      rw [rounds_succ]
      go_wp2
      go_ret
      exact ⟨rfl, rfl⟩
    · have hz : (t != 0) = true := by simpa using ht
      go_enter Tryd.func108, Tryd.ntmps108
      go_wp2
      refine wp_loop_rounds 2 ?_
      rw [rounds_succ]
      go_wp2
      rw [rounds_succ]
      go_wp2
      go_ret
      exact ⟨rfl, rfl⟩
  · rw [if_neg hs]
    have hz : (s != 0) = true := by simpa using hs
    go_enter Tryd.func108, Tryd.ntmps108
    go_wp2
    refine wp_loop_rounds 1 ?_
    rw [rounds_succ]
    go_wp2
    go_ret
    exact ⟨rfl, rfl⟩

/-- What a method with a result leaves. -/
theorem retZ_end {w W0 W : World} {z : Int} {a : Option Addr} {c : Nat} {s : Int} {k : Nat} (P3 : Below w.heap.size w W0) (P4 : W0.heap.size = w.heap.size + 3) (hb : Below W0.heap.size W0 W) (u v : Value) (ho : Own W W0.heap.size a (lim k)) (hc : (lim k).length ≤ c) (hs : s = z.sign ∧ k = z.natAbs) :
    RetZ z w (.returned (.agg #[.int .i64 s, .slice a (lim k).length c])) ((W.setCell ⟨w.heap.size + 1 + 1, 0, none⟩ u).setCell ⟨w.heap.size + 1 + 1, 1, none⟩ v) := by
  obtain ⟨rfl, rfl⟩ := hs
  exact ⟨a, c, rfl, hc, ((ho.setFar (by simp; omega) _).setFar (by simp; omega) _).mono (by omega), ((P3.trans (hb.mono (by omega))).setCell (by simp <;> omega) _).setCell (by simp <;> omega) _⟩

set_option maxHeartbeats 2000000 in
theorem iPlus (s t : Int) (a b : Option Addr) (m n c1 c2 : Nat) (w : World) (B C : Nat) (hB : B ≤ w.heap.size) (hC : C ≤ w.heap.size) (hx : Ints w B a (lim m)) (hy : Ints w C b (lim n)) (hs : Sg s m) (ht : Sg t n)
    (hl : (lim m).length ≤ 1048576) (hl' : (lim n).length ≤ 1048576) :
    Calls Tryd.prog 64 #[.agg #[.int .i64 s, .slice a (lim m).length c1], .agg #[.int .i64 t, .slice b (lim n).length c2]] w (RetZ (s * m + t * n) w) := by

  obtain ⟨W0, hW0⟩ : ∃ W0 : World, ((w.alloc (.cells #[.int .i64 s, .slice a (lim m).length c1] 26)).alloc (.cells #[.int .i64 t, .slice b (lim n).length c2] 26)).alloc (.cells #[.int .i64 0, .slice none 0 0] 26) = W0 := ⟨_, rfl⟩
  obtain ⟨p1, p2, p5, p3, p4⟩ := three_box w 26 #[.int .i64 s, .slice a (lim m).length c1] #[.int .i64 t, .slice b (lim n).length c2] #[.int .i64 0, .slice none 0 0]
  rw [hW0] at p1 p2 p3 p4 p5
  have HW0 := Lib.hid hW0
  have P3 := Lib.hid p3
  have P4 := Lib.hid p4
  have SS := Lib.hid (show ∀ W, Below W0.heap.size W0 W → (W.cell? ⟨w.heap.size, 0, none⟩ = some (.int .i64 s) ∧ W.cell? ⟨w.heap.size, 1, none⟩ = some (.slice a (lim m).length c1) ∧ W.cell? ⟨w.heap.size + 1, 0, none⟩ = some (.int .i64 t) ∧ W.cell? ⟨w.heap.size + 1, 1, none⟩ = some (.slice b (lim n).length c2)) from
    fun W hW => ⟨(p1.below hW).cell 0, (p1.below hW).cell 1, (p2.below hW).cell 0, (p2.below hW).cell 1⟩)
  have SR := Lib.hid (show ∀ W, Below W0.heap.size W0 W → (W.cell? ⟨w.heap.size + 1 + 1, 0, none⟩ = some (.int .i64 0) ∧ W.cell? ⟨w.heap.size + 1 + 1, 1, none⟩ = some (.slice none 0 0) ∧ W.frozen? ⟨w.heap.size + 1 + 1, 0, none⟩ = false ∧ W.frozen? ⟨w.heap.size + 1 + 1, 1, none⟩ = false) from
    fun W hW => (p5.below hW).two)
  have ST := Lib.hid (show ∀ W u v, Below W0.heap.size W0 W → (fun W : World => W.cell? ⟨w.heap.size, 0, none⟩ = some (.int .i64 s) ∧ W.cell? ⟨w.heap.size, 1, none⟩ = some (.slice a (lim m).length c1) ∧ W.cell? ⟨w.heap.size + 1, 0, none⟩ = some (.int .i64 t) ∧ W.cell? ⟨w.heap.size + 1, 1, none⟩ = some (.slice b (lim n).length c2)) ((W.setCell ⟨w.heap.size + 1 + 1, 0, none⟩ u).setCell ⟨w.heap.size + 1 + 1, 1, none⟩ v) from fun W u v hW =>
    ⟨(((p1.below hW).far (by simp <;> omega) _).far (by simp <;> omega) _).cell 0, (((p1.below hW).far (by simp <;> omega) _).far (by simp <;> omega) _).cell 1, (((p2.below hW).far (by simp <;> omega) _).far (by simp <;> omega) _).cell 0, (((p2.below hW).far (by simp <;> omega) _).far (by simp <;> omega) _).cell 1⟩)
  have HS := Lib.hid (show ∀ (s : Int) (a : Option Addr) (n c : Nat) W, Below W0.heap.size W0 W → Calls Tryd.prog 57 #[.agg #[.int .i64 s, .slice a n c]] W fun e w' => e = .returned (.slice a n c) ∧ Below W0.heap.size W0 w' from
    fun s a n c W hW => (iSize s a n c W).mono fun e w' ⟨he, hb⟩ => ⟨he, hW.trans (hb.mono hW.size)⟩)
  have HG := Lib.hid (show ∀ (s : Int) (k : Nat) (a : Option Addr) (c : Nat) W, (lim k).length ≤ c → Own W W0.heap.size a (lim k) → Below W0.heap.size W0 W → Calls Tryd.prog 56 #[.int .i64 s, .slice a (lim k).length c] W fun e w' => ∃ a c, e = .returned (.agg #[.int .i64 (sgnOf s k), .slice a (lim k).length c]) ∧ (lim k).length ≤ c ∧ Own w' W0.heap.size a (lim k) ∧ Below W0.heap.size W0 w' from
    fun s k a c W h1 h2 hW => (iSigned s k a c W W0.heap.size h1 h2).mono fun e w' ⟨a, c, he, hc, ho, hb⟩ => ⟨a, c, he, hc, ho, hW.trans (hb.mono hW.size)⟩)
  have hT : Below W0.heap.size W0 W0 := Below.refl _ _
  have hT' : Below W0.heap.size W0 W0.drew := hT.drew
  have IX := Lib.hid (show ∀ W, Below W0.heap.size W0 W → Ints W B a (lim m) ∧ Ints W C b (lim n) ∧ B ≤ W.heap.size ∧ C ≤ W.heap.size from fun W hW => ⟨hx.below ((p3.mono hB).trans (hW.mono (by omega))), hy.below ((p3.mono hC).trans (hW.mono (by omega))), by have := hW.size; omega, by have := hW.size; omega⟩)
  have HPL := Lib.hid (show ∀ W, Below W0.heap.size W0 W → Calls Tryd.prog 101 #[.slice a (lim m).length c1, .slice b (lim n).length c2] W fun e w' => ∃ a c, e = .returned (.slice a (lim (m + n)).length c) ∧ (lim (m + n)).length ≤ c ∧ Own w' W0.heap.size a (lim (m + n)) ∧ Below W0.heap.size W0 w' from
    fun W hW => (iMagPlus a b m n c1 c2 W B C (IX.out W hW).2.2.1 (IX.out W hW).2.2.2 (IX.out W hW).1 (IX.out W hW).2.1 hl hl').mono fun e w' ⟨a, c, he, hc, ho, hb⟩ => ⟨a, c, he, hc, ho.mono hW.size, hW.trans (hb.mono hW.size)⟩)
  have HCM := Lib.hid (show ∀ W, Below W0.heap.size W0 W → Calls Tryd.prog 103 #[.slice a (lim m).length c1, .slice b (lim n).length c2] W fun e w' => e = .returned (.int .i64 (cmpZ m n)) ∧ Below W0.heap.size W0 w' from
    fun W hW => (iMagCompare a b m n c1 c2 W B C (IX.out W hW).1 (IX.out W hW).2.1 (by omega) (by omega)).mono fun e w' ⟨k, he, hb⟩ => ⟨he, by rw [hb]; exact below_drewN hW k⟩)
  have HM1 := Lib.hid (show n ≤ m → ∀ W, Below W0.heap.size W0 W → Calls Tryd.prog 109 #[.slice a (lim m).length c1, .slice b (lim n).length c2] W fun e w' => ∃ a c, e = .returned (.slice a (lim (m - n)).length c) ∧ (lim (m - n)).length ≤ c ∧ Own w' W0.heap.size a (lim (m - n)) ∧ Below W0.heap.size W0 w' from
    fun hmn W hW => (iMagMinus a b m n c1 c2 W B C (IX.out W hW).2.2.1 (IX.out W hW).2.2.2 (IX.out W hW).1 (IX.out W hW).2.1 hl hmn).mono fun e w' ⟨a, c, he, hc, ho, hb⟩ => ⟨a, c, he, hc, ho.mono hW.size, hW.trans (hb.mono hW.size)⟩)
  have HM2 := Lib.hid (show m ≤ n → ∀ W, Below W0.heap.size W0 W → Calls Tryd.prog 109 #[.slice b (lim n).length c2, .slice a (lim m).length c1] W fun e w' => ∃ a c, e = .returned (.slice a (lim (n - m)).length c) ∧ (lim (n - m)).length ≤ c ∧ Own w' W0.heap.size a (lim (n - m)) ∧ Below W0.heap.size W0 w' from
    fun hmn W hW => (iMagMinus b a n m c2 c1 W C B (IX.out W hW).2.2.2 (IX.out W hW).2.2.1 (IX.out W hW).2.1 (IX.out W hW).1 hl' hmn).mono fun e w' ⟨a, c, he, hc, ho, hb⟩ => ⟨a, c, he, hc, ho.mono hW.size, hW.trans (hb.mono hW.size)⟩)
  have hT1 : Below W0.heap.size W0 (W0.drew.alloc (.cells #[.int .i64 s, .int .i64 t] 2)) := hT'.alloc (by simp) _
  have hT2 : Below W0.heap.size W0 (W0.alloc (.cells #[.int .i64 s, .int .i64 t] 2)).drew := (hT.alloc (by simp) _).drew
  clear p1 p2 p3 p4 p5 hx hy hl hl' hW0 hB hC IX
  have HSG := Lib.hid hs
  have HTG := Lib.hid ht
  have hst : (-1 ≤ s ∧ s ≤ 1) ∧ (-1 ≤ t ∧ t ≤ 1) := by unfold Sg at hs ht; omega
  obtain ⟨⟨hs1, hs2⟩, ht1, ht2⟩ := hst
  clear hs ht
  by_cases hge : 0 ≤ s * t
  · have hwr : IntKind.i64.wrap (s * t) = s * t := by
      have h1 : s = -1 ∨ s = 0 ∨ s = 1 := by omega
      rw [IntKind.wrap_i64]
      rcases h1 with rfl | rfl | rfl <;> omega
    have hor := fun (g c : Nat) (W : World) => iOr s t g c W
    have HOR := Lib.hid hor
    clear hor
    obtain ⟨r, hr⟩ : ∃ r, r = if s = 0 then t else s := ⟨_, rfl⟩
    rw [← hr] at HOR
    have hfin : sgnOf r (m + n) = (s * m + t * n).sign ∧ m + n = (s * m + t * n).natAbs := by
      refine sgnOf_eq ?_ ?_
      · rw [hr]
        have h1 := HSG.out; have h2 := HTG.out
        unfold Sg at h1 h2
        split <;> omega
      · rw [hr]
        have h1 := HSG.out; have h2 := HTG.out
        unfold Sg at h1 h2
        rcases h1 with ⟨rfl, rfl⟩ | ⟨h1, rfl | rfl⟩ <;> rcases h2 with ⟨rfl, rfl⟩ | ⟨h2, rfl | rfl⟩ <;> simp at hge ⊢ <;> omega
    have HF := Lib.hid hfin
    clear hfin hr
    go_enter Tryd.func64, Tryd.ntmps64
    go_wp2_with fail
    rw [HW0.out]
    go_region_held3 (fun W => W.cell? ⟨w.heap.size, 0, none⟩ = some (.int .i64 s) ∧ W.cell? ⟨w.heap.size, 1, none⟩ = some (.slice a (lim m).length c1) ∧ W.cell? ⟨w.heap.size + 1, 0, none⟩ = some (.int .i64 t) ∧ W.cell? ⟨w.heap.size + 1, 1, none⟩ = some (.slice b (lim n).length c2))
      (first | exact SS.out _ (by assumption) | exact ST.out _ _ _ (by assumption))
      (first
      | (go_at_call 57; refine (HS.out _ _ _ _ _ (by assumption)).mono ?_; rintro e w' ⟨rfl, hb⟩)
      | (go_at_call 108; refine (HOR.out _ _ _ (by simp) (by simp)).mono ?_; rintro e w' ⟨rfl, rfl⟩)
      | (go_at_call 101; refine (HPL.out _ (by assumption)).mono ?_; rintro e w' ⟨a', c', rfl, hc', ho', hb⟩)
      | (go_at_call 56; refine (HG.out _ _ _ _ _ (by assumption) (by assumption) (by assumption)).mono ?_; rintro e w' ⟨a', c', rfl, hc', ho', hb⟩; obtain ⟨q1, q2, q3, q4⟩ := SR.out _ hb))
    all_goals
      go_wp2_with fail
      refine bodyPost_ret (v := .agg #[.int .i64 (sgnOf r (m + n)), .slice a' (lim (m + n)).length c']) (by simp [results, Tryd.results64, go_sem, *]) rfl ?_
      exact retZ_end P3.out P4.out (by assumption) _ _ (by assumption) (by assumption) HF.out
  · have hwr : IntKind.i64.wrap (s * t) = s * t := by
      have h1 : s = -1 ∨ s = 0 ∨ s = 1 := by omega
      rw [IntKind.wrap_i64]
      rcases h1 with rfl | rfl | rfl <;> omega
    have hdge : decide (0 ≤ s * t) = false := decide_eq_false hge
    have hst2 : (s = 1 ∧ t = -1 ∨ s = -1 ∧ t = 1) := by
      have h1 : s = -1 ∨ s = 0 ∨ s = 1 := by omega
      have h2 : t = -1 ∨ t = 0 ∨ t = 1 := by omega
      rcases h1 with rfl | rfl | rfl <;> rcases h2 with rfl | rfl | rfl <;> simp at hge ⊢
    have HST := Lib.hid hst2
    clear hst2 hge
    by_cases hmn : m < n
    · rw [cmpZ_lt (by omega)] at HCM
      have HMM := Lib.hid (HM2.out (by omega))
      have hfin : sgnOf t (n - m) = (s * m + t * n).sign ∧ n - m = (s * m + t * n).natAbs := by
        have h1 := HST.out
        refine sgnOf_eq (by omega) ?_
        rw [Int.natCast_sub (by omega)]
        rcases h1 with ⟨rfl, rfl⟩ | ⟨rfl, rfl⟩ <;> omega
      have HF := Lib.hid hfin
      clear hfin hmn
      go_enter Tryd.func64, Tryd.ntmps64
      go_wp2_with fail
      rw [HW0.out]
      go_region_held3 (fun W => W.cell? ⟨w.heap.size, 0, none⟩ = some (.int .i64 s) ∧ W.cell? ⟨w.heap.size, 1, none⟩ = some (.slice a (lim m).length c1) ∧ W.cell? ⟨w.heap.size + 1, 0, none⟩ = some (.int .i64 t) ∧ W.cell? ⟨w.heap.size + 1, 1, none⟩ = some (.slice b (lim n).length c2))
        (first | exact SS.out _ (by assumption) | exact ST.out _ _ _ (by assumption))
        (first
        | (go_at_call 57; refine (HS.out _ _ _ _ _ (by assumption)).mono ?_; rintro e w' ⟨rfl, hb⟩)
        | (go_at_call 103; refine (HCM.out _ (by assumption)).mono ?_; rintro e w' ⟨rfl, hb⟩)
        | (go_at_call 56; refine (HG.out _ _ _ _ _ (by assumption) (by assumption) (by assumption)).mono ?_; rintro e w' ⟨a', c', rfl, hc', ho', hb⟩; obtain ⟨q1, q2, q3, q4⟩ := SR.out _ hb))
      have hbd := Below.drew hb
      go_wp2_with fail
      go_region_held3 (fun W => W.cell? ⟨w.heap.size, 0, none⟩ = some (.int .i64 s) ∧ W.cell? ⟨w.heap.size, 1, none⟩ = some (.slice a (lim m).length c1) ∧ W.cell? ⟨w.heap.size + 1, 0, none⟩ = some (.int .i64 t) ∧ W.cell? ⟨w.heap.size + 1, 1, none⟩ = some (.slice b (lim n).length c2))
        (first | exact SS.out _ (by assumption) | exact ST.out _ _ _ (by assumption))
        (first
        | (go_at_call 57; refine (HS.out _ _ _ _ _ (by assumption)).mono ?_; rintro e w' ⟨rfl, hb⟩)
        | (go_at_call 109; refine (HMM.out _ (by assumption)).mono ?_; rintro e w' ⟨a', c', rfl, hc', ho', hb⟩)
        | (go_at_call 56; refine (HG.out _ _ _ _ _ (by assumption) (by assumption) (by assumption)).mono ?_; rintro e w' ⟨a', c', rfl, hc', ho', hb⟩; obtain ⟨q1, q2, q3, q4⟩ := SR.out _ hb))
      go_wp2_with fail
      refine bodyPost_ret (v := .agg #[.int .i64 (sgnOf t (n - m)), .slice a' (lim (n - m)).length c']) (by simp [results, Tryd.results64, go_sem, *]) rfl ?_
      exact retZ_end P3.out P4.out (by assumption) _ _ (by assumption) (by assumption) HF.out
    · have hq : ∃ q : Int, q = cmpZ m n ∧ 0 ≤ q ∧ q ≤ 1 := ⟨_, rfl, by unfold cmpZ; repeat' split <;> omega, by unfold cmpZ; repeat' split <;> omega⟩
      obtain ⟨q, hq, hq0, hq1⟩ := hq
      rw [← hq] at HCM
      clear hq
      have hdq : decide (q < 0) = false := decide_eq_false (by omega)
      have HMM := Lib.hid (HM1.out (by omega))
      have hfin : sgnOf s (m - n) = (s * m + t * n).sign ∧ m - n = (s * m + t * n).natAbs := by
        have h1 := HST.out
        refine sgnOf_eq (by omega) ?_
        rw [Int.natCast_sub (by omega)]
        rcases h1 with ⟨rfl, rfl⟩ | ⟨rfl, rfl⟩ <;> omega
      have HF := Lib.hid hfin
      clear hfin hmn
      go_enter Tryd.func64, Tryd.ntmps64
      go_wp2_with fail
      rw [HW0.out]
      go_region_held3 (fun W => W.cell? ⟨w.heap.size, 0, none⟩ = some (.int .i64 s) ∧ W.cell? ⟨w.heap.size, 1, none⟩ = some (.slice a (lim m).length c1) ∧ W.cell? ⟨w.heap.size + 1, 0, none⟩ = some (.int .i64 t) ∧ W.cell? ⟨w.heap.size + 1, 1, none⟩ = some (.slice b (lim n).length c2))
        (first | exact SS.out _ (by assumption) | exact ST.out _ _ _ (by assumption))
        (first
        | (go_at_call 57; refine (HS.out _ _ _ _ _ (by assumption)).mono ?_; rintro e w' ⟨rfl, hb⟩)
        | (go_at_call 103; refine (HCM.out _ (by assumption)).mono ?_; rintro e w' ⟨rfl, hb⟩)
        | (go_at_call 56; refine (HG.out _ _ _ _ _ (by assumption) (by assumption) (by assumption)).mono ?_; rintro e w' ⟨a', c', rfl, hc', ho', hb⟩; obtain ⟨q1, q2, q3, q4⟩ := SR.out _ hb))
      have hbd := Below.drew hb
      go_wp2_with fail
      go_region_held3 (fun W => W.cell? ⟨w.heap.size, 0, none⟩ = some (.int .i64 s) ∧ W.cell? ⟨w.heap.size, 1, none⟩ = some (.slice a (lim m).length c1) ∧ W.cell? ⟨w.heap.size + 1, 0, none⟩ = some (.int .i64 t) ∧ W.cell? ⟨w.heap.size + 1, 1, none⟩ = some (.slice b (lim n).length c2))
        (first | exact SS.out _ (by assumption) | exact ST.out _ _ _ (by assumption))
        (first
        | (go_at_call 57; refine (HS.out _ _ _ _ _ (by assumption)).mono ?_; rintro e w' ⟨rfl, hb⟩)
        | (go_at_call 109; refine (HMM.out _ (by assumption)).mono ?_; rintro e w' ⟨a', c', rfl, hc', ho', hb⟩)
        | (go_at_call 56; refine (HG.out _ _ _ _ _ (by assumption) (by assumption) (by assumption)).mono ?_; rintro e w' ⟨a', c', rfl, hc', ho', hb⟩; obtain ⟨q1, q2, q3, q4⟩ := SR.out _ hb))
      go_wp2_with fail
      refine bodyPost_ret (v := .agg #[.int .i64 (sgnOf s (m - n)), .slice a' (lim (m - n)).length c']) (by simp [results, Tryd.results64, go_sem, *]) rfl ?_
      exact retZ_end P3.out P4.out (by assumption) _ _ (by assumption) (by assumption) HF.out
end Go.Proofs.YtfjfmlofhifkmaaDoor
