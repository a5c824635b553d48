/-
  Contracts of the model: AddWholes, SubtractWholes. Conditions: the limbs can be read. Contracts of the model: AddWholes, SubtractWholes. Conditions: the limbs can be read.
-/
import Derived.Test.YtiohacnkiikmcaaDoorTd
namespace Go.Proofs.YtiohacnkiikmcaaDoor
set_option linter.unusedVariables false
open Go Go.RowKit

noncomputable def bothR (s : Int) (xs : List Int) (t : Int) (ys : List Int) : Int := @ite _ (IsWh s xs ∧ IsWh t ys) (Classical.propDecidable _) 0 1
theorem bothR_yes {s : Int} {xs : List Int} {t : Int} {ys : List Int} (h : IsWh s xs) (k : IsWh t ys) : bothR s xs t ys = 0 := by unfold bothR; rw [if_pos ⟨h, k⟩]
theorem bothR_no {s : Int} {xs : List Int} {t : Int} {ys : List Int} (h : ¬ (IsWh s xs ∧ IsWh t ys)) : bothR s xs t ys = 1 := by unfold bothR; rw [if_neg h]

/-! How long sums and products are -/
theorem lim_add_len (m n : Nat) : (lim (m + n)).length ≤ max (lim m).length (lim n).length + 1 := by
  rw [lim_length, lim_length, lim_length]
  refine dig_length_le ?_
  have h1 := dig_lt m
  have h2 := dig_lt n
  have h3 : 16777216 ^ (dig m).length ≤ 16777216 ^ (max (dig m).length (dig n).length) := Nat.pow_le_pow_right (by omega) (by omega)
  have h4 : 16777216 ^ (dig n).length ≤ 16777216 ^ (max (dig m).length (dig n).length) := Nat.pow_le_pow_right (by omega) (by omega)
  rw [Nat.pow_succ]
  omega
theorem lim_mul_len (m n : Nat) : (lim (m * n)).length ≤ (lim m).length + (lim n).length := by
  rw [lim_length, lim_length, lim_length]
  refine dig_length_le ?_
  rw [Nat.pow_add]
  exact Nat.mul_lt_mul'' (dig_lt m) (dig_lt n)
theorem Sg.abs {s : Int} {n : Nat} (h : Sg s n) : (s * (n : Int)).natAbs = n := by
  unfold Sg at h
  rcases h with ⟨rfl, rfl⟩ | ⟨_, rfl | rfl⟩ <;> omega
theorem len_add {s t : Int} {m n : Nat} (hs : Sg s m) (ht : Sg t n) (hm : (lim m).length ≤ 200) (hn : (lim n).length ≤ 200) : (lim (s * (m : Int) + t * n).natAbs).length ≤ 1048576 := by
  have h1 := lim_le_of_le (Int.natAbs_add_le (s * (m : Int)) (t * n))
  rw [hs.abs, ht.abs] at h1
  have := lim_add_len m n
  omega
theorem len_sub {s t : Int} {m n : Nat} (hs : Sg s m) (ht : Sg t n) (hm : (lim m).length ≤ 200) (hn : (lim n).length ≤ 200) : (lim (s * (m : Int) - t * n).natAbs).length ≤ 1048576 := by
  have h0 : (s * (m : Int) - t * n).natAbs ≤ (s * (m : Int)).natAbs + (t * (n : Int)).natAbs := by omega
  have h1 := lim_le_of_le h0
  rw [hs.abs, ht.abs] at h1
  have := lim_add_len m n
  omega

set_option maxHeartbeats 2000000 in
theorem sNeg (s : Int) (a : Option Addr) (m c1 : Nat) (w : World) (B : Nat) (hB : B ≤ w.heap.size) (hx : Ints w B a (lim m)) (hs : Sg s m) (hl : (lim m).length ≤ 1048576) (hc1 : (lim m).length ≤ c1) :
    Calls Tryd.prog 84 #[.agg #[.int .i64 s, .slice a (lim m).length c1]] w (RetZ (-(s * m)) w) := by
  obtain ⟨W0, hW0⟩ : ∃ W0 : World, (w.alloc (.cells #[.int .i64 s, .slice a (lim m).length c1] 30)).alloc (.cells #[.int .i64 0, .slice none 0 0] 30) = W0 := ⟨_, rfl⟩
  obtain ⟨p1, p5, p3, p4⟩ := two_box w 30 #[.int .i64 s, .slice a (lim m).length c1] #[.int .i64 0, .slice none 0 0]
  rw [hW0] at p1 p3 p4 p5
  have HW0 := Lib.hid hW0
  have P3 := Lib.hid p3
  have P4 := Lib.hid p4
  have SR := Lib.hid (show ∀ W, Below W0.heap.size W0 W → (W.cell? ⟨w.heap.size + 1, 0, none⟩ = some (.int .i64 0) ∧ W.cell? ⟨w.heap.size + 1, 1, none⟩ = some (.slice none 0 0) ∧ W.frozen? ⟨w.heap.size + 1, 0, none⟩ = false ∧ W.frozen? ⟨w.heap.size + 1, 1, none⟩ = false) from
    fun W hW => (p5.below hW).two)
  have hT : Below W0.heap.size W0 W0 := Below.refl _ _
  have HMK := Lib.hid (show ∀ W, Below W0.heap.size W0 W → Calls Tryd.prog 68 #[.int .i64 (-s), .slice a (lim m).length c1] W fun e w' => ∃ a c, e = .returned (.agg #[.int .i64 (sgnOf (-s) m), .slice a (lim m).length c]) ∧ (lim m).length ≤ c ∧ Own w' W0.heap.size a (lim m) ∧ Below W0.heap.size W0 w' from
    fun W hW => (sMakeL (-s) a m c1 W B (by have := hW.size; omega) (hx.below ((p3.mono hB).trans (hW.mono (by omega)))) hc1 (by omega)).mono fun e w' ⟨a, c, he, hc, ho, hb⟩ => ⟨a, c, he, hc, ho.mono hW.size, hW.trans (hb.mono hW.size)⟩)
  have hfin : sgnOf (-s) m = (-(s * m)).sign ∧ m = (-(s * m)).natAbs := sgnOf_eq (by unfold Sg at hs; omega) (by rw [Int.neg_mul])
  have HF := Lib.hid hfin
  have hs12 : -1 ≤ s ∧ s ≤ 1 := by unfold Sg at hs; omega
  obtain ⟨hs1, hs2⟩ := hs12
  have hneg : IntKind.i64.wrap (-s) = -s := by rw [IntKind.wrap_i64]; omega
  obtain ⟨z, hz⟩ : ∃ z, z = -(s * (m : Int)) := ⟨_, rfl⟩
  rw [← hz] at HF ⊢
  clear p1 p3 p4 p5 hx hl hW0 hB hfin hs hc1 hz
  go_enter Tryd.func84, Tryd.ntmps84
  go_wp2_with fail
  rw [HW0.out]
  refine (HMK.out _ hT).mono ?_
  rintro e w1 ⟨a', c', rfl, hc', ho', hb⟩
  have HC' := Lib.hid hc'
  have HO' := Lib.hid ho'
  clear hc' ho'
  obtain ⟨q1, q2, q3, q4⟩ := SR.out _ hb
  go_wp2_with fail
  refine bodyPost_ret (v := .agg #[.int .i64 (sgnOf (-s) m), .slice a' (lim m).length c']) (by simp [results, Tryd.results84, go_sem, *]) rfl ?_
  exact retZ_end2 P3.out P4.out hb _ _ HO'.out HC'.out HF.out

set_option maxHeartbeats 2000000 in
theorem sSub (s t : Int) (a b : Option Addr) (m n c1 c2 : Nat) (w : World) (B C : Nat) (hB : B ≤ w.heap.size) (hC : C ≤ w.heap.size) (hx : Ints w B a (lim m)) (hy : Ints w C b (lim n)) (hs : Sg s m) (ht : Sg t n)
    (hl : (lim m).length ≤ 1048576) (hl' : (lim n).length ≤ 1048576) (hc1 : (lim m).length ≤ c1) (hc2 : (lim n).length ≤ c2) :
    Calls Tryd.prog 97 #[.agg #[.int .i64 s, .slice a (lim m).length c1], .agg #[.int .i64 t, .slice b (lim n).length c2]] w (RetZ (s * m - t * n) w) := by

  obtain ⟨W0, hW0⟩ : ∃ W0 : World, ((w.alloc (.cells #[.int .i64 s, .slice a (lim m).length c1] 30)).alloc (.cells #[.int .i64 t, .slice b (lim n).length c2] 30)).alloc (.cells #[.int .i64 0, .slice none 0 0] 30) = W0 := ⟨_, rfl⟩
  obtain ⟨p1, p2, p5, p3, p4⟩ := three_box w 30 #[.int .i64 s, .slice a (lim m).length c1] #[.int .i64 t, .slice b (lim n).length c2] #[.int .i64 0, .slice none 0 0]
  rw [hW0] at p1 p2 p3 p4 p5
  have HW0 := Lib.hid hW0
  have P3 := Lib.hid p3
  have P4 := Lib.hid p4
  have SS := Lib.hid (show ∀ W, Below W0.heap.size W0 W → (W.cell? ⟨w.heap.size, 0, none⟩ = some (.int .i64 s) ∧ W.cell? ⟨w.heap.size, 1, none⟩ = some (.slice a (lim m).length c1) ∧ W.cell? ⟨w.heap.size + 1, 0, none⟩ = some (.int .i64 t) ∧ W.cell? ⟨w.heap.size + 1, 1, none⟩ = some (.slice b (lim n).length c2)) from
    fun W hW => ⟨(p1.below hW).cell 0, (p1.below hW).cell 1, (p2.below hW).cell 0, (p2.below hW).cell 1⟩)
  have SR := Lib.hid (show ∀ W, Below W0.heap.size W0 W → (W.cell? ⟨w.heap.size + 1 + 1, 0, none⟩ = some (.int .i64 0) ∧ W.cell? ⟨w.heap.size + 1 + 1, 1, none⟩ = some (.slice none 0 0) ∧ W.frozen? ⟨w.heap.size + 1 + 1, 0, none⟩ = false ∧ W.frozen? ⟨w.heap.size + 1 + 1, 1, none⟩ = false) from
    fun W hW => (p5.below hW).two)
  have ST := Lib.hid (show ∀ W u v, Below W0.heap.size W0 W → (fun W : World => W.cell? ⟨w.heap.size, 0, none⟩ = some (.int .i64 s) ∧ W.cell? ⟨w.heap.size, 1, none⟩ = some (.slice a (lim m).length c1) ∧ W.cell? ⟨w.heap.size + 1, 0, none⟩ = some (.int .i64 t) ∧ W.cell? ⟨w.heap.size + 1, 1, none⟩ = some (.slice b (lim n).length c2)) ((W.setCell ⟨w.heap.size + 1 + 1, 0, none⟩ u).setCell ⟨w.heap.size + 1 + 1, 1, none⟩ v) from fun W u v hW =>
    ⟨(((p1.below hW).far (by simp <;> omega) _).far (by simp <;> omega) _).cell 0, (((p1.below hW).far (by simp <;> omega) _).far (by simp <;> omega) _).cell 1, (((p2.below hW).far (by simp <;> omega) _).far (by simp <;> omega) _).cell 0, (((p2.below hW).far (by simp <;> omega) _).far (by simp <;> omega) _).cell 1⟩)
  have hT : Below W0.heap.size W0 W0 := Below.refl _ _
  have hT' : Below W0.heap.size W0 W0.drew := hT.drew
  have IX := Lib.hid (show ∀ W, Below W0.heap.size W0 W → Ints W B a (lim m) ∧ Ints W C b (lim n) ∧ B ≤ W.heap.size ∧ C ≤ W.heap.size from fun W hW => ⟨hx.below ((p3.mono hB).trans (hW.mono (by omega))), hy.below ((p3.mono hC).trans (hW.mono (by omega))), by have := hW.size; omega, by have := hW.size; omega⟩)
  have hNat : (-(t * (n : Int))).natAbs = n := by unfold Sg at ht; rcases ht with ⟨rfl, rfl⟩ | ⟨_, rfl | rfl⟩ <;> omega
  have HNG := Lib.hid (show ∀ W, Below W0.heap.size W0 W → Calls Tryd.prog 84 #[.agg #[.int .i64 t, .slice b (lim n).length c2]] W fun e w' => ∃ a c, e = .returned (.agg #[.int .i64 (-(t * n)).sign, .slice a (lim n).length c]) ∧ (lim n).length ≤ c ∧ Own w' W0.heap.size a (lim n) ∧ Below W0.heap.size W0 w' from
    fun W hW => (sNeg t b n c2 W C (IX.out W hW).2.2.2 (IX.out W hW).2.1 ht hl' hc2).mono fun e w' ⟨a, c, he, hc, ho, hb⟩ => by rw [hNat] at he hc ho; exact ⟨a, c, he, hc, ho.mono hW.size, hW.trans (hb.mono hW.size)⟩)
  have HPL := Lib.hid (show ∀ a' c' W, (lim n).length ≤ c' → Own W W0.heap.size a' (lim n) → Below W0.heap.size W0 W → Calls Tryd.prog 48 #[.agg #[.int .i64 s, .slice a (lim m).length c1], .agg #[.int .i64 (-(t * n)).sign, .slice a' (lim n).length c']] W fun e w' => ∃ a c, e = .returned (.agg #[.int .i64 (s * m - t * n).sign, .slice a (lim (s * m - t * n).natAbs).length c]) ∧ (lim (s * m - t * n).natAbs).length ≤ c ∧ Own w' W0.heap.size a (lim (s * m - t * n).natAbs) ∧ Below W0.heap.size W0 w' from
    fun a' c' W hcc hO hW => by
      have hsg : Sg (-(t * (n : Int))).sign n := by have := Sg.of (-(t * (n : Int))); rwa [hNat] at this
      have hz : s * (m : Int) + (-(t * (n : Int))).sign * n = s * m - t * n := by
        have := Sg.mul (-(t * (n : Int)))
        rw [hNat] at this
        rw [this, Int.sub_eq_add_neg]
      have := sAdd s _ a a' m n c1 c' W B W.heap.size (IX.out W hW).2.2.1 (Nat.le_refl _) (IX.out W hW).1 hO.ints hs hsg hl hl' hc1 hcc
      rw [hz] at this
      exact this.mono fun e w' ⟨a, c, he, hc, ho, hb⟩ => ⟨a, c, he, hc, ho.mono hW.size, hW.trans (hb.mono hW.size)⟩)
  obtain ⟨r, hr⟩ : ∃ r, r = (-(t * (n : Int))).sign := ⟨_, rfl⟩
  obtain ⟨zs, hzs⟩ : ∃ r, r = (s * (m : Int) - t * n).sign := ⟨_, rfl⟩
  obtain ⟨k, hk⟩ : ∃ r, r = (s * (m : Int) - t * n).natAbs := ⟨_, rfl⟩
  rw [← hr] at HNG HPL
  rw [← hzs, ← hk] at HPL
  have HF := Lib.hid (show zs = (s * (m : Int) - t * n).sign ∧ k = (s * (m : Int) - t * n).natAbs from ⟨hzs, hk⟩)
  clear p1 p2 p3 p4 p5 hx hy hl hl' hW0 hB hC IX hs ht hr hzs hk hNat hc1 hc2
  obtain ⟨z, hz⟩ : ∃ z, z = s * (m : Int) - t * n := ⟨_, rfl⟩
  rw [← hz] at HF ⊢
  clear hz
  go_enter Tryd.func97, Tryd.ntmps97
  go_wp2_with fail
  rw [HW0.out]
  go_region_held3 (fun W => W.cell? ⟨w.heap.size, 0, none⟩ = some (.int .i64 s) ∧ W.cell? ⟨w.heap.size, 1, none⟩ = some (.slice a (lim m).length c1) ∧ W.cell? ⟨w.heap.size + 1, 0, none⟩ = some (.int .i64 t) ∧ W.cell? ⟨w.heap.size + 1, 1, none⟩ = some (.slice b (lim n).length c2))
    (first | exact SS.out _ (by assumption) | exact ST.out _ _ _ (by assumption))
    (first
    | (go_at_call 84; refine (HNG.out _ (by assumption)).mono ?_; rintro e w' ⟨a', c', rfl, hc', ho', hb⟩)
    | (go_at_call 48; refine (HPL.out _ _ _ (by assumption) (by assumption) (by assumption)).mono ?_; rintro e w' ⟨a', c', rfl, hc', ho', hb⟩; obtain ⟨q1, q2, q3, q4⟩ := SR.out _ hb))
  go_wp2_with fail
  refine bodyPost_ret (v := .agg #[.int .i64 zs, .slice a' (lim k).length c']) (by simp [results, Tryd.results97, go_sem, *]) rfl ?_
  exact retZ_end P3.out P4.out (by assumption) _ _ (by assumption) (by assumption) HF.out

theorem RetWC.alloc {r : Int × List Int × Int} {lo : Nat} {w W : World} {e : Ending} (h : RetWC r lo w e W) (o : Obj) : RetWC r lo w e (W.alloc o) := by
  obtain ⟨a, c, he, hc, ho, hb⟩ := h
  exact ⟨a, c, he, hc, ho.alloc o, hb.alloc hb.size o⟩

end Go.Proofs.YtiohacnkiikmcaaDoor
