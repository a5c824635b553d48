/-
  Contract of the model: products of whole numbers with powers of 2. Conditions: the limbs can be read.
-/
import Derived.Test.YtfjfmlofhifkmaaDoorVk
import Derived.Deep.AppendLies
import Derived.Deep.RegionHeldLaw
namespace Go.Proofs.YtfjfmlofhifkmaaDoor
set_option linter.unusedVariables false
open Go Go.RowKit

theorem OwnV.zeros (w : World) (lo n : Nat) (hb : lo ≤ w.heap.size) (hn : n ≤ 1073741824) : OwnV (w.alloc (.cells (madeCells #[.int .i64 0] n) 2)) lo (.slice (some ⟨w.heap.size, 0, none⟩) n n) (List.replicate n 0) := by
  unfold OwnV
  rw [List.length_replicate]
  refine ⟨by simp, .inr ⟨w.heap.size, n, _, rfl, hb, heap_alloc_new w _, Nat.le_refl _, by unfold maxLen; omega, by simp [size_madeCells], ?_⟩⟩
  apply List.ext_getElem
  · simp [size_madeCells]
  · intro i h1 h2
    simp [madeCells, Nat.mod_one]

/-- One number is appended, at a step of a region that draws. -/
theorem step_app1 {ops : Array Oper} {o : Oper} {a : Act} {K : Act → World → Prop} {Q : Exit → Act → World → Prop} {E : Prop} {w : World} (hgd : o.guard = none) (s x : Operand) (t : TypeId)
    (ho : o.op = .call { callee := .builtin .append, args := #[s, x], argTypes := #[t, t] }) (ht : Tryd.prog.underlying t = some (.slice 2))
    (V : World) (z : Int) (hW : w = V.alloc (.cells #[.int .i64 z] 2)) (lo : Nat) (v : Value) (xs : List Int) (hown : OwnV V lo v xs) (hs : a.eval s = v)
    (hx : a.eval x = .slice (some ⟨V.heap.size, 0, none⟩) 1 1) (hlen : xs.length ≤ 8388607) (hbase : lo ≤ V.heap.size)
    (h : ∀ v' w', OwnV w' lo v' (xs ++ [z]) → (∀ B, B ≤ V.heap.size → B ≤ lo → Below B V w') → V.heap.size ≤ w'.heap.size → K (a.put o.dst v') w') :
    if Region.wanted o (yielded ops a.tmps) = true then Oper.wp Tryd.prog o a w K Q else E := by
  subst hW
  obtain ⟨i0, hi, hz0, hz1, hz2⟩ := info_parts info_i64
  refine step_append_lies _ hgd s x t ho lo 2 i0 (.int .i64 0) 1 8 ht hi hz0 hz1 hz2 rfl (by decide) v xs.length (xs.map (Value.int .i64)) hs (hown.alloc _) ⟨V.heap.size, 0, none⟩ 1 1 [.int .i64 z] hx rfl ?_ (by intro u hu; simp at hu; subst hu; rfl) (by omega) (by unfold maxLen; omega) (by omega) (by simp; omega) _ rfl ?_
  · intro j u hj
    match j with
    | 0 =>
      simp at hj
      subst hj
      simp [Addr.add]
    | j + 1 => simp at hj
  · intro g cap w' h1 h2 _ _
    refine h _ w' ?_ (fun B hB hl => ((Below.refl B V).alloc hB _).grown h2 (by simp; omega) (fun g hg => Nat.le_trans hl (hown.lt g hg))) ?_
    · unfold OwnV
      rw [List.length_append, List.map_append]
      exact h1
    · have := h2.size
      simp at this
      omega

set_option maxRecDepth 100000 in
set_option maxHeartbeats 4000000 in
theorem sLeft (s : Int) (a : Option Addr) (n c1 K0 : Nat) (w : World) (B : Nat) (hB : B ≤ w.heap.size) (hx : Ints w B a (lim n)) (hl : (lim n).length ≤ 1048576) (hk : K0 ≤ 100000000) :
    Calls Tryd.prog 77 #[.agg #[.int .i64 s, .slice a (lim n).length c1], .int .i64 (K0 : Int)] w (RetN (sgnOf s (n * 2 ^ K0)) (n * 2 ^ K0) w) := by
  have hd : Int.tdiv (K0 : Int) 24 = ((K0 / 24 : Nat) : Int) := by simp [Int.tdiv_eq_ediv_of_nonneg]
  have hm : Int.tmod (K0 : Int) 24 = ((K0 % 24 : Nat) : Int) := by simp [Int.tmod_eq_emod_of_nonneg]
  have hr := Nat.mod_lt K0 (show 0 < 24 by omega)
  have hpow := up_pow n K0
  obtain ⟨q, hq⟩ : ∃ q, q = K0 / 24 := ⟨_, rfl⟩
  obtain ⟨r, hr'⟩ : ∃ r, r = K0 % 24 := ⟨_, rfl⟩
  rw [← hq] at hd hpow
  rw [← hr'] at hm hr hpow
  obtain ⟨lm, hlm⟩ : ∃ lm, lm = (dig n).length := ⟨_, rfl⟩
  have hll : (lim n).length = lm := by rw [lim_length, hlm]
  rw [hll] at hl ⊢
  have hqb : q ≤ 4166667 := by omega
  have hmk := mk_ints q (by omega)
  obtain ⟨W0, hW0⟩ : ∃ W0 : World, (w.alloc (.cells #[.int .i64 s, .slice a lm c1] 26)).alloc (.cells #[.int .i64 0, .slice none 0 0] 26) = W0 := ⟨_, rfl⟩
  obtain ⟨p0, p1, p8, p9⟩ := two_box w 26 #[.int .i64 s, .slice a lm c1] #[.int .i64 0, .slice none 0 0]
  rw [hW0] at p0 p1 p8 p9
  have HW0 := Lib.hid hW0
  have P3 := Lib.hid p8
  have P4 := Lib.hid p9
  have SS := Lib.hid (show ∀ W, Below W0.heap.size W0 W → (W.cell? ⟨w.heap.size, 0, none⟩ = some (.int .i64 s) ∧ W.cell? ⟨w.heap.size, 1, none⟩ = some (.slice a lm c1)) from fun W hW => ⟨(p0.below hW).cell 0, (p0.below hW).cell 1⟩)
  have SR := Lib.hid (show ∀ W, Below W0.heap.size W0 W → (W.cell? ⟨w.heap.size + 1, 0, none⟩ = some (.int .i64 0) ∧ W.cell? ⟨w.heap.size + 1, 1, none⟩ = some (.slice none 0 0) ∧ W.frozen? ⟨w.heap.size + 1, 0, none⟩ = false ∧ W.frozen? ⟨w.heap.size + 1, 1, none⟩ = false) from
    fun W hW => (p1.below hW).two)
  have IX := Lib.hid (show ∀ W, Below W0.heap.size W0 W → Ints W B a (lim n) from fun W hW => hx.below ((p8.mono hB).trans (hW.mono (by omega))))
  have HPOW := Lib.hid hpow
  have HLM := Lib.hid hlm
  have HLL := Lib.hid hll
  have HR24 := Lib.hid hr
  have HQB := Lib.hid hqb
  have hrI : (r : Int) ≤ 23 := by omega
  have hqI : (q : Int) ≤ 44739243 := by omega
  have hlI : (lm : Int) ≤ 1048576 := by omega
  clear hx hl hpow hq hr' hr hlm hll p0 p1 p8 p9 hW0 hk hqb
  go_enter Tryd.func77, Tryd.ntmps77
  go_wp2
  rw [HW0.out]
  clear hmk
  go_loopw [7, 6, 5] (fun i cc v wr => ∃ (k : Nat) (U : List Nat) (c : Nat), k ≤ lm ∧ i = .int .i64 (k : Int) ∧ cc = .int .i64 (c : Int) ∧ Hid (UpInv (dig n) U r c k) ∧ OwnV wr W0.heap.size v (ofN (List.replicate q 0 ++ U)) ∧ Below W0.heap.size W0 wr) (fun i _ _ _ => lm - (intOf i).toNat)
  case atStart => exact ⟨0, [], 0, Nat.zero_le _, rfl, rfl, upInv_start (dig n) r, (by have h := OwnV.zeros W0 W0.heap.size q (Nat.le_refl _) (by have := HQB.out; omega); have e := P4.out; rw [List.append_nil, ofN_zeros]; simp only [e] at h ⊢; exact h), (Below.refl _ _).alloc (Nat.le_refl _) _⟩
  case round =>
    obtain ⟨k, U, c, hk, rfl, rfl, hinv, hown, hbel⟩ := hrel
    have OW := Lib.hid hown
    have HB := Lib.hid hbel
    have hsz : W0.heap.size ≤ wr.heap.size := hbel.size
    obtain ⟨k1, k2⟩ := SS.out _ hbel
    have hlenU := hinv.out.len
    have hcb := hinv.out.c
    have hp23 : 2 ^ r ≤ 8388608 := Nat.le_trans (Nat.pow_le_pow_right (by omega) (show r ≤ 23 by have := HR24.out; omega)) (by decide)
    have hlen := Lib.hid (show (ofN (List.replicate q 0 ++ U)).length = q + k from by simp [ofN_length, hlenU])
    clear hown hbel
    by_cases hkn : k < lm
    · have hkd : k < (dig n).length := by rw [← HLM.out]; exact hkn
      obtain ⟨b, o, ha, hcB, hcell⟩ := IX.out wr HB.out k (by rw [HLL.out]; exact hkn)
      simp only [lim, ofN_at] at hcell
      subst ha
      have hst := upInv_step hinv.out (small_dig n) hkd
      obtain ⟨x, hxk⟩ : ∃ x : Nat, x = (dig n)[k] := ⟨_, rfl⟩
      rw [← hxk] at hcell hst
      obtain ⟨hst1, hst2⟩ := hst
      obtain ⟨y, hy⟩ : ∃ y, y = x * 2 ^ r := ⟨_, rfl⟩
      rw [← hy] at hst1 hst2
      have hyc : ((x : Int) * 2 ^ r) = (y : Int) := by rw [hy]; simp
      obtain ⟨t, ht⟩ : ∃ t, t = c + y := ⟨_, rfl⟩
      have hbd := up_bounds hcb (by rw [ht]; exact hst2) hp23 ht
      have hbd2 := left_bounds hcb hst2 hp23
      have hw1 := wrap64_nat hyc hbd.2.1
      have hw2 := wrapI64_nat hyc hbd.2.1
      have hmod := tmod_add c y
      have hdiv := tdiv_add c y
      rw [← ht] at hst1 hmod hdiv
      have HST := Lib.hid hst1
      obtain ⟨z, hz⟩ : ∃ z, z = t % 16777216 := ⟨_, rfl⟩
      obtain ⟨z2, hz2⟩ : ∃ z2, z2 = t / 16777216 := ⟨_, rfl⟩
      rw [← hz] at hmod HST
      rw [← hz2] at hdiv HST
      have hcI : (c : Int) ≤ 2305843009213693952 := Int.ofNat_le.2 hbd2.1
      have hyI : (y : Int) ≤ 2305843009213693952 := Int.ofNat_le.2 hbd2.2
      have hzI : (z : Int) ≤ 9223372036854775807 := Int.ofNat_le.2 (by rw [hz]; exact Nat.le_trans (Nat.mod_le _ _) hbd.2.2)
      have hz2I : (z2 : Int) ≤ 9223372036854775807 := Int.ofNat_le.2 (by rw [hz2]; exact Nat.le_trans (Nat.div_le_self _ _) hbd.2.2)
      have hkI : (k : Int) < (lm : Int) := by omega
      clear hst1 hst2 hxk hcb hp23 hyc hy ht hlenU hkd hinv hbd hbd2 hz hz2
      go_wp2_with (at_builtin; refine wp_app1 rfl _ _ 24 rfl Tryd.underlying24 wr (z : Int) (by simp) W0.heap.size _ (ofN (List.replicate q 0 ++ U)) OW.out rfl rfl (by rw [hlen.out]; have := HQB.out; omega) (by omega) ?_; intro v' w' hown hb hs; have OW2 := Lib.hid hown; have HB2 := Lib.hid (hb W0.heap.size (by omega) (Nat.le_refl _)); clear hown hb)
      go_roundw
      case rel =>
        refine ⟨k + 1, _, z2, by omega, by go_num, rfl, HST, ?_, HB.out.trans HB2.out⟩
        rw [← List.append_assoc, ofN_append _ [z]]
        exact OW2.out
      case measure => simp [intOf]; omega
    · obtain rfl : k = lm := by omega
      have hI : UpInv (dig n) U r c (dig n).length := by rw [← HLM.out]; exact hinv.out
      obtain ⟨d1, d2⟩ := upInv_done hI HR24.out
      rw [val_dig] at d2
      have hcI : (c : Int) ≤ 9223372036854775807 := Int.ofNat_le.2 (Nat.le_trans (Nat.le_of_lt (Nat.lt_of_lt_of_le hcb hp23)) (by decide))
      have hLs : Small ((List.replicate q 0 ++ U) ++ [c]) := by rw [List.append_assoc]; exact small_append (small_zeros q) d1
      have hLv : val ((List.replicate q 0 ++ U) ++ [c]) = n * 2 ^ K0 := by rw [List.append_assoc, val_up, d2]; exact HPOW.out
      have hLl : ((List.replicate q 0 ++ U) ++ [c]).length = q + k + 1 := by simp [hlenU]; omega
      obtain ⟨L, hL⟩ : ∃ L, L = (List.replicate q 0 ++ U) ++ [c] := ⟨_, rfl⟩
      rw [← hL] at hLs hLv hLl
      have HMK := Lib.hid (show ∀ (v : Value) W, OwnV W W0.heap.size v (ofN L) → Below W0.heap.size W0 W → ∃ a' c', v = .slice a' (q + k + 1) c' ∧ Calls Tryd.prog 96 #[.int .i64 s, v] W (RetN (sgnOf s (n * 2 ^ K0)) (n * 2 ^ K0) W) from fun v W ho hb => by
        obtain ⟨a', c', rfl, hc', _, ho'⟩ := ho.parts
        rw [ofN_length, hLl] at hc' ⊢
        have := sMake s a' L c' W W.heap.size (Nat.le_refl _) ho'.ints hLs (by rw [hLl]; exact hc') (by rw [hLl]; have := HQB.out; omega)
        rw [hLv, hLl] at this
        exact ⟨a', c', rfl, this⟩)
      have HL := Lib.hid (show ofN L = ofN (List.replicate q 0 ++ U) ++ [(c : Int)] from by rw [hL, ofN_append]; rfl)
      have hge : decide ((k : Int) < (k : Int)) = false := decide_eq_false (by omega)
      clear hI d1 d2 hcb hp23 hLs hLv hLl hL hlenU hinv
      go_wp2
      have hbase : W0.heap.size ≤ wr.heap.size := hsz
      have hlen3 := Lib.hid (show (ofN (List.replicate q 0 ++ U)).length ≤ 8388607 from by rw [hlen.out]; have := HQB.out; omega)
      have hBd : Below W0.heap.size W0 wr.drew := HB.out.drew
      go_region_held_law (fun W => W.cell? ⟨w.heap.size, 0, none⟩ = some (.int .i64 s))
        (first | exact (SS.out _ (by assumption)).1 | exact (SS.out _ (below_alloc (by assumption) _)).1 | (rw [World.cell?_setCell_far _ _ _ _ (by simp), World.cell?_setCell_far _ _ _ _ (by simp)]; exact (SS.out _ (by assumption)).1))
        ((first
        | (refine step_app1 (by rfl) _ _ 24 (by rfl) Tryd.underlying24 wr.drew (c : Int) (by rfl) W0.heap.size _ (ofN (List.replicate q 0 ++ U)) OW.out (by rfl) (by rfl) hlen3.out hbase ?_; intro v' w' hown hb hs; have hb4 := hBd.trans (hb W0.heap.size hbase (Nat.le_refl _)); obtain ⟨a', c', rfl, hmk⟩ := HMK.out v' w' (by rw [HL.out]; exact hown) hb4)
        | (go_at_call 96; refine hmk.mono ?_; rintro e w1 ⟨a1, d1, rfl, hc1, ho1, hb1⟩; have hb5 := hb4.trans (hb1.mono hb4.size); obtain ⟨q1, q2, q3, q4⟩ := SR.out _ hb5)))
      have hlo : w.heap.size + 1 < w'.heap.size := by have := P4.out; have := hb4.size; omega
      obtain ⟨N, hN⟩ : ∃ N, N = n * 2 ^ K0 := ⟨_, rfl⟩
      rw [← hN] at hc1 ho1
      have HC1 := Lib.hid hc1
      have HO1 := Lib.hid ho1
      have HB1 := Lib.hid hb5
      have HN := Lib.hid hN
      clear hc1 ho1 hb1 hb5 hb4 hmk
      go_wp2_with fail
      rw [← HN.out]
      refine bodyPost_ret (v := .agg #[.int .i64 (sgnOf s N), .slice a1 (lim N).length d1]) (by simp [results, Tryd.results77, go_sem, *]) rfl ⟨a1, d1, rfl, HC1.out, ((HO1.out.setFar (by simp; omega) _).setFar (by simp; omega) _).mono (by omega), ((P3.out.trans (HB1.out.mono (by have := P4.out; omega))).setCell (by simp) _).setCell (by simp) _⟩
end Go.Proofs.YtfjfmlofhifkmaaDoor
