/-
  Contracts: order of magnitudes and of whole numbers; sums and differences of whole numbers. Conditions: the limbs can be read. Contracts: order, sums and differences of whole numbers. Conditions: the limbs can be read. Contracts: sums and differences of whole numbers. Conditions: the limbs can be read. Contracts: opposites and differences of whole numbers. Conditions: the limbs can be read. Contracts: AddWholes, SubtractWholes of the program. Conditions: the limbs can be read.
-/
import Derived.Test.YtgppagmejhgmaaaGreatDoorMk
namespace Go.Proofs.YtgppagmejhgmaaaGreatDoor
set_option linter.unusedVariables false
open Go Go.RowKit

theorem quietL {P : Program} {f : FuncId} {args : Array Value} {w : World} {v : Value} (h : ∀ W, Calls P f args W fun e w' => e = .returned v ∧ W = w') (n : Nat) :
    Calls P f args (w.drewN n) fun e w'' => e = .returned v ∧ ∃ m, w'' = w.drewN m := (h _).mono fun _ _ ⟨he, hm⟩ => ⟨he, n, hm.symm⟩
theorem quietA {P : Program} {f : FuncId} {args : Array Value} {w : World} {v : Value} (h : ∀ W, Calls P f args W fun e w' => e = .returned v ∧ W = w') (q n : Nat) :
    Calls P f args (w.drewN (q + n)) fun e w'' => e = .returned v ∧ ∃ m, w'' = w.drewN (q + m) := (h _).mono fun _ _ ⟨he, hm⟩ => ⟨he, n, hm.symm⟩

set_option maxHeartbeats 400000 in
theorem iMagCompare (a b : Option Addr) (m n : Nat) (c1 c2 : Nat) (w : World) (B C : Nat) (hx : Ints w B a (lim m)) (hy : Ints w C b (lim n)) (hl : (lim m).length ≤ 4611686018427387904) (hl' : (lim n).length ≤ 4611686018427387904) :
    Calls Tryz.prog 120 #[.slice a (lim m).length c1, .slice b (lim n).length c2] w (RetQ (.int .i64 (cmpZ m n)) w) := by
  have HX := Lib.hid hx
  have HY := Lib.hid hy
  clear hx hy
  obtain ⟨r, hr⟩ : ∃ r, r = cmpZ m n := ⟨_, rfl⟩
  rw [← hr]
  have HV := Lib.hid hr
  clear hr
  rcases Nat.lt_trichotomy (lim m).length (lim n).length with h | h | h
  · have hlt : m < n := by
      have := lt_of_length (small_dig m) (norm_dig n) (by rwa [lim_length, lim_length] at h)
      rwa [val_dig, val_dig] at this
    have HW := Lib.hid (show r = -1 from HV.out.trans (cmpZ_lt (by omega)))
    have hc := Lib.hid fun W => (cmpInt (lim m).length (lim n).length W)
    rw [cmpZ_lt (by omega)] at hc
    clear h hlt
    go_enter Tryz.func120, Tryz.ntmps120
    go_wp2_with (go_at_call 138; refine (hc.out _).mono ?_; rintro e w' ⟨rfl, rfl⟩)
    go_ret
    exact ⟨0, by rw [HW.out]; rfl, rfl⟩
  · have hc := Lib.hid fun W => (cmpInt (lim m).length (lim n).length W)
    rw [cmpZ_eq (by omega)] at hc
    have HN := Lib.hid h
    clear h
    go_enter Tryz.func120, Tryz.ntmps120
    go_wp2_with (go_at_call 138; refine (hc.out _).mono ?_; rintro e w' ⟨rfl, rfl⟩)
    clear hc
    go_loopw [6] (fun i wr => ∃ k q : Nat, k ≤ (lim m).length ∧ i = .int .i64 ((k : Int) - 1) ∧ wr = w.drewN q ∧ Hid ((dig m).drop k = (dig n).drop k)) (fun i _ => (intOf i + 1).toNat)
    case atStart => exact ⟨_, 0, Nat.le_refl _, rfl, rfl, by
      have := HN.out
      rw [lim_length, lim_length] at this
      show (dig m).drop _ = (dig n).drop _
      rw [List.drop_eq_nil_of_le (by rw [lim_length]; exact Nat.le_refl _), List.drop_eq_nil_of_le (by rw [lim_length, this]; exact Nat.le_refl _)]⟩
    case round =>
      obtain ⟨k, q, hk, rfl, rfl, hd⟩ := hrel
      by_cases h0 : 0 < k
      · have hkm : k - 1 < (dig m).length := by rw [lim_length] at hk; omega
        have hkn : k - 1 < (dig n).length := by have := HN.out; rw [lim_length, lim_length] at this; omega
        obtain ⟨c, o, ha, _, hcell⟩ := HX.out (k - 1) (by rw [lim_length]; exact hkm)
        obtain ⟨c', o', ha', _, hcell'⟩ := HY.out (k - 1) (by rw [lim_length]; exact hkn)
        simp only [lim, ofN_at] at hcell hcell'
        subst ha ha'
        obtain ⟨x, hxk⟩ : ∃ x : Nat, x = (dig m)[k - 1] := ⟨_, rfl⟩
        obtain ⟨y, hyk⟩ : ∃ y : Nat, y = (dig n)[k - 1] := ⟨_, rfl⟩
        rw [← hxk] at hcell
        rw [← hyk] at hcell'
        have HXK := Lib.hid hxk
        have HYK := Lib.hid hyk
        clear hxk hyk
        have hi1 : ((k : Int) - 1).toNat = k - 1 := by omega
        have hi0 : (0 : Int) ≤ (k : Int) - 1 := by omega
        have hi2 : (k : Int) - 1 < ((lim m).length : Int) := by omega
        have hi3 : (k : Int) - 1 < ((lim n).length : Int) := by have := HN.out; omega
        have hdk : (dig m).drop (k - 1 + 1) = (dig n).drop (k - 1 + 1) := by rw [Nat.sub_add_cancel h0]; exact hd.out
        have HDK := Lib.hid hdk
        clear hdk
        have hlen : (dig m).length = (dig n).length := by have := HN.out; rwa [lim_length, lim_length] at this
        have HLEN := Lib.hid hlen
        clear hlen
        rcases Nat.lt_trichotomy x y with hxy | hxy | hxy
        · have hlt : m < n := by
            have := lt_of_limb (small_dig m) HLEN.out (k - 1) hkm HDK.out (by rw [← HXK.out, ← HYK.out]; exact hxy)
            rwa [val_dig, val_dig] at this
          have HW := Lib.hid (show r = -1 from HV.out.trans (cmpZ_lt (by omega)))
          have hc := Lib.hid fun W => (cmpI64 x y W)
          rw [cmpZ_lt (by omega)] at hc
          clear hlt hxy
          go_wp2
          go_quiet ((go_at_call 122; first | exact quietL hc.out _ | exact quietA hc.out _ _))
          go_wp2
          go_ret
          exact ⟨_, by rw [HW.out]; rfl, rfl⟩
        · have hc := Lib.hid fun W => (cmpI64 x y W)
          rw [cmpZ_eq (by omega)] at hc
          have hdd : (dig m).drop (k - 1) = (dig n).drop (k - 1) := drop_same HLEN.out (k - 1) hkm HDK.out (by rw [← HXK.out, ← HYK.out]; exact hxy)
          have HDD := Lib.hid hdd
          clear hdd hxy
          go_wp2
          go_quiet ((go_at_call 122; first | exact quietL hc.out _ | exact quietA hc.out _ _))
          go_wp2
          go_roundw
          case rel => exact ⟨k - 1, _, by omega, (by first | rfl | (congr 1; omega)), rfl, HDD.out⟩
          case measure => simp [intOf]; omega
        · have hlt : n < m := by
            have := lt_of_limb (small_dig n) HLEN.out.symm (k - 1) (by rw [← HLEN.out]; exact hkm) HDK.out.symm (by rw [← HXK.out, ← HYK.out]; exact hxy)
            rwa [val_dig, val_dig] at this
          have HW := Lib.hid (show r = 1 from HV.out.trans (cmpZ_gt (by omega)))
          have hc := Lib.hid fun W => (cmpI64 x y W)
          rw [cmpZ_gt (by omega)] at hc
          clear hlt hxy
          go_wp2
          go_quiet ((go_at_call 122; first | exact quietL hc.out _ | exact quietA hc.out _ _))
          go_wp2
          go_ret
          exact ⟨_, by rw [HW.out]; rfl, rfl⟩
      · obtain rfl : k = 0 := by omega
        have heq : m = n := by
          have := hd.out
          simp only [List.drop_zero] at this
          rw [← val_dig m, ← val_dig n, this]
        have HW := Lib.hid (show r = 0 from HV.out.trans (cmpZ_eq (by omega)))
        clear heq
        go_wp2
        go_ret
        exact ⟨_, by rw [HW.out]; rfl, rfl⟩
  · have hlt : n < m := by
      have := lt_of_length (small_dig n) (norm_dig m) (by rwa [lim_length, lim_length] at h)
      rwa [val_dig, val_dig] at this
    have HW := Lib.hid (show r = 1 from HV.out.trans (cmpZ_gt (by omega)))
    have hc := Lib.hid fun W => (cmpInt (lim m).length (lim n).length W)
    rw [cmpZ_gt (by omega)] at hc
    clear h hlt
    go_enter Tryz.func120, Tryz.ntmps120
    go_wp2_with (go_at_call 138; refine (hc.out _).mono ?_; rintro e w' ⟨rfl, rfl⟩)
    go_ret
    exact ⟨0, by rw [HW.out]; rfl, rfl⟩

theorem two_box (w : World) (t : TypeId) (p q : Array Value) : BoxAt ((w.alloc (.cells p t)).alloc (.cells q t)) w.heap.size t p ∧ BoxAt ((w.alloc (.cells p t)).alloc (.cells q t)) (w.heap.size + 1) t q ∧ Below w.heap.size w ((w.alloc (.cells p t)).alloc (.cells q t)) ∧ ((w.alloc (.cells p t)).alloc (.cells q t)).heap.size = w.heap.size + 2 :=
  ⟨(BoxAt.new w t p).alloc _, by have := BoxAt.new (w.alloc (.cells p t)) t q; simpa using this, ((Below.refl _ w).alloc (Nat.le_refl _) _).alloc (by simp) _, by simp⟩

/-- A sign and a size as they stand in a whole number. -/
def Sg (s : Int) (n : Nat) : Prop := (n = 0 ∧ s = 0) ∨ (n ≠ 0 ∧ (s = 1 ∨ s = -1))
theorem Sg.sgn {s : Int} {n : Nat} (h : Sg s n) : sgnOf s n = s := by
  rcases h with ⟨rfl, rfl⟩ | ⟨h, _⟩
  · exact sgnOf_zero 0
  · exact sgnOf_pos h
theorem sg_cmp_ne {s t : Int} {m n : Nat} (h : Sg s m) (k : Sg t n) (hne : s ≠ t) : cmpZ s t = cmpZ (s * m) (t * n) := by
  unfold Sg at h k
  rcases h with ⟨rfl, rfl⟩ | ⟨h, rfl | rfl⟩ <;> rcases k with ⟨rfl, rfl⟩ | ⟨k, rfl | rfl⟩ <;> first | exact absurd rfl hne | (unfold cmpZ; simp; omega) | (unfold cmpZ; repeat' split <;> omega)
theorem sg_cmp_eq {s : Int} {m n : Nat} (h : Sg s m) (k : Sg s n) : s * cmpZ m n = cmpZ (s * m) (s * n) := by
  unfold Sg at h k
  rcases h with ⟨rfl, rfl⟩ | ⟨h, rfl | rfl⟩
  · simp [cmpZ]
  · simp
  · unfold cmpZ; repeat' split <;> omega

theorem Sg.of (z : Int) : Sg z.sign z.natAbs := by
  unfold Sg
  rcases Int.lt_trichotomy z 0 with h | h | h
  · right; exact ⟨by omega, .inr (Int.sign_eq_neg_one_of_neg h)⟩
  · left; subst h; exact ⟨rfl, rfl⟩
  · right; exact ⟨by omega, .inl (Int.sign_eq_one_of_pos h)⟩
theorem Sg.mul (z : Int) : z.sign * (z.natAbs : Int) = z := Int.sign_mul_natAbs z
theorem Sg.eq {s z : Int} {n : Nat} (h : Sg s n) (e : s * n = z) : s = z.sign ∧ n = z.natAbs := by
  subst e
  unfold Sg at h
  rcases h with ⟨rfl, rfl⟩ | ⟨h, rfl | rfl⟩
  · exact ⟨rfl, rfl⟩
  · exact ⟨by rw [Int.one_mul]; exact (Int.sign_eq_one_of_pos (by omega)).symm, by omega⟩
  · exact ⟨(Int.sign_eq_neg_one_of_neg (by omega)).symm, by omega⟩
theorem sgnOf_eq {s z : Int} {n : Nat} (hs : s = 1 ∨ s = -1 ∨ n = 0) (e : s * n = z) : sgnOf s n = z.sign ∧ n = z.natAbs := by
  have h : Sg (sgnOf s n) n := by
    unfold Sg
    by_cases h0 : n = 0
    · left; subst h0; exact ⟨rfl, sgnOf_zero s⟩
    · right; rw [sgnOf_pos h0]; exact ⟨h0, by omega⟩
  refine h.eq ?_
  by_cases h0 : n = 0
  · subst h0; rw [sgnOf_zero]; rw [← e]; simp
  · rw [sgnOf_pos h0]; exact e
/-- The call returned the whole number z in new memory. -/
def RetZ (z : Int) (w : World) (e : Ending) (w' : World) : Prop := ∃ a c, e = .returned (.agg #[.int .i64 z.sign, .slice a (lim z.natAbs).length c]) ∧ (lim z.natAbs).length ≤ c ∧ Own w' w.heap.size a (lim z.natAbs) ∧ Below w.heap.size w w'

theorem three_box (w : World) (t : TypeId) (p q r : Array Value) : BoxAt (((w.alloc (.cells p t)).alloc (.cells q t)).alloc (.cells r t)) w.heap.size t p ∧ BoxAt (((w.alloc (.cells p t)).alloc (.cells q t)).alloc (.cells r t)) (w.heap.size + 1) t q ∧
    BoxAt (((w.alloc (.cells p t)).alloc (.cells q t)).alloc (.cells r t)) (w.heap.size + 2) t r ∧ Below w.heap.size w (((w.alloc (.cells p t)).alloc (.cells q t)).alloc (.cells r t)) ∧ (((w.alloc (.cells p t)).alloc (.cells q t)).alloc (.cells r t)).heap.size = w.heap.size + 3 := by
  obtain ⟨h1, h2, h3, h4⟩ := two_box w t p q
  refine ⟨h1.alloc _, h2.alloc _, ?_, h3.alloc (by omega) _, by simp⟩
  have := BoxAt.new ((w.alloc (.cells p t)).alloc (.cells q t)) t r
  simpa using this

set_option maxHeartbeats 400000 in
theorem iOr (s t : Int) (g : Nat) (c : Nat) (w : World) (h0 : w.cell? ⟨g, 0, none⟩ = some (.int .i64 s)) (h1 : w.cell? ⟨g, 1, none⟩ = some (.int .i64 t)) :
    Calls Tryz.prog 119 #[.slice (some ⟨g, 0, none⟩) 2 c] w fun e w' => e = .returned (.int .i64 (if s = 0 then t else s)) ∧ w = w' := by
  by_cases hs : s = 0
  · rw [if_pos hs]
    subst hs
    by_cases ht : t = 0
    · subst ht
      go_enter Tryz.func119, Tryz.ntmps119
      go_wp2
      refine wp_loop_rounds 3 ?_
      rw [rounds_succ]
      go_wp2
      rw [rounds_succ]
      go_wp2
      rw [rounds_succ]
      go_wp2
      go_ret
      exact ⟨rfl, rfl⟩
    · have hz : (t != 0) = true := by simpa using ht
      go_enter Tryz.func119, Tryz.ntmps119
      go_wp2
      refine wp_loop_rounds 2 ?_
      rw [rounds_succ]
      go_wp2
      rw [rounds_succ]
      go_wp2
      go_ret
      exact ⟨rfl, rfl⟩
  · rw [if_neg hs]
    have hz : (s != 0) = true := by simpa using hs
    go_enter Tryz.func119, Tryz.ntmps119
    go_wp2
    refine wp_loop_rounds 1 ?_
    rw [rounds_succ]
    go_wp2
    go_ret
    exact ⟨rfl, rfl⟩

/-- What a method with a result leaves. -/
theorem retZ_end {w W0 W : World} {z : Int} {a : Option Addr} {c : Nat} {s : Int} {k : Nat} (P3 : Below w.heap.size w W0) (P4 : W0.heap.size = w.heap.size + 3) (hb : Below W0.heap.size W0 W) (u v : Value) (ho : Own W W0.heap.size a (lim k)) (hc : (lim k).length ≤ c) (hs : s = z.sign ∧ k = z.natAbs) :
    RetZ z w (.returned (.agg #[.int .i64 s, .slice a (lim k).length c])) ((W.setCell ⟨w.heap.size + 1 + 1, 0, none⟩ u).setCell ⟨w.heap.size + 1 + 1, 1, none⟩ v) := by
  obtain ⟨rfl, rfl⟩ := hs
  exact ⟨a, c, rfl, hc, ((ho.setFar (by simp; omega) _).setFar (by simp; omega) _).mono (by omega), ((P3.trans (hb.mono (by omega))).setCell (by simp <;> omega) _).setCell (by simp <;> omega) _⟩

set_option maxHeartbeats 2000000 in
theorem iPlus (s t : Int) (a b : Option Addr) (m n c1 c2 : Nat) (w : World) (B C : Nat) (hB : B ≤ w.heap.size) (hC : C ≤ w.heap.size) (hx : Ints w B a (lim m)) (hy : Ints w C b (lim n)) (hs : Sg s m) (ht : Sg t n)
    (hl : (lim m).length ≤ 1048576) (hl' : (lim n).length ≤ 1048576) :
    Calls Tryz.prog 91 #[.agg #[.int .i64 s, .slice a (lim m).length c1], .agg #[.int .i64 t, .slice b (lim n).length c2]] w (RetZ (s * m + t * n) w) := by

  obtain ⟨W0, hW0⟩ : ∃ W0 : World, ((w.alloc (.cells #[.int .i64 s, .slice a (lim m).length c1] 60)).alloc (.cells #[.int .i64 t, .slice b (lim n).length c2] 60)).alloc (.cells #[.int .i64 0, .slice none 0 0] 60) = W0 := ⟨_, rfl⟩
  obtain ⟨p1, p2, p5, p3, p4⟩ := three_box w 60 #[.int .i64 s, .slice a (lim m).length c1] #[.int .i64 t, .slice b (lim n).length c2] #[.int .i64 0, .slice none 0 0]
  rw [hW0] at p1 p2 p3 p4 p5
  have HW0 := Lib.hid hW0
  have P3 := Lib.hid p3
  have P4 := Lib.hid p4
  have SS := Lib.hid (show ∀ W, Below W0.heap.size W0 W → (W.cell? ⟨w.heap.size, 0, none⟩ = some (.int .i64 s) ∧ W.cell? ⟨w.heap.size, 1, none⟩ = some (.slice a (lim m).length c1) ∧ W.cell? ⟨w.heap.size + 1, 0, none⟩ = some (.int .i64 t) ∧ W.cell? ⟨w.heap.size + 1, 1, none⟩ = some (.slice b (lim n).length c2)) from
    fun W hW => ⟨(p1.below hW).cell 0, (p1.below hW).cell 1, (p2.below hW).cell 0, (p2.below hW).cell 1⟩)
  have SR := Lib.hid (show ∀ W, Below W0.heap.size W0 W → (W.cell? ⟨w.heap.size + 1 + 1, 0, none⟩ = some (.int .i64 0) ∧ W.cell? ⟨w.heap.size + 1 + 1, 1, none⟩ = some (.slice none 0 0) ∧ W.frozen? ⟨w.heap.size + 1 + 1, 0, none⟩ = false ∧ W.frozen? ⟨w.heap.size + 1 + 1, 1, none⟩ = false) from
    fun W hW => (p5.below hW).two)
  have ST := Lib.hid (show ∀ W u v, Below W0.heap.size W0 W → (fun W : World => W.cell? ⟨w.heap.size, 0, none⟩ = some (.int .i64 s) ∧ W.cell? ⟨w.heap.size, 1, none⟩ = some (.slice a (lim m).length c1) ∧ W.cell? ⟨w.heap.size + 1, 0, none⟩ = some (.int .i64 t) ∧ W.cell? ⟨w.heap.size + 1, 1, none⟩ = some (.slice b (lim n).length c2)) ((W.setCell ⟨w.heap.size + 1 + 1, 0, none⟩ u).setCell ⟨w.heap.size + 1 + 1, 1, none⟩ v) from fun W u v hW =>
    ⟨(((p1.below hW).far (by simp <;> omega) _).far (by simp <;> omega) _).cell 0, (((p1.below hW).far (by simp <;> omega) _).far (by simp <;> omega) _).cell 1, (((p2.below hW).far (by simp <;> omega) _).far (by simp <;> omega) _).cell 0, (((p2.below hW).far (by simp <;> omega) _).far (by simp <;> omega) _).cell 1⟩)
  have HS := Lib.hid (show ∀ (s : Int) (a : Option Addr) (n c : Nat) W, Below W0.heap.size W0 W → Calls Tryz.prog 65 #[.agg #[.int .i64 s, .slice a n c]] W fun e w' => e = .returned (.slice a n c) ∧ Below W0.heap.size W0 w' from
    fun s a n c W hW => (iSize s a n c W).mono fun e w' ⟨he, hb⟩ => ⟨he, hW.trans (hb.mono hW.size)⟩)
  have HG := Lib.hid (show ∀ (s : Int) (k : Nat) (a : Option Addr) (c : Nat) W, (lim k).length ≤ c → Own W W0.heap.size a (lim k) → Below W0.heap.size W0 W → Calls Tryz.prog 95 #[.int .i64 s, .slice a (lim k).length c] W fun e w' => ∃ a c, e = .returned (.agg #[.int .i64 (sgnOf s k), .slice a (lim k).length c]) ∧ (lim k).length ≤ c ∧ Own w' W0.heap.size a (lim k) ∧ Below W0.heap.size W0 w' from
    fun s k a c W h1 h2 hW => (iSigned s k a c W W0.heap.size h1 h2).mono fun e w' ⟨a, c, he, hc, ho, hb⟩ => ⟨a, c, he, hc, ho, hW.trans (hb.mono hW.size)⟩)
  have hT : Below W0.heap.size W0 W0 := Below.refl _ _
  have hT' : Below W0.heap.size W0 W0.drew := hT.drew
  have IX := Lib.hid (show ∀ W, Below W0.heap.size W0 W → Ints W B a (lim m) ∧ Ints W C b (lim n) ∧ B ≤ W.heap.size ∧ C ≤ W.heap.size from fun W hW => ⟨hx.below ((p3.mono hB).trans (hW.mono (by omega))), hy.below ((p3.mono hC).trans (hW.mono (by omega))), by have := hW.size; omega, by have := hW.size; omega⟩)
  have HPL := Lib.hid (show ∀ W, Below W0.heap.size W0 W → Calls Tryz.prog 118 #[.slice a (lim m).length c1, .slice b (lim n).length c2] W fun e w' => ∃ a c, e = .returned (.slice a (lim (m + n)).length c) ∧ (lim (m + n)).length ≤ c ∧ Own w' W0.heap.size a (lim (m + n)) ∧ Below W0.heap.size W0 w' from
    fun W hW => (iMagPlus a b m n c1 c2 W B C (IX.out W hW).2.2.1 (IX.out W hW).2.2.2 (IX.out W hW).1 (IX.out W hW).2.1 hl hl').mono fun e w' ⟨a, c, he, hc, ho, hb⟩ => ⟨a, c, he, hc, ho.mono hW.size, hW.trans (hb.mono hW.size)⟩)
  have HCM := Lib.hid (show ∀ W, Below W0.heap.size W0 W → Calls Tryz.prog 120 #[.slice a (lim m).length c1, .slice b (lim n).length c2] W fun e w' => e = .returned (.int .i64 (cmpZ m n)) ∧ Below W0.heap.size W0 w' from
    fun W hW => (iMagCompare a b m n c1 c2 W B C (IX.out W hW).1 (IX.out W hW).2.1 (by omega) (by omega)).mono fun e w' ⟨k, he, hb⟩ => ⟨he, by rw [hb]; exact below_drewN hW k⟩)
  have HM1 := Lib.hid (show n ≤ m → ∀ W, Below W0.heap.size W0 W → Calls Tryz.prog 121 #[.slice a (lim m).length c1, .slice b (lim n).length c2] W fun e w' => ∃ a c, e = .returned (.slice a (lim (m - n)).length c) ∧ (lim (m - n)).length ≤ c ∧ Own w' W0.heap.size a (lim (m - n)) ∧ Below W0.heap.size W0 w' from
    fun hmn W hW => (iMagMinus a b m n c1 c2 W B C (IX.out W hW).2.2.1 (IX.out W hW).2.2.2 (IX.out W hW).1 (IX.out W hW).2.1 hl hmn).mono fun e w' ⟨a, c, he, hc, ho, hb⟩ => ⟨a, c, he, hc, ho.mono hW.size, hW.trans (hb.mono hW.size)⟩)
  have HM2 := Lib.hid (show m ≤ n → ∀ W, Below W0.heap.size W0 W → Calls Tryz.prog 121 #[.slice b (lim n).length c2, .slice a (lim m).length c1] W fun e w' => ∃ a c, e = .returned (.slice a (lim (n - m)).length c) ∧ (lim (n - m)).length ≤ c ∧ Own w' W0.heap.size a (lim (n - m)) ∧ Below W0.heap.size W0 w' from
    fun hmn W hW => (iMagMinus b a n m c2 c1 W C B (IX.out W hW).2.2.2 (IX.out W hW).2.2.1 (IX.out W hW).2.1 (IX.out W hW).1 hl' hmn).mono fun e w' ⟨a, c, he, hc, ho, hb⟩ => ⟨a, c, he, hc, ho.mono hW.size, hW.trans (hb.mono hW.size)⟩)
  have hT1 : Below W0.heap.size W0 (W0.drew.alloc (.cells #[.int .i64 s, .int .i64 t] 2)) := hT'.alloc (by simp) _
  have hT2 : Below W0.heap.size W0 (W0.alloc (.cells #[.int .i64 s, .int .i64 t] 2)).drew := (hT.alloc (by simp) _).drew
  clear p1 p2 p3 p4 p5 hx hy hl hl' hW0 hB hC IX
  have HSG := Lib.hid hs
  have HTG := Lib.hid ht
  have hst : (-1 ≤ s ∧ s ≤ 1) ∧ (-1 ≤ t ∧ t ≤ 1) := by unfold Sg at hs ht; omega
  obtain ⟨⟨hs1, hs2⟩, ht1, ht2⟩ := hst
  clear hs ht
  by_cases hge : 0 ≤ s * t
  · have hwr : IntKind.i64.wrap (s * t) = s * t := by
      have h1 : s = -1 ∨ s = 0 ∨ s = 1 := by omega
      rw [IntKind.wrap_i64]
      rcases h1 with rfl | rfl | rfl <;> omega
    have hor := fun (g c : Nat) (W : World) => iOr s t g c W
    have HOR := Lib.hid hor
    clear hor
    obtain ⟨r, hr⟩ : ∃ r, r = if s = 0 then t else s := ⟨_, rfl⟩
    rw [← hr] at HOR
    have hfin : sgnOf r (m + n) = (s * m + t * n).sign ∧ m + n = (s * m + t * n).natAbs := by
      refine sgnOf_eq ?_ ?_
      · rw [hr]
        have h1 := HSG.out; have h2 := HTG.out
        unfold Sg at h1 h2
        split <;> omega
      · rw [hr]
        have h1 := HSG.out; have h2 := HTG.out
        unfold Sg at h1 h2
        rcases h1 with ⟨rfl, rfl⟩ | ⟨h1, rfl | rfl⟩ <;> rcases h2 with ⟨rfl, rfl⟩ | ⟨h2, rfl | rfl⟩ <;> simp at hge ⊢ <;> omega
    have HF := Lib.hid hfin
    clear hfin hr
    go_enter Tryz.func91, Tryz.ntmps91
    go_wp2_with fail
    rw [HW0.out]
    go_region_held3 (fun W => W.cell? ⟨w.heap.size, 0, none⟩ = some (.int .i64 s) ∧ W.cell? ⟨w.heap.size, 1, none⟩ = some (.slice a (lim m).length c1) ∧ W.cell? ⟨w.heap.size + 1, 0, none⟩ = some (.int .i64 t) ∧ W.cell? ⟨w.heap.size + 1, 1, none⟩ = some (.slice b (lim n).length c2))
      (first | exact SS.out _ (by assumption) | exact ST.out _ _ _ (by assumption))
      (first
      | (go_at_call 65; refine (HS.out _ _ _ _ _ (by assumption)).mono ?_; rintro e w' ⟨rfl, hb⟩)
      | (go_at_call 119; refine (HOR.out _ _ _ (by simp) (by simp)).mono ?_; rintro e w' ⟨rfl, rfl⟩)
      | (go_at_call 118; refine (HPL.out _ (by assumption)).mono ?_; rintro e w' ⟨a', c', rfl, hc', ho', hb⟩)
      | (go_at_call 95; refine (HG.out _ _ _ _ _ (by assumption) (by assumption) (by assumption)).mono ?_; rintro e w' ⟨a', c', rfl, hc', ho', hb⟩; obtain ⟨q1, q2, q3, q4⟩ := SR.out _ hb))
    all_goals
      go_wp2_with fail
      refine bodyPost_ret (v := .agg #[.int .i64 (sgnOf r (m + n)), .slice a' (lim (m + n)).length c']) (by simp [results, Tryz.results91, go_sem, *]) rfl ?_
      exact retZ_end P3.out P4.out (by assumption) _ _ (by assumption) (by assumption) HF.out
  · have hwr : IntKind.i64.wrap (s * t) = s * t := by
      have h1 : s = -1 ∨ s = 0 ∨ s = 1 := by omega
      rw [IntKind.wrap_i64]
      rcases h1 with rfl | rfl | rfl <;> omega
    have hdge : decide (0 ≤ s * t) = false := decide_eq_false hge
    have hst2 : (s = 1 ∧ t = -1 ∨ s = -1 ∧ t = 1) := by
      have h1 : s = -1 ∨ s = 0 ∨ s = 1 := by omega
      have h2 : t = -1 ∨ t = 0 ∨ t = 1 := by omega
      rcases h1 with rfl | rfl | rfl <;> rcases h2 with rfl | rfl | rfl <;> simp at hge ⊢
    have HST := Lib.hid hst2
    clear hst2 hge
    by_cases hmn : m < n
    · rw [cmpZ_lt (by omega)] at HCM
      have HMM := Lib.hid (HM2.out (by omega))
      have hfin : sgnOf t (n - m) = (s * m + t * n).sign ∧ n - m = (s * m + t * n).natAbs := by
        have h1 := HST.out
        refine sgnOf_eq (by omega) ?_
        rw [Int.natCast_sub (by omega)]
        rcases h1 with ⟨rfl, rfl⟩ | ⟨rfl, rfl⟩ <;> omega
      have HF := Lib.hid hfin
      clear hfin hmn
      go_enter Tryz.func91, Tryz.ntmps91
      go_wp2_with fail
      rw [HW0.out]
      go_region_held3 (fun W => W.cell? ⟨w.heap.size, 0, none⟩ = some (.int .i64 s) ∧ W.cell? ⟨w.heap.size, 1, none⟩ = some (.slice a (lim m).length c1) ∧ W.cell? ⟨w.heap.size + 1, 0, none⟩ = some (.int .i64 t) ∧ W.cell? ⟨w.heap.size + 1, 1, none⟩ = some (.slice b (lim n).length c2))
        (first | exact SS.out _ (by assumption) | exact ST.out _ _ _ (by assumption))
        (first
        | (go_at_call 65; refine (HS.out _ _ _ _ _ (by assumption)).mono ?_; rintro e w' ⟨rfl, hb⟩)
        | (go_at_call 120; refine (HCM.out _ (by assumption)).mono ?_; rintro e w' ⟨rfl, hb⟩)
        | (go_at_call 95; refine (HG.out _ _ _ _ _ (by assumption) (by assumption) (by assumption)).mono ?_; rintro e w' ⟨a', c', rfl, hc', ho', hb⟩; obtain ⟨q1, q2, q3, q4⟩ := SR.out _ hb))
      have hbd := Below.drew hb
      go_wp2_with fail
      go_region_held3 (fun W => W.cell? ⟨w.heap.size, 0, none⟩ = some (.int .i64 s) ∧ W.cell? ⟨w.heap.size, 1, none⟩ = some (.slice a (lim m).length c1) ∧ W.cell? ⟨w.heap.size + 1, 0, none⟩ = some (.int .i64 t) ∧ W.cell? ⟨w.heap.size + 1, 1, none⟩ = some (.slice b (lim n).length c2))
        (first | exact SS.out _ (by assumption) | exact ST.out _ _ _ (by assumption))
        (first
        | (go_at_call 65; refine (HS.out _ _ _ _ _ (by assumption)).mono ?_; rintro e w' ⟨rfl, hb⟩)
        | (go_at_call 121; refine (HMM.out _ (by assumption)).mono ?_; rintro e w' ⟨a', c', rfl, hc', ho', hb⟩)
        | (go_at_call 95; refine (HG.out _ _ _ _ _ (by assumption) (by assumption) (by assumption)).mono ?_; rintro e w' ⟨a', c', rfl, hc', ho', hb⟩; obtain ⟨q1, q2, q3, q4⟩ := SR.out _ hb))
      go_wp2_with fail
      refine bodyPost_ret (v := .agg #[.int .i64 (sgnOf t (n - m)), .slice a' (lim (n - m)).length c']) (by simp [results, Tryz.results91, go_sem, *]) rfl ?_
      exact retZ_end P3.out P4.out (by assumption) _ _ (by assumption) (by assumption) HF.out
    · have hq : ∃ q : Int, q = cmpZ m n ∧ 0 ≤ q ∧ q ≤ 1 := ⟨_, rfl, by unfold cmpZ; repeat' split <;> omega, by unfold cmpZ; repeat' split <;> omega⟩
      obtain ⟨q, hq, hq0, hq1⟩ := hq
      rw [← hq] at HCM
      clear hq
      have hdq : decide (q < 0) = false := decide_eq_false (by omega)
      have HMM := Lib.hid (HM1.out (by omega))
      have hfin : sgnOf s (m - n) = (s * m + t * n).sign ∧ m - n = (s * m + t * n).natAbs := by
        have h1 := HST.out
        refine sgnOf_eq (by omega) ?_
        rw [Int.natCast_sub (by omega)]
        rcases h1 with ⟨rfl, rfl⟩ | ⟨rfl, rfl⟩ <;> omega
      have HF := Lib.hid hfin
      clear hfin hmn
      go_enter Tryz.func91, Tryz.ntmps91
      go_wp2_with fail
      rw [HW0.out]
      go_region_held3 (fun W => W.cell? ⟨w.heap.size, 0, none⟩ = some (.int .i64 s) ∧ W.cell? ⟨w.heap.size, 1, none⟩ = some (.slice a (lim m).length c1) ∧ W.cell? ⟨w.heap.size + 1, 0, none⟩ = some (.int .i64 t) ∧ W.cell? ⟨w.heap.size + 1, 1, none⟩ = some (.slice b (lim n).length c2))
        (first | exact SS.out _ (by assumption) | exact ST.out _ _ _ (by assumption))
        (first
        | (go_at_call 65; refine (HS.out _ _ _ _ _ (by assumption)).mono ?_; rintro e w' ⟨rfl, hb⟩)
        | (go_at_call 120; refine (HCM.out _ (by assumption)).mono ?_; rintro e w' ⟨rfl, hb⟩)
        | (go_at_call 95; refine (HG.out _ _ _ _ _ (by assumption) (by assumption) (by assumption)).mono ?_; rintro e w' ⟨a', c', rfl, hc', ho', hb⟩; obtain ⟨q1, q2, q3, q4⟩ := SR.out _ hb))
      have hbd := Below.drew hb
      go_wp2_with fail
      go_region_held3 (fun W => W.cell? ⟨w.heap.size, 0, none⟩ = some (.int .i64 s) ∧ W.cell? ⟨w.heap.size, 1, none⟩ = some (.slice a (lim m).length c1) ∧ W.cell? ⟨w.heap.size + 1, 0, none⟩ = some (.int .i64 t) ∧ W.cell? ⟨w.heap.size + 1, 1, none⟩ = some (.slice b (lim n).length c2))
        (first | exact SS.out _ (by assumption) | exact ST.out _ _ _ (by assumption))
        (first
        | (go_at_call 65; refine (HS.out _ _ _ _ _ (by assumption)).mono ?_; rintro e w' ⟨rfl, hb⟩)
        | (go_at_call 121; refine (HMM.out _ (by assumption)).mono ?_; rintro e w' ⟨a', c', rfl, hc', ho', hb⟩)
        | (go_at_call 95; refine (HG.out _ _ _ _ _ (by assumption) (by assumption) (by assumption)).mono ?_; rintro e w' ⟨a', c', rfl, hc', ho', hb⟩; obtain ⟨q1, q2, q3, q4⟩ := SR.out _ hb))
      go_wp2_with fail
      refine bodyPost_ret (v := .agg #[.int .i64 (sgnOf s (m - n)), .slice a' (lim (m - n)).length c']) (by simp [results, Tryz.results91, go_sem, *]) rfl ?_
      exact retZ_end P3.out P4.out (by assumption) _ _ (by assumption) (by assumption) HF.out

theorem retZ_end2 {w W0 W : World} {z : Int} {a : Option Addr} {c : Nat} {s : Int} {k : Nat} (P3 : Below w.heap.size w W0) (P4 : W0.heap.size = w.heap.size + 2) (hb : Below W0.heap.size W0 W) (u v : Value) (ho : Own W W0.heap.size a (lim k)) (hc : (lim k).length ≤ c) (hs : s = z.sign ∧ k = z.natAbs) :
    RetZ z w (.returned (.agg #[.int .i64 s, .slice a (lim k).length c])) ((W.setCell ⟨w.heap.size + 1, 0, none⟩ u).setCell ⟨w.heap.size + 1, 1, none⟩ v) := by
  obtain ⟨rfl, rfl⟩ := hs
  exact ⟨a, c, rfl, hc, ((ho.setFar (by simp; omega) _).setFar (by simp; omega) _).mono (by omega), ((P3.trans (hb.mono (by omega))).setCell (by simp <;> omega) _).setCell (by simp <;> omega) _⟩

set_option maxHeartbeats 2000000 in
theorem iNegated (s : Int) (a : Option Addr) (m c1 : Nat) (w : World) (B : Nat) (hB : B ≤ w.heap.size) (hx : Ints w B a (lim m)) (hs : Sg s m) (hl : (lim m).length ≤ 1048576) :
    Calls Tryz.prog 127 #[.agg #[.int .i64 s, .slice a (lim m).length c1]] w (RetZ (-(s * m)) w) := by
  obtain ⟨W0, hW0⟩ : ∃ W0 : World, (w.alloc (.cells #[.int .i64 s, .slice a (lim m).length c1] 60)).alloc (.cells #[.int .i64 0, .slice none 0 0] 60) = W0 := ⟨_, rfl⟩
  obtain ⟨p1, p5, p3, p4⟩ := two_box w 60 #[.int .i64 s, .slice a (lim m).length c1] #[.int .i64 0, .slice none 0 0]
  rw [hW0] at p1 p3 p4 p5
  have HW0 := Lib.hid hW0
  have P3 := Lib.hid p3
  have P4 := Lib.hid p4
  have SS := Lib.hid (show ∀ W, Below W0.heap.size W0 W → (W.cell? ⟨w.heap.size, 0, none⟩ = some (.int .i64 s) ∧ W.cell? ⟨w.heap.size, 1, none⟩ = some (.slice a (lim m).length c1)) from
    fun W hW => ⟨(p1.below hW).cell 0, (p1.below hW).cell 1⟩)
  have SR := Lib.hid (show ∀ W, Below W0.heap.size W0 W → (W.cell? ⟨w.heap.size + 1, 0, none⟩ = some (.int .i64 0) ∧ W.cell? ⟨w.heap.size + 1, 1, none⟩ = some (.slice none 0 0) ∧ W.frozen? ⟨w.heap.size + 1, 0, none⟩ = false ∧ W.frozen? ⟨w.heap.size + 1, 1, none⟩ = false) from
    fun W hW => (p5.below hW).two)
  have ST := Lib.hid (show ∀ W u v, Below W0.heap.size W0 W → (fun W : World => W.cell? ⟨w.heap.size, 0, none⟩ = some (.int .i64 s) ∧ W.cell? ⟨w.heap.size, 1, none⟩ = some (.slice a (lim m).length c1)) ((W.setCell ⟨w.heap.size + 1, 0, none⟩ u).setCell ⟨w.heap.size + 1, 1, none⟩ v) from fun W u v hW =>
    ⟨(((p1.below hW).far (by simp <;> omega) _).far (by simp <;> omega) _).cell 0, (((p1.below hW).far (by simp <;> omega) _).far (by simp <;> omega) _).cell 1⟩)
  have HS := Lib.hid (show ∀ (s : Int) (a : Option Addr) (n c : Nat) W, Below W0.heap.size W0 W → Calls Tryz.prog 65 #[.agg #[.int .i64 s, .slice a n c]] W fun e w' => e = .returned (.slice a n c) ∧ Below W0.heap.size W0 w' from
    fun s a n c W hW => (iSize s a n c W).mono fun e w' ⟨he, hb⟩ => ⟨he, hW.trans (hb.mono hW.size)⟩)
  have HG := Lib.hid (show ∀ (s : Int) (k : Nat) (a : Option Addr) (c : Nat) W, (lim k).length ≤ c → Own W W0.heap.size a (lim k) → Below W0.heap.size W0 W → Calls Tryz.prog 95 #[.int .i64 s, .slice a (lim k).length c] W fun e w' => ∃ a c, e = .returned (.agg #[.int .i64 (sgnOf s k), .slice a (lim k).length c]) ∧ (lim k).length ≤ c ∧ Own w' W0.heap.size a (lim k) ∧ Below W0.heap.size W0 w' from
    fun s k a c W h1 h2 hW => (iSigned s k a c W W0.heap.size h1 h2).mono fun e w' ⟨a, c, he, hc, ho, hb⟩ => ⟨a, c, he, hc, ho, hW.trans (hb.mono hW.size)⟩)
  have hT : Below W0.heap.size W0 W0 := Below.refl _ _
  have hT' : Below W0.heap.size W0 W0.drew := hT.drew
  have HCL := Lib.hid (show ∀ W, Below W0.heap.size W0 W → Calls Tryz.prog 142 #[.slice a (lim m).length c1] W fun e w' => ∃ a c, e = .returned (.slice a (lim m).length c) ∧ (lim m).length ≤ c ∧ Own w' W0.heap.size a (lim m) ∧ Below W0.heap.size W0 w' from
    fun W hW => (iClone a (lim m) c1 W B (by have := hW.size; omega) (by omega) (hx.below ((p3.mono hB).trans (hW.mono (by omega))))).mono fun e w' ⟨a, c, he, hc, ho, hb⟩ => ⟨a, c, he, hc, ho.mono hW.size, hW.trans (hb.mono hW.size)⟩)
  have hfin : sgnOf (-s) m = (-(s * m)).sign ∧ m = (-(s * m)).natAbs := sgnOf_eq (by unfold Sg at hs; omega) (by rw [Int.neg_mul])
  have HF := Lib.hid hfin
  have hs12 : -1 ≤ s ∧ s ≤ 1 := by unfold Sg at hs; omega
  obtain ⟨hs1, hs2⟩ := hs12
  have HWR := Lib.hid (show IntKind.i64.wrap (-s) = -s by rw [IntKind.wrap_i64]; omega)
  clear p1 p3 p4 p5 hx hl hW0 hB hfin hs
  have hneg := HWR.out
  go_enter Tryz.func127, Tryz.ntmps127
  go_wp2_with fail
  rw [HW0.out]
  go_region_held3 (fun W => W.cell? ⟨w.heap.size, 0, none⟩ = some (.int .i64 s) ∧ W.cell? ⟨w.heap.size, 1, none⟩ = some (.slice a (lim m).length c1))
    (first | exact SS.out _ (by assumption) | exact ST.out _ _ _ (by assumption))
    (first
    | (go_at_call 65; refine (HS.out _ _ _ _ _ (by assumption)).mono ?_; rintro e w' ⟨rfl, hb⟩)
    | (go_at_call 142; refine (HCL.out _ (by assumption)).mono ?_; rintro e w' ⟨a', c', rfl, hc', ho', hb⟩)
    | (go_at_call 95; refine (HG.out _ _ _ _ _ (by assumption) (by assumption) (by assumption)).mono ?_; rintro e w' ⟨a', c', rfl, hc', ho', hb⟩; obtain ⟨q1, q2, q3, q4⟩ := SR.out _ hb))
  go_wp2_with fail
  refine bodyPost_ret (v := .agg #[.int .i64 (sgnOf (-s) m), .slice a' (lim m).length c']) (by simp [results, Tryz.results127, go_sem, *]) rfl ?_
  exact retZ_end2 P3.out P4.out (by assumption) _ _ (by assumption) (by assumption) HF.out

/-- The value of a sign and limbs. -/
def wv (s : Int) (xs : List Int) : Int := s * (val (xs.map Int.toNat) : Int)
theorem wv_lim (s : Int) (n : Nat) : wv s (lim n) = s * n := by
  have : (lim n).map Int.toNat = dig n := by
    unfold lim ofN
    rw [List.map_map]
    have : (Int.toNat ∘ fun (x : Nat) => (x : Int)) = id := by funext x; simp
    rw [this, List.map_id]
  unfold wv
  rw [this, val_dig]
/-- A number if it fits, and the code. -/
def fitZ (z : Int) : Int × List Int × Int := fitW z.sign z.natAbs
noncomputable def binR (f : Int → Int → Int) (s : Int) (xs : List Int) (t : Int) (ys : List Int) : Int × List Int × Int := @ite _ (IsWh s xs ∧ IsWh t ys) (Classical.propDecidable _) (fitZ (f (wv s xs) (wv t ys))) (0, [], 1)
theorem binR_yes {f : Int → Int → Int} {s : Int} {xs : List Int} {t : Int} {ys : List Int} (h : IsWh s xs) (k : IsWh t ys) : binR f s xs t ys = fitZ (f (wv s xs) (wv t ys)) := by unfold binR; rw [if_pos ⟨h, k⟩]
theorem binR_no {f : Int → Int → Int} {s : Int} {xs : List Int} {t : Int} {ys : List Int} (h : ¬ (IsWh s xs ∧ IsWh t ys)) : binR f s xs t ys = (0, [], 1) := by unfold binR; rw [if_neg h]
theorem retWC_zero {w W0 W : World} (code : Int) (P3 : Below w.heap.size w W0) (P4 : W0.heap.size = w.heap.size + 3) (hb : Below W0.heap.size W0 W) (u v : Value) :
    RetWC (0, [], code) w.heap.size w (.returned (.tuple #[.agg #[.int .i64 0, .slice none 0 0], .int .i64 code])) ((W.setCell ⟨w.heap.size + 1 + 1, 0, none⟩ u).setCell ⟨w.heap.size + 1 + 1, 1, none⟩ v) :=
  ⟨none, 0, rfl, Nat.le_refl _, .inl rfl, ((P3.trans (hb.mono (by omega))).setCell (by simp <;> omega) _).setCell (by simp <;> omega) _⟩
theorem retWC_end {w W0 W : World} {r : Int × List Int × Int} {a : Option Addr} {c : Nat} (P3 : Below w.heap.size w W0) (P4 : W0.heap.size = w.heap.size + 3) (hb : Below W0.heap.size W0 W) (u v : Value) (ho : Own W W0.heap.size a r.2.1) (hc : r.2.1.length ≤ c) :
    RetWC r w.heap.size w (.returned (.tuple #[.agg #[.int .i64 r.1, .slice a r.2.1.length c], .int .i64 r.2.2])) ((W.setCell ⟨w.heap.size + 1 + 1, 0, none⟩ u).setCell ⟨w.heap.size + 1 + 1, 1, none⟩ v) :=
  ⟨a, c, rfl, hc, ((ho.setFar (by simp; omega) _).setFar (by simp; omega) _).mono (by omega), ((P3.trans (hb.mono (by omega))).setCell (by simp <;> omega) _).setCell (by simp <;> omega) _⟩

end Go.Proofs.YtgppagmejhgmaaaGreatDoor
