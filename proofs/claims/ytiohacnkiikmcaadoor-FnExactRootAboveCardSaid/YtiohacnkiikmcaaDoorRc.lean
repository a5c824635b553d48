/-
  The root above an exact number: maths. Conditions: none. Contract: RootAbove of the program. Conditions: the limbs can be read; the library's table is as its initialiser lays it. Contracts: l03Root and RootAbove of the model. Conditions: the limbs can be read.
-/
import Derived.Test.YtiohacnkiikmcaaDoorQm
import Derived.Test.YtiohacnkiikmcaaDoorRb
import Derived.Test.YtiohacnkiikmcaaDoorUc
import Derived.Deep.RegionHeld3
import Derived.BigQuiet
namespace Go.Proofs.YtiohacnkiikmcaaDoor
set_option linter.unusedVariables false
open Go Go.RowKit

theorem sgnOf_1 (N : Nat) : sgnOf 1 N = (N : Int).sign := by
  by_cases h : N = 0
  · subst h; simp [sgnOf_zero]
  · rw [sgnOf_pos h]; exact (Int.sign_eq_one_of_pos (by omega)).symm
theorem shZ_nn' {z k : Int} (h : 0 ≤ k) : shZ z k = z * 2 ^ k.toNat := by unfold shZ; rw [if_pos h]
theorem lim_succ_len (n : Nat) : (lim (n + 1)).length ≤ (lim n).length + 2 := by
  have h := lim_add_len n 1
  rw [lim_one] at h
  simp at h
  omega
/-- The number whose root is taken. -/
def upN (s : Int) (m : Nat) (x k : Int) : Nat := (-(shZ (-(s * (m : Int))) (x + 2 * k))).natAbs
/-- The least number whose square is not less. -/
def raN (n : Nat) : Nat := if rootN n * rootN n < n then rootN n + 1 else rootN n
theorem raN_up {n : Nat} (h : rootN n * rootN n < n) : raN n = rootN n + 1 := if_pos h
theorem raN_eq {n : Nat} (h : ¬ rootN n * rootN n < n) : raN n = rootN n := if_neg h
theorem raN_zero : raN 0 = 0 := by
  have h := rootN_le 0
  rw [raN_eq (by omega)]
  omega
def raF (s : Int) (m : Nat) (x k : Int) : Int × List Int × Int := redS 1 (raN (upN s m x k)) (-k)
noncomputable def rtY (s : Int) (xs : List Int) (x k : Int) : Int × List Int × Int × Int :=
  @ite _ (IsDy s xs x) (Classical.propDecidable _) (if (0 ≤ k ∧ k ≤ 200) ∧ ¬ s < 0 ∧ blen (val (xs.map Int.toNat)) + x ≤ 400 then fitY (raF s (val (xs.map Int.toNat)) x k) else (0, [], 0, 2)) (0, [], 0, 1)
theorem rtY_yes {s x k : Int} {m : Nat} (h : IsDy s (lim m) x) (h1 : 0 ≤ k ∧ k ≤ 200) (h2 : ¬ s < 0) (h3 : blen m + x ≤ 400) : rtY s (lim m) x k = fitY (raF s m x k) := by
  unfold rtY; rw [if_pos h, val_lim, if_pos ⟨h1, h2, h3⟩]
theorem rtY_rng {s x k : Int} {m : Nat} (h : IsDy s (lim m) x) (h1 : ¬ ((0 ≤ k ∧ k ≤ 200) ∧ ¬ s < 0 ∧ blen m + x ≤ 400)) : rtY s (lim m) x k = (0, [], 0, 2) := by
  unfold rtY; rw [if_pos h, val_lim, if_neg h1]
theorem rtY_no {s x k : Int} {xs : List Int} (h : ¬ IsDy s xs x) : rtY s xs x k = (0, [], 0, 1) := by unfold rtY; rw [if_neg h]
theorem rtY_len (s : Int) (xs : List Int) (x k : Int) : (rtY s xs x k).2.1.length ≤ 200 := by
  unfold rtY
  split
  · split
    · exact fitY_len _
    · simp
  · simp
theorem up_nonneg {s x k : Int} {m : Nat} (hs : Sg s m) (h : ¬ s < 0) : 0 ≤ -(shZ (-(s * (m : Int))) (x + 2 * k)) := by
  have h0 : s * (m : Int) = (m : Int) := by
    unfold Sg at hs
    rcases hs with ⟨rfl, rfl⟩ | ⟨_, rfl | rfl⟩
    · simp
    · simp
    · omega
  rw [h0]
  by_cases hk : 0 ≤ x + 2 * k
  · rw [shZ_nn' hk]
    have h1 : (0 : Int) < 2 ^ (x + 2 * k).toNat := Int.pow_pos (by omega)
    have h2 : 0 ≤ (m : Int) * 2 ^ (x + 2 * k).toNat := Int.mul_nonneg (by omega) (by omega)
    rw [Int.neg_mul]
    omega
  · obtain ⟨K, hK⟩ := Int.eq_ofNat_of_zero_le (show 0 ≤ -(x + 2 * k) by omega)
    have e : x + 2 * k = -(K : Int) := by omega
    rw [e, shZ_down _ _ (by omega)]
    have hP : (2 : Int) ^ K = ((2 ^ K : Nat) : Int) := by simp
    rw [hP, neg_ediv m _ (Nat.pow_pos (by omega))]
    omega
theorem up_sign {s x k : Int} {m : Nat} (hs : Sg s m) (h : ¬ s < 0) : (-(shZ (-(s * (m : Int))) (x + 2 * k))).sign = sgnOf 1 (upN s m x k) := by
  have h0 := up_nonneg (x := x) (k := k) hs h
  unfold upN
  obtain ⟨n, hn⟩ := Int.eq_ofNat_of_zero_le h0
  rw [hn, Int.natAbs_natCast, sgnOf_1]
theorem up_len {s x k : Int} {m : Nat} (hm : (lim m).length ≤ 200) (hs : Sg s m) (h : ¬ s < 0) (h1 : 0 ≤ k ∧ k ≤ 200) (h2 : blen m + x ≤ 400) : (lim (upN s m x k)).length ≤ 100 ∨ (lim (upN s m x k)).length ≤ (lim m).length := by
  have h0 : s * (m : Int) = (m : Int) := by
    unfold Sg at hs
    rcases hs with ⟨rfl, rfl⟩ | ⟨_, rfl | rfl⟩
    · simp
    · simp
    · omega
  unfold upN
  rw [h0]
  by_cases hk : 0 ≤ x + 2 * k
  · obtain ⟨K, hK⟩ := Int.eq_ofNat_of_zero_le hk
    rw [hK, shZ_up, Int.natAbs_neg, Int.natAbs_mul, Int.natAbs_neg, Int.natAbs_natCast]
    have e : ((2 : Int) ^ K).natAbs = 2 ^ K := by rw [show (2 : Int) ^ K = ((2 ^ K : Nat) : Int) by simp]; exact Int.natAbs_natCast _
    rw [e]
    obtain ⟨b, hb, _, hlt⟩ := blen_nat' hm
    have h3 : m * 2 ^ K ≤ 2 ^ (b + K) := by
      rw [Nat.pow_add]
      exact Nat.mul_le_mul_right _ (by omega)
    left
    refine Nat.le_trans (lim_le_of_le h3) (pow_len ?_)
    omega
  · obtain ⟨K, hK⟩ := Int.eq_ofNat_of_zero_le (show 0 ≤ -(x + 2 * k) by omega)
    have e : x + 2 * k = -(K : Int) := by omega
    rw [e, shZ_down _ _ (by omega), Int.natAbs_neg]
    have hP : (2 : Int) ^ K = ((2 ^ K : Nat) : Int) := by simp
    rw [hP]
    right
    have h4 := Int.natAbs_ediv_le_natAbs (-(m : Int)) ((2 ^ K : Nat) : Int)
    rw [Int.natAbs_neg, Int.natAbs_natCast] at h4
    exact lim_le_of_le h4
theorem up_lim {s x k : Int} {m : Nat} (hm : (lim m).length ≤ 200) (hs : Sg s m) (h : ¬ s < 0) (h1 : 0 ≤ k ∧ k ≤ 200) (h2 : blen m + x ≤ 400) : (lim (upN s m x k)).length ≤ 200 := by
  have := up_len hm hs h h1 h2
  omega
theorem raN_lim {n : Nat} (h : (lim n).length ≤ 200) : (lim (raN n)).length ≤ 202 := by
  have h1 := rootN_le n
  have h2 : raN n ≤ n + 1 := by
    unfold raN
    split <;> omega
  have h3 := lim_le_of_le h2
  have h4 := lim_succ_len n
  omega

set_option maxRecDepth 100000 in
set_option maxHeartbeats 2000000 in
theorem iMagRootAbove (a : Option Addr) (n c1 : Nat) (w : World) (B : Nat) (hB : B ≤ w.heap.size) (hx : Ints w B a (lim n)) (hln : (lim n).length ≤ 200) :
    Calls Tryd.prog 30 #[.slice a (lim n).length c1] w fun e w' => ∃ b d, e = .returned (.slice b (lim (raN n)).length d) ∧ (lim (raN n)).length ≤ d ∧ Own w' w.heap.size b (lim (raN n)) ∧ Below w.heap.size w w' := by
  obtain ⟨r, hr⟩ : ∃ r, r = rootN n := ⟨_, rfl⟩
  obtain ⟨q, hq⟩ : ∃ q, q = raN n := ⟨_, rfl⟩
  have hsp := rootN_spec n
  rw [← hr] at hsp
  have hlr : (lim r).length ≤ 200 := Nat.le_trans (lim_le_of_le (by rw [hr]; exact rootN_le n)) hln
  have hlrr : (lim (r * r)).length ≤ 400 := by have := lim_mul_len r r; omega
  have hT : Below w.heap.size w w := Below.refl _ _
  have HRT := Lib.hid (show Calls Tryd.prog 57 #[.slice a (lim n).length c1] w fun e w' => ∃ b d, e = .returned (.slice b (lim r).length d) ∧ (lim r).length ≤ d ∧ Own w' w.heap.size b (lim r) ∧ Below w.heap.size w w' from
    (iRoot a n c1 r w B hB hx hln hsp.1 hsp.2).mono fun e w' ⟨a, c, he, hc, ho, hb⟩ => ⟨a, c, he, hc, ho, hb⟩)
  have HTM := Lib.hid (show ∀ (a : Option Addr) (c : Nat) W, Below w.heap.size w W → Own W w.heap.size a (lim r) → Calls Tryd.prog 58 #[.slice a (lim r).length c, .slice a (lim r).length c] W fun e w' => ∃ b d, e = .returned (.slice b (lim (r * r)).length d) ∧ Own w' w.heap.size b (lim (r * r)) ∧ Below w.heap.size w w' ∧ Below W.heap.size W w' from
    fun a c W hW ho => (iTimes' a a r r c c W _ _ (Nat.le_refl _) (Nat.le_refl _) ho.ints ho.ints (by omega) (by omega)).mono fun e w' ⟨a, c, he, hc, ho, hb⟩ => ⟨a, c, he, ho.mono hW.size, hW.trans (hb.mono hW.size), hb⟩)
  have HCM := Lib.hid (show ∀ (b : Option Addr) (d : Nat) W, Below w.heap.size w W → Own W w.heap.size b (lim (r * r)) → Calls Tryd.prog 59 #[.slice b (lim (r * r)).length d, .slice a (lim n).length c1] W (RetQ (.int .i64 (cmpZ ((r * r : Nat) : Int) (n : Int))) W) from
    fun b d W hW ho => iMagCompare b a (r * r) n d c1 W _ _ ho.ints (hx.below (hW.mono hB)) (by omega) (by omega))
  have HPL := Lib.hid (show ∀ (a b : Option Addr) (c : Nat) W, Below w.heap.size w W → Own W w.heap.size a (lim r) → Ints W W.heap.size b [1] → Calls Tryd.prog 60 #[.slice a (lim r).length c, .slice b 1 1] W fun e w' => ∃ b d, e = .returned (.slice b (lim (r + 1)).length d) ∧ (lim (r + 1)).length ≤ d ∧ Own w' w.heap.size b (lim (r + 1)) ∧ Below w.heap.size w w' from
    fun a b c W hW ho hi => by
      have := iMagPlus a b r 1 c 1 W _ _ (Nat.le_refl _) (Nat.le_refl _) ho.ints (by rw [lim_one]; exact hi) (by omega) (by rw [lim_one]; simp)
      rw [lim_one] at this
      exact this.mono fun e w' ⟨a, c, he, hc, ho, hb⟩ => ⟨a, c, he, hc, ho.mono hW.size, hW.trans (hb.mono hW.size)⟩)
  obtain ⟨sqr, hsqr⟩ : ∃ z, z = r * r := ⟨_, rfl⟩
  rw [← hsqr] at HTM HCM
  have HQU := Lib.hid (show sqr < n → q = r + 1 from fun h => by rw [hq, raN_up (by rw [← hr, ← hsqr]; exact h), hr])
  have HQE := Lib.hid (show ¬ sqr < n → q = r from fun h => by rw [hq, raN_eq (by rw [← hr, ← hsqr]; exact h), hr])
  rw [← hq]
  clear hx hr hq hsp hlr hlrr hsqr hB hln
  by_cases hlt : sqr < n
  · have hqe := HQU.out hlt
    subst hqe
    rw [cmpZ_lt (show ((sqr : Nat) : Int) < (n : Int) by omega)] at HCM
    clear hlt HQU HQE
    go_enter Tryd.func30, Tryd.ntmps30
    go_wp2_with fail
    refine HRT.out.mono ?_
    rintro e w6 ⟨a6, c6, rfl, hc6, ho6, hb6⟩
    go_wp2_with fail
    refine (HTM.out _ _ _ hb6 ho6).mono ?_
    rintro e w7 ⟨a7, c7, rfl, ho7, hb7, hbb⟩
    replace ho6 := ho6.below hbb
    clear hbb hb6
    go_wp2_with fail
    refine (HCM.out _ _ _ hb7 ho7).mono ?_
    rintro e w8 ⟨kd, rfl, rfl⟩
    replace hb7 := below_drewN hb7 kd
    replace ho6 := ho6.drewN kd
    clear ho7
    go_wp2_with fail
    refine (HPL.out _ _ _ _ (below_alloc hb7 _) (ho6.alloc _) (ints_one _ _ _)).mono ?_
    rintro e w9 ⟨a9, c9, rfl, hc9, ho9, hb9⟩
    clear hb7 ho6 hc6
    go_wp2_with fail
    go_ret
    exact ⟨_, _, rfl, hc9, ho9, hb9⟩
  · have hqe := HQE.out hlt
    subst hqe
    obtain ⟨z, hz⟩ : ∃ z, z = cmpZ (sqr : Int) (n : Int) := ⟨_, rfl⟩
    have hcm : z = 0 ∨ z = 1 := by
      rw [hz]
      rcases Nat.lt_or_ge n sqr with h | h
      · right; exact cmpZ_gt (by omega)
      · left; exact cmpZ_eq (by omega)
    rw [← hz] at HCM
    have hz0 : decide (z < 0) = false := decide_eq_false (by omega)
    clear hz hcm hlt HQU HQE HPL
    go_enter Tryd.func30, Tryd.ntmps30
    go_wp2_with fail
    refine HRT.out.mono ?_
    rintro e w6 ⟨a6, c6, rfl, hc6, ho6, hb6⟩
    go_wp2_with fail
    refine (HTM.out _ _ _ hb6 ho6).mono ?_
    rintro e w7 ⟨a7, c7, rfl, ho7, hb7, hbb⟩
    replace ho6 := ho6.below hbb
    clear hbb hb6
    go_wp2_with fail
    refine (HCM.out _ _ _ hb7 ho7).mono ?_
    rintro e w8 ⟨kd, rfl, rfl⟩
    replace hb7 := below_drewN hb7 kd
    replace ho6 := ho6.drewN kd
    clear ho7
    go_wp2_with fail
    go_ret
    exact ⟨_, _, rfl, hc6, ho6, hb7⟩

theorem sgn1_sg (q : Nat) : Sg (sgnOf 1 q) q := by
  unfold Sg
  by_cases h0 : q = 0
  · rw [h0, sgnOf_zero]; omega
  · rw [sgnOf_pos h0]; omega
theorem redS_sgn1 (q : Nat) (x : Int) : redS (sgnOf 1 q) q x = redS 1 q x := by
  by_cases h0 : q = 0
  · rw [h0, redS_zero, redS_zero]
  · rw [sgnOf_pos h0]
set_option maxRecDepth 100000 in
set_option maxHeartbeats 1000000 in
theorem iMultipleOf (a : Option Addr) (q c : Nat) (k : Int) (w : World) (B : Nat) (hB : B ≤ w.heap.size) (ho : Own w B a (lim q)) (hc : (lim q).length ≤ c) (hl : (lim q).length ≤ 1000) (hk0 : -20000 ≤ k) (hk1 : k ≤ 20000) (hTab : Tab w) :
    Calls Tryd.prog 28 #[.slice a (lim q).length c, .int .i64 k] w (RetYR (redS 1 q (-k)) w) := by
  obtain ⟨W0, hW0⟩ : ∃ W0 : World, w.alloc (.cells #[.int .i64 0, .slice none 0 0, .int .i64 0] 32) = W0 := ⟨_, rfl⟩
  obtain ⟨p1, p3, p4⟩ := one_box w 32 #[.int .i64 0, .slice none 0 0, .int .i64 0]
  rw [hW0] at p1 p3 p4
  have HW0 := Lib.hid hW0
  have SR := Lib.hid (show ∀ W, Below W0.heap.size W0 W → _ from fun W hW => (p1.below hW).tri6)
  have P3 := Lib.hid p3
  have P4 := Lib.hid p4
  have hT : Below W0.heap.size W0 W0 := Below.refl _ _
  obtain ⟨mk, hmk⟩ : ∃ mk : Int, mk = -k := ⟨_, rfl⟩
  have hwk2 : wrap64 (-k) = mk := by rw [hmk]; unfold wrap64; omega
  have hwk3 : IntKind.i64.wrap (-k) = mk := by rw [hmk, IntKind.wrap_i64]; omega
  have HG := Lib.hid (show Calls Tryd.prog 53 #[.int .i64 1, .slice a (lim q).length c] W0 fun e w' => ∃ a c, e = .returned (.agg #[.int .i64 (sgnOf 1 q), .slice a (lim q).length c]) ∧ Own w' B a (lim q) ∧ Below W0.heap.size W0 w' from
    (iSigned 1 q a c W0 B hc (by rw [← hW0]; exact ho.alloc _)).mono fun e w' ⟨a, c, he, hc, ho, hb⟩ => ⟨a, c, he, ho, hb⟩)
  rw [← hmk]
  obtain ⟨⟨u1, u2, u3⟩, hu⟩ : ∃ u, u = redS 1 q mk := ⟨_, rfl⟩
  rw [← hu]
  have HP := Lib.hid (show ∀ (a : Option Addr) (c : Nat) W, Below W0.heap.size W0 W → Own W B a (lim q) → Calls Tryd.prog 52 #[.agg #[.int .i64 (sgnOf 1 q), .slice a (lim q).length c], .int .i64 mk] W fun e w' => ∃ a c, e = .returned (.agg #[.int .i64 u1, .slice a u2.length c, .int .i64 u3]) ∧ u2.length ≤ c ∧ Own w' W0.heap.size a u2 ∧ Below W0.heap.size W0 w' from
    fun a c W hW ho => by
      have := iReduced (sgnOf 1 q) a q c mk W _ (Nat.le_refl _) ho.ints (sgn1_sg q) (by omega) (by omega) (by omega) ((hTab.below p3).below hW)
      rw [redS_sgn1, ← hu] at this
      exact this.mono fun e w' ⟨a, c, he, hc, ho, hb⟩ => ⟨a, c, he, hc, ho.mono hW.size, hW.trans (hb.mono hW.size)⟩)
  obtain ⟨g2, hg2⟩ : ∃ g, g = sgnOf 1 q := ⟨_, rfl⟩
  rw [← hg2] at HG HP
  clear hg2 hu hmk ho hc hl hB hTab hk0 hk1 hW0 p1 p3 p4
  go_enter Tryd.func28, Tryd.ntmps28
  go_wp2_with fail
  rw [HW0.out]
  refine HG.out.mono ?_
  rintro e w1 ⟨a1, c1, rfl, ho1, hb1⟩
  go_wp2_with fail
  refine (HP.out _ _ _ hb1 ho1).mono ?_
  rintro e w2 ⟨a2, c2, rfl, hc2, ho2, hb2⟩
  have HC := Lib.hid hc2
  have HO := Lib.hid ho2
  clear ho1 hb1 hc2 ho2
  obtain ⟨q1, q2, q3, q4, q5, q6⟩ := SR.out _ hb2
  go_wp2_with fail
  refine bodyPost_ret (v := .agg #[.int .i64 u1, .slice a2 u2.length c2, .int .i64 u3]) (by simp [results, Tryd.results28, go_sem, *]) rfl ?_
  exact retYR_end (g := w.heap.size) (r := (u1, u2, u3)) P3.out P4.out hb2 (by omega) (by omega) _ _ _ HO.out HC.out

set_option maxRecDepth 100000 in
set_option maxHeartbeats 4000000 in
theorem iRootAbove (s : Int) (a : Option Addr) (xs : List Int) (c1 : Nat) (x k : Int) (w : World) (B : Nat) (hB : B ≤ w.heap.size) (hx : Ints w B a xs) (hl : xs.length ≤ 9223372036854775807) (hTab : Tab w) :
    Calls Tryd.prog 11 #[.agg #[.int .i64 s, .slice a xs.length c1, .int .i64 x], .int .i64 k] w (RetYC (rtY s xs x k) w.heap.size w) := by
  obtain ⟨W0, hW0⟩ : ∃ W0 : World, (w.alloc (.cells #[.int .i64 s, .slice a xs.length c1, .int .i64 x] 32)).alloc (.cells #[.int .i64 0, .slice none 0 0, .int .i64 0] 32) = W0 := ⟨_, rfl⟩
  obtain ⟨p1, p2, p3, p4⟩ := two_boxT w 32 32 #[.int .i64 s, .slice a xs.length c1, .int .i64 x] #[.int .i64 0, .slice none 0 0, .int .i64 0]
  rw [hW0] at p1 p2 p3 p4
  have HW0 := Lib.hid hW0
  have P3 := Lib.hid p3
  have P4 := Lib.hid p4
  have HTB := Lib.hid (show ∀ W, Below W0.heap.size W0 W → Tab W from fun W hW => (hTab.below p3).below hW)
  clear hTab
  have SS := Lib.hid (show ∀ W, Below W0.heap.size W0 W → (W.cell? ⟨w.heap.size, 0, none⟩ = some (.int .i64 s) ∧ W.cell? ⟨w.heap.size, 1, none⟩ = some (.slice a xs.length c1) ∧ W.cell? ⟨w.heap.size, 2, none⟩ = some (.int .i64 x)) from
    fun W hW => (p1.below hW).tri)
  have SR := Lib.hid (show ∀ W, Below W0.heap.size W0 W → _ from fun W hW => (p2.below hW).tri6)
  have hT : Below W0.heap.size W0 W0 := Below.refl _ _
  have IX := Lib.hid (show ∀ W, Below W0.heap.size W0 W → Ints W B a xs ∧ B ≤ W.heap.size from fun W hW => ⟨hx.below ((p3.mono hB).trans (hW.mono (by omega))), by have := hW.size; omega⟩)
  have HI := Lib.hid (show ∀ W, Below W0.heap.size W0 W → Calls Tryd.prog 18 #[.agg #[.int .i64 s, .slice a xs.length c1, .int .i64 x]] W fun e w' => e = .returned (.bool (dyB s xs x)) ∧ Below W0.heap.size W0 w' from
    fun W hW => (iIsDyadic s a xs c1 x W B (IX.out W hW).2 hl (IX.out W hW).1).mono fun e w' ⟨he, hb⟩ => ⟨he, hW.trans (hb.mono hW.size)⟩)
  have HS := Lib.hid (show ∀ (s : Int) (a : Option Addr) (n c : Nat) W, Below W0.heap.size W0 W → Calls Tryd.prog 25 #[.agg #[.int .i64 s, .slice a n c]] W fun e w' => e = .returned (.slice a n c) ∧ Below W0.heap.size W0 w' ∧ Below W.heap.size W w' from
    fun s a n c W hW => (iSize s a n c W).mono fun e w' ⟨he, hb⟩ => ⟨he, hW.trans (hb.mono hW.size), hb⟩)
  obtain ⟨k1, k2, k3⟩ := SS.out _ hT
  cases h1 : dyB s xs x
  · rw [rtY_no (fun h => by rw [dyB_iff.2 h] at h1; cases h1)]
    rw [h1] at HI
    clear h1
    clear p1 p2 p3 p4 hx hW0 hB hl IX
    go_enter Tryd.func11, Tryd.ntmps11
    go_wp2_with fail
    rw [HW0.out]
    refine (HI.out _ hT).mono ?_
    rintro e w1 ⟨rfl, hb⟩
    clear k1 k2 k3
    obtain ⟨k1, k2, k3⟩ := SS.out _ hb
    obtain ⟨q1, q2, q3, q4, q5, q6⟩ := SR.out _ hb
    go_wp2_with fail
    refine bodyPost_ret (v := .tuple #[.agg #[.int .i64 0, .slice none 0 0, .int .i64 0], .int .i64 1]) (by simp [results, Tryd.results11, go_sem, *]) rfl ?_
    exact retYC_zero (g := w.heap.size + 1) 1 P3.out P4.out hb (by omega) _ _ _
  · have e1 := Lib.hid (dyB_iff.1 h1)
    rw [h1] at HI
    clear h1
    obtain ⟨m, rfl, hm, sm, hx1, hx2⟩ := isDy_of e1.out
    have RNG := Lib.hid (show ¬ ((0 ≤ k ∧ k ≤ 200) ∧ ¬ s < 0 ∧ blen m + x ≤ 400) → rtY s (lim m) x k = (0, [], 0, 2) from rtY_rng e1.out)
    by_cases hk0 : k < 0
    · rw [RNG.out (by omega)]
      have hd0 : decide (k < 0) = true := decide_eq_true hk0
      clear RNG e1 hm sm hx1 hx2 hk0
      clear p1 p2 p3 p4 hx hW0 hB hl IX
      go_enter Tryd.func11, Tryd.ntmps11
      go_wp2_with fail
      rw [HW0.out]
      refine (HI.out _ hT).mono ?_
      rintro e w1 ⟨rfl, hb⟩
      clear k1 k2 k3
      obtain ⟨k1, k2, k3⟩ := SS.out _ hb
      obtain ⟨q1, q2, q3, q4, q5, q6⟩ := SR.out _ hb
      go_wp2_with fail
      refine bodyPost_ret (v := .tuple #[.agg #[.int .i64 0, .slice none 0 0, .int .i64 0], .int .i64 2]) (by simp [results, Tryd.results11, go_sem, *]) rfl ?_
      exact retYC_zero (g := w.heap.size + 1) 2 P3.out P4.out hb (by omega) _ _ _
    · have hd0 : decide (k < 0) = false := decide_eq_false hk0
      by_cases hk1 : 200 < k
      · rw [RNG.out (by omega)]
        have hd1 : decide (200 < k) = true := decide_eq_true hk1
        clear RNG e1 hm sm hx1 hx2 hk0 hk1
        clear p1 p2 p3 p4 hx hW0 hB hl IX
        go_enter Tryd.func11, Tryd.ntmps11
        go_wp2_with fail
        rw [HW0.out]
        refine (HI.out _ hT).mono ?_
        rintro e w1 ⟨rfl, hb⟩
        clear k1 k2 k3
        obtain ⟨k1, k2, k3⟩ := SS.out _ hb
        obtain ⟨q1, q2, q3, q4, q5, q6⟩ := SR.out _ hb
        go_wp2_with fail
        refine bodyPost_ret (v := .tuple #[.agg #[.int .i64 0, .slice none 0 0, .int .i64 0], .int .i64 2]) (by simp [results, Tryd.results11, go_sem, *]) rfl ?_
        exact retYC_zero (g := w.heap.size + 1) 2 P3.out P4.out hb (by omega) _ _ _
      · have hd1 : decide (200 < k) = false := decide_eq_false hk1
        by_cases hs0 : s < 0
        · rw [RNG.out (by omega)]
          have hd2 : decide (s < 0) = true := decide_eq_true hs0
          clear RNG e1 hm sm hx1 hx2 hk0 hk1 hs0
          have HLN := Lib.hid True.intro
          clear p1 p2 p3 p4 hx hW0 hB hl IX
          go_enter Tryd.func11, Tryd.ntmps11
          go_wp2_with fail
          rw [HW0.out]
          refine (HI.out _ hT).mono ?_
          rintro e w1 ⟨rfl, hb⟩
          clear k1 k2 k3
          have hbd := hb.drew
          obtain ⟨k1, k2, k3⟩ := SS.out _ hb
          go_wp2_with fail
          go_quiet (fail)
          all_goals
            obtain ⟨q1, q2, q3, q4, q5, q6⟩ := SR.out _ hb
            go_wp2_with fail
            refine bodyPost_ret (v := .tuple #[.agg #[.int .i64 0, .slice none 0 0, .int .i64 0], .int .i64 2]) (by simp [results, Tryd.results11, go_sem, *]) rfl ?_
            exact retYC_zero (g := w.heap.size + 1) 2 P3.out P4.out (below_drewN hb _) (by omega) _ _ _
        · have hd2 : decide (s < 0) = false := decide_eq_false hs0
          obtain ⟨b, hb, hb1, _⟩ := blen_nat' hm
          obtain ⟨y, hy⟩ : ∃ y : Int, y = (b : Int) + x := ⟨_, rfl⟩
          have hwy : IntKind.i64.wrap ((b : Int) + x) = y := by rw [hy, IntKind.wrap_i64]; omega
          have hwy2 : wrap64 ((b : Int) + x) = y := by rw [hy]; unfold wrap64; omega
          have HLN := Lib.hid (show ∀ W, Below W0.heap.size W0 W → Calls Tryd.prog 26 #[.slice a (lim m).length c1] W fun e w' => e = .returned (.int .i64 (b : Int)) ∧ W = w' from
            fun W hW => by
              have := iMagLength a m c1 W B (IX.out W hW).1 (by omega)
              rw [hb] at this
              exact this)
          have lencall := HS.out
          by_cases hy4 : 400 < y
          · rw [RNG.out (by omega)]
            have hd3 : decide (400 < y) = true := decide_eq_true hy4
            clear RNG e1 hm sm hx1 hx2 hk0 hk1 hs0 hy4 hb hb1 hy lencall
            clear p1 p2 p3 p4 hx hW0 hB hl IX
            go_enter Tryd.func11, Tryd.ntmps11
            go_wp2_with fail
            rw [HW0.out]
            refine (HI.out _ hT).mono ?_
            rintro e w1 ⟨rfl, hb⟩
            clear k1 k2 k3
            have hbd := hb.drew
            obtain ⟨k1, k2, k3⟩ := SS.out _ hb
            go_wp2_with fail
            go_region_held3 (fun W => W.cell? ⟨w.heap.size, 0, none⟩ = some (.int .i64 s) ∧ W.cell? ⟨w.heap.size, 1, none⟩ = some (.slice a (lim m).length c1) ∧ W.cell? ⟨w.heap.size, 2, none⟩ = some (.int .i64 x))
              (exact SS.out _ (by assumption))
              (first
              | (go_at_call 25; with_reducible refine (HS.out _ _ _ _ _ (by assumption)).mono ?_; rintro e w2 ⟨rfl, hb2, _⟩)
              | (go_at_call 26; with_reducible refine (HLN.out _ (by assumption)).mono ?_; rintro e w3 ⟨rfl, rfl⟩))
            all_goals
              obtain ⟨q1, q2, q3, q4, q5, q6⟩ := SR.out _ hb2
              go_wp2_with fail
              refine bodyPost_ret (v := .tuple #[.agg #[.int .i64 0, .slice none 0 0, .int .i64 0], .int .i64 2]) (by simp [results, Tryd.results11, go_sem, *]) rfl ?_
              exact retYC_zero (g := w.heap.size + 1) 2 P3.out P4.out hb2 (by omega) _ _ _
          · have hd3 : decide (400 < y) = false := decide_eq_false hy4
            rw [rtY_yes e1.out ⟨by omega, by omega⟩ hs0 (by omega)]
            obtain ⟨n, hn⟩ : ∃ n, n = upN s m x k := ⟨_, rfl⟩
            have hln : (lim n).length ≤ 200 := by rw [hn]; exact up_lim hm sm hs0 ⟨by omega, by omega⟩ (by omega)
            have hsg : (-(shZ (-(s * (m : Int))) (x + 2 * k))).sign = sgnOf 1 n := by rw [hn]; exact up_sign sm hs0
            have hab : (-(shZ (-(s * (m : Int))) (x + 2 * k))).natAbs = n := by rw [hn]; rfl
            obtain ⟨q, hq⟩ : ∃ q, q = raN n := ⟨_, rfl⟩
            have hlq : (lim q).length ≤ 202 := by rw [hq]; exact raN_lim hln
            obtain ⟨kk, hkk⟩ : ∃ kk : Int, kk = 2 * k := ⟨_, rfl⟩
            have hwk : wrap64 (2 * k) = kk := by rw [hkk]; unfold wrap64; omega
            have hwk4 : IntKind.i64.wrap (2 * k) = kk := by rw [hkk, IntKind.wrap_i64]; omega
            have HCE := Lib.hid (show ∀ W, Below W0.heap.size W0 W → Calls Tryd.prog 29 #[.agg #[.int .i64 s, .slice a (lim m).length c1, .int .i64 x], .int .i64 kk] W fun e w' => ∃ a c, e = .returned (.agg #[.int .i64 (sgnOf 1 n), .slice a (lim n).length c]) ∧ Own w' W0.heap.size a (lim n) ∧ Below W0.heap.size W0 w' from
              fun W hW => by
                have := iCeilW s a m c1 x kk W B (IX.out W hW).2 (IX.out W hW).1 sm hm (by omega) (by omega) (by omega) (by omega) (HTB.out W hW)
                rw [hkk] at this ⊢
                unfold RetZ at this
                rw [hsg, hab] at this
                exact this.mono fun e w' ⟨a, c, he, _, ho, hb⟩ => ⟨a, c, he, ho.mono hW.size, hW.trans (hb.mono hW.size)⟩)
            have HRA := Lib.hid (show ∀ (a : Option Addr) (c : Nat) W, Below W0.heap.size W0 W → Own W W0.heap.size a (lim n) → Calls Tryd.prog 30 #[.slice a (lim n).length c] W fun e w' => ∃ b d, e = .returned (.slice b (lim q).length d) ∧ (lim q).length ≤ d ∧ Own w' W0.heap.size b (lim q) ∧ Below W0.heap.size W0 w' from
              fun a c W hW ho => by
                have := iMagRootAbove a n c W W.heap.size (Nat.le_refl _) ho.ints hln
                rw [← hq] at this
                exact this.mono fun e w' ⟨a, c, he, hc, ho, hb⟩ => ⟨a, c, he, hc, ho.mono hW.size, hW.trans (hb.mono hW.size)⟩)
            obtain ⟨⟨u1, u2, u3⟩, hu⟩ : ∃ u, u = raF s m x k := ⟨_, rfl⟩
            have hre : redS 1 q (-k) = (u1, u2, u3) := by
              rw [hu, raF, ← hn, ← hq]
            have HU := Lib.hid (show u2.length ≤ 9223372036854775807 from by
              have h2 : u2 = (redS 1 q (-k)).2.1 := by rw [hre]
              rw [h2]
              exact Nat.le_trans (redS_len _ _ _) (by omega))
            have HMO := Lib.hid (show ∀ (a : Option Addr) (c : Nat) W, Below W0.heap.size W0 W → (lim q).length ≤ c → Own W W0.heap.size a (lim q) → Calls Tryd.prog 28 #[.slice a (lim q).length c, .int .i64 k] W fun e w' => ∃ a c, e = .returned (.agg #[.int .i64 u1, .slice a u2.length c, .int .i64 u3]) ∧ u2.length ≤ c ∧ Own w' W0.heap.size a u2 ∧ Below W0.heap.size W0 w' from
              fun a c W hW hc ho => by
                have := iMultipleOf a q c k W _ hW.size ho hc (by omega) (by omega) (by omega) (HTB.out W hW)
                rw [hre] at this
                exact this.mono fun e w' ⟨a, c, he, hc, ho, hb⟩ => ⟨a, c, he, hc, ho.mono hW.size, hW.trans (hb.mono hW.size)⟩)
            rw [← hu]
            obtain ⟨⟨r1, r2, r4, r3⟩, hrr⟩ : ∃ r, r = fitY (u1, u2, u3) := ⟨_, rfl⟩
            have HLM := Lib.hid (show ∀ (a : Option Addr) (c : Nat) W, u2.length ≤ c → Own W W0.heap.size a u2 → Below W0.heap.size W0 W → Calls Tryd.prog 27 #[.agg #[.int .i64 u1, .slice a u2.length c, .int .i64 u3]] W fun e w' => ∃ a c, e = .returned (.tuple #[.agg #[.int .i64 r1, .slice a r2.length c, .int .i64 r4], .int .i64 r3]) ∧ r2.length ≤ c ∧ Own w' W0.heap.size a r2 ∧ Below W0.heap.size W0 w' from
              fun a c W hc ho hW => by
                have := iLimitY u1 u2 u3 a c W W0.heap.size HU.out hc ho
                rw [← hrr] at this
                exact this.mono fun e w' ⟨a, c, he, hc, ho, hb⟩ => ⟨a, c, he, hc, ho, hW.trans (hb.mono hW.size)⟩)
            rw [← hrr]
            obtain ⟨g, hg⟩ : ∃ g, g = sgnOf 1 n := ⟨_, rfl⟩
            rw [← hg] at HCE
            clear p1 p2 p3 p4 hx hW0 hB hl IX RNG e1 hm sm hx1 hx2 hk0 hk1 hs0 hy4 hb hb1 hy lencall hn hln hsg hab hq hlq hkk hu hre hrr hg
            go_enter Tryd.func11, Tryd.ntmps11
            go_wp2_with fail
            rw [HW0.out]
            clear k1 k2 k3
            refine (HI.out _ hT).mono ?_
            rintro e w1 ⟨rfl, hb1⟩
            obtain ⟨k1, k2, k3⟩ := SS.out _ hb1
            have hbd := hb1.drew
            go_wp2_with fail
            go_region_held3 (fun W => W.cell? ⟨w.heap.size, 0, none⟩ = some (.int .i64 s) ∧ W.cell? ⟨w.heap.size, 1, none⟩ = some (.slice a (lim m).length c1) ∧ W.cell? ⟨w.heap.size, 2, none⟩ = some (.int .i64 x))
              (exact SS.out _ (by assumption))
              (first
              | (go_at_call 25; with_reducible refine (HS.out _ _ _ _ _ (by assumption)).mono ?_; rintro e w2 ⟨rfl, hb2, _⟩)
              | (go_at_call 26; with_reducible refine (HLN.out _ (by assumption)).mono ?_; rintro e w3 ⟨rfl, rfl⟩))
            all_goals
              clear k1 k2 k3 hb1 hbd
              obtain ⟨k1, k2, k3⟩ := SS.out _ hb2
              go_wp2_with fail
              refine (HCE.out _ hb2).mono ?_
              rintro e w4 ⟨a4, c4, rfl, ho4, hb4⟩
              clear k1 k2 k3 hb2
              go_wp2_with fail
              refine (HS.out _ _ _ _ _ hb4).mono ?_
              rintro e w5 ⟨rfl, hb5, hbb⟩
              replace ho4 := ho4.below hbb
              clear hbb hb4
              go_wp2_with fail
              refine (HRA.out _ _ _ hb5 ho4).mono ?_
              rintro e w6 ⟨a6, c6, rfl, hc6, ho6, hb6⟩
              clear hb5 ho4
              go_wp2_with fail
              refine (HMO.out _ _ _ hb6 hc6 ho6).mono ?_
              rintro e w11 ⟨a11, c11, rfl, hc11, ho11, hb11⟩
              clear hc6 ho6 hb6
              go_wp2_with fail
              refine (HLM.out _ _ _ hc11 ho11 hb11).mono ?_
              rintro e w12 ⟨a12, c12, rfl, hc12, ho12, hb12⟩
              clear hc11 ho11 hb11
              have HC4 := Lib.hid hc12
              have HO4 := Lib.hid ho12
              clear hc12 ho12
              obtain ⟨q1, q2, q3, q4, q5, q6⟩ := SR.out _ hb12
              go_wp2_with fail
              refine bodyPost_ret (v := .tuple #[.agg #[.int .i64 r1, .slice a12 r2.length c12, .int .i64 r4], .int .i64 r3]) (by simp [results, Tryd.results11, go_sem, *]) rfl ?_
              exact retYC_end (g := w.heap.size + 1) (r := (r1, r2, r4, r3)) P3.out P4.out hb12 (by omega) (by omega) _ _ _ HO4.out HC4.out

theorem od_tw {n : Nat} (h : n ≠ 0) : od n * 2 ^ tw n = n := by
  have h1 := (od_mul h).1
  rw [Nat.mul_comm]
  exact h1.symm
theorem ceF_zero {s x k : Int} {m : Nat} (h : upN s m x k = 0) : ceF s m x (2 * k) = (0, [], 0) := by
  unfold upN at h
  unfold ceF redZ
  rw [h, redS_zero]
theorem ceF_pos {s x k : Int} {m : Nat} (hs : Sg s m) (h0 : ¬ s < 0) (h : upN s m x k ≠ 0) : ceF s m x (2 * k) = (1, lim (od (upN s m x k)), -(2 * k) + (tw (upN s m x k) : Int)) := by
  have h1 := up_sign (x := x) (k := k) hs h0
  rw [sgnOf_pos h] at h1
  unfold ceF redZ
  rw [h1]
  exact redS_pos h
set_option maxRecDepth 100000 in
set_option maxHeartbeats 8000000 in
theorem sRt3 (s : Int) (a : Option Addr) (m c1 : Nat) (x k : Int) (w : World) (B : Nat) (hB : B ≤ w.heap.size) (hx : Ints w B a (lim m)) (hs : Sg s m) (hs0 : ¬ s < 0) (hl : (lim m).length ≤ 200) (hc1 : (lim m).length ≤ c1) (hx1 : -5000 ≤ x) (hx2 : x ≤ 5000) (hk : 0 ≤ k ∧ k ≤ 200) (hb : blen m + x ≤ 400) :
    Calls Tryd.prog 24 #[.agg #[.int .i64 s, .slice a (lim m).length c1, .int .i64 x], .int .i64 k] w (RetYR (raF s m x k) w) := by
  obtain ⟨W0, hW0⟩ : ∃ W0 : World, (w.alloc (.cells #[.int .i64 s, .slice a (lim m).length c1, .int .i64 x] 32)).alloc (.cells #[.int .i64 0, .slice none 0 0, .int .i64 0] 32) = W0 := ⟨_, rfl⟩
  obtain ⟨p1, p2, p3, p4⟩ := two_boxT w 32 32 #[.int .i64 s, .slice a (lim m).length c1, .int .i64 x] #[.int .i64 0, .slice none 0 0, .int .i64 0]
  rw [hW0] at p1 p2 p3 p4
  have HW0 := Lib.hid hW0
  have P3 := Lib.hid p3
  have P4 := Lib.hid p4
  have SS := Lib.hid (show ∀ W, Below W0.heap.size W0 W → (W.cell? ⟨w.heap.size, 0, none⟩ = some (.int .i64 s) ∧ W.cell? ⟨w.heap.size, 1, none⟩ = some (.slice a (lim m).length c1) ∧ W.cell? ⟨w.heap.size, 2, none⟩ = some (.int .i64 x)) from
    fun W hW => (p1.below hW).tri)
  have SR := Lib.hid (show ∀ W, Below W0.heap.size W0 W → _ from fun W hW => (p2.below hW).tri6)
  have hT : Below W0.heap.size W0 W0 := Below.refl _ _
  have IX := Lib.hid (show ∀ W, Below W0.heap.size W0 W → Ints W B a (lim m) ∧ B ≤ W.heap.size from fun W hW => ⟨hx.below ((p3.mono hB).trans (hW.mono (by omega))), by have := hW.size; omega⟩)
  obtain ⟨n, hn⟩ : ∃ n, n = upN s m x k := ⟨_, rfl⟩
  have hln : (lim n).length ≤ 200 := by rw [hn]; exact up_lim hl hs hs0 hk hb
  obtain ⟨r, hr⟩ : ∃ r, r = rootN n := ⟨_, rfl⟩
  obtain ⟨q, hq⟩ : ∃ q, q = raN n := ⟨_, rfl⟩
  have hsp := rootN_spec n
  rw [← hr] at hsp
  have hlr : (lim r).length ≤ 200 := Nat.le_trans (lim_le_of_le (by rw [hr]; exact rootN_le n)) hln
  have hlq : (lim q).length ≤ 202 := by rw [hq]; exact raN_lim hln
  obtain ⟨kk, hkk⟩ : ∃ kk : Int, kk = 2 * k := ⟨_, rfl⟩
  obtain ⟨mk, hmk⟩ : ∃ mk : Int, mk = -k := ⟨_, rfl⟩
  have hwk : wrap64 (2 * k) = kk := by rw [hkk]; unfold wrap64; omega
  have hwk2 : wrap64 (-k) = mk := by rw [hmk]; unfold wrap64; omega
  have hra : raF s m x k = redS (sgnOf 1 q) q mk := by
    rw [raF, ← hn, ← hq, hmk]
    by_cases h0 : q = 0
    · rw [h0, redS_zero, redS_zero]
    · rw [sgnOf_pos h0]
  rw [hra]
  obtain ⟨k1, k2, k3⟩ := SS.out _ hT
  by_cases h0 : n = 0
  · have hce : ceF s m x kk = (0, [], 0) := by rw [hkk]; exact ceF_zero (by rw [← hn]; exact h0)
    have hq0 : q = 0 := by rw [hq, h0, raN_zero]
    rw [hq0, redS_zero]
    have HCE := Lib.hid (show ∀ W, Below W0.heap.size W0 W → Calls Tryd.prog 43 #[.agg #[.int .i64 s, .slice a (lim m).length c1, .int .i64 x], .int .i64 kk] W fun e w' => ∃ a c, e = .returned (.agg #[.int .i64 0, .slice a 0 c, .int .i64 0]) ∧ Below W0.heap.size W0 w' from
      fun W hW => by
        have := sCeil3 s a m c1 x kk W B (IX.out W hW).2 (IX.out W hW).1 hs hl hc1 (by omega) (by omega) (by omega) (by omega)
        rw [hce] at this
        exact this.mono fun e w' ⟨a, c, he, _, ho, hb⟩ => ⟨a, c, he, hW.trans (hb.mono hW.size)⟩)
    clear p1 p2 p3 p4 hx hW0 hB hl IX hs hs0 hc1 hx1 hx2 hk hb hn hln hr hq hsp hlr hlq hkk hmk hra hce hq0 h0
    go_enter Tryd.func24, Tryd.ntmps24
    go_wp2_with fail
    rw [HW0.out]
    refine (HCE.out _ hT).mono ?_
    rintro e w1 ⟨a1, d1, rfl, hb1⟩
    clear k1 k2 k3
    obtain ⟨q1, q2, q3, q4, q5, q6⟩ := SR.out _ hb1
    have HSZ := hb1.size
    have hsz1 : w.heap.size + 1 < w1.heap.size := by have := P4.out; omega
    go_wp2_with fail
    refine bodyPost_ret (v := .agg #[.int .i64 0, .slice none 0 0, .int .i64 0]) (by simp [results, Tryd.results24, go_sem, *]) rfl ?_
    exact (retYR_zero (g := w.heap.size + 1) P3.out P4.out hb1 (by omega) _ _ _).alloc _
  · have hce : ceF s m x kk = (1, lim (od n), -kk + (tw n : Int)) := by rw [hkk, hn]; exact ceF_pos hs hs0 (by rw [← hn]; exact h0)
    have hot := od_tw h0
    have hlo : (lim (od n)).length ≤ 200 := Nat.le_trans (lim_le_of_le (od_le n)) hln
    have htw : tw n ≤ 4800 := by have := tw_len h0; rw [← lim_length] at this; omega
    obtain ⟨t, ht⟩ : ∃ t, t = tw n := ⟨_, rfl⟩
    obtain ⟨d, hd⟩ : ∃ d, d = od n := ⟨_, rfl⟩
    rw [← ht, ← hd] at hot hce
    rw [← hd] at hlo
    rw [← ht] at htw
    obtain ⟨ue, hue⟩ : ∃ ue : Int, ue = -kk + (t : Int) := ⟨_, rfl⟩
    rw [← hue] at hce
    have hwt : wrap64 (ue + kk) = (t : Int) := by rw [hue]; unfold wrap64; omega
    have HCE := Lib.hid (show ∀ W, Below W0.heap.size W0 W → Calls Tryd.prog 43 #[.agg #[.int .i64 s, .slice a (lim m).length c1, .int .i64 x], .int .i64 kk] W fun e w' => ∃ a c, e = .returned (.agg #[.int .i64 1, .slice a (lim d).length c, .int .i64 ue]) ∧ Own w' W0.heap.size a (lim d) ∧ Below W0.heap.size W0 w' from
      fun W hW => by
        have := sCeil3 s a m c1 x kk W B (IX.out W hW).2 (IX.out W hW).1 hs hl hc1 (by omega) (by omega) (by omega) (by omega)
        rw [hce] at this
        exact this.mono fun e w' ⟨a, c, he, _, ho, hb⟩ => ⟨a, c, he, ho.mono hW.size, hW.trans (hb.mono hW.size)⟩)
    have HLF := Lib.hid (show ∀ (a : Option Addr) (c : Nat) W, Below W0.heap.size W0 W → Own W W0.heap.size a (lim d) → Calls Tryd.prog 44 #[.agg #[.int .i64 1, .slice a (lim d).length c], .int .i64 (t : Int)] W fun e w' => ∃ a c, e = .returned (.agg #[.int .i64 1, .slice a (lim n).length c]) ∧ Own w' W0.heap.size a (lim n) ∧ Below W0.heap.size W0 w' from
      fun a c W hW ho => by
        have := sLeft 1 a d c t W _ (Nat.le_refl _) ho.ints (by omega) (by omega)
        rw [hot, sgnOf_pos h0] at this
        exact this.mono fun e w' ⟨a, c, he, _, ho, hb⟩ => ⟨a, c, he, ho.mono hW.size, hW.trans (hb.mono hW.size)⟩)
    have sgn1 : Sg 1 n := .inr ⟨h0, .inl rfl⟩
    have HRT := Lib.hid (show ∀ (a : Option Addr) (c : Nat) W, Below W0.heap.size W0 W → Own W W0.heap.size a (lim n) → Calls Tryd.prog 45 #[.agg #[.int .i64 1, .slice a (lim n).length c]] W fun e w' => ∃ b d, e = .returned (.agg #[.int .i64 (sgnOf 1 r), .slice b (lim r).length d]) ∧ (lim r).length ≤ d ∧ Own w' W0.heap.size b (lim r) ∧ Below W0.heap.size W0 w' ∧ Below W.heap.size W w' from
      fun a c W hW ho => (sRoot 1 a n c r W W.heap.size (Nat.le_refl _) ho.ints sgn1 (by omega) hln hsp.1 hsp.2).mono fun e w' ⟨a, c, he, hc, ho, hb⟩ => ⟨a, c, he, hc, ho.mono hW.size, hW.trans (hb.mono hW.size), hb⟩)
    have hlrr : (lim (r * r)).length ≤ 400 := by have := lim_mul_len r r; omega
    have HML := Lib.hid (show ∀ (a : Option Addr) (c : Nat) W, Own W W0.heap.size a (lim r) → Calls Tryd.prog 47 #[.agg #[.int .i64 (sgnOf 1 r), .slice a (lim r).length c], .agg #[.int .i64 (sgnOf 1 r), .slice a (lim r).length c]] W fun e w' => ∃ b d, e = .returned (.agg #[.int .i64 (sgnOf 1 (r * r)), .slice b (lim (r * r)).length d]) ∧ Own w' W.heap.size b (lim (r * r)) ∧ Below W.heap.size W w' from
      fun a c W ho => by
        have := sMul (sgnOf 1 r) (sgnOf 1 r) a a r r c c W _ _ (Nat.le_refl _) (Nat.le_refl _) ho.ints ho.ints (sgn_self r).1 (sgn_self r).1 (by omega) (by omega)
        rw [(sgn_self r).2, show (r : Int) * (r : Int) = ((r * r : Nat) : Int) by simp] at this
        unfold RetZ at this
        rw [← sgnOf_1, Int.natAbs_natCast] at this
        exact this.mono fun e w' ⟨a, c, he, hc, ho, hb⟩ => ⟨a, c, he, ho, hb⟩)
    have HCM := Lib.hid (show ∀ (a b : Option Addr) (c d : Nat) W, Own W W0.heap.size a (lim (r * r)) → Own W W0.heap.size b (lim n) → Calls Tryd.prog 46 #[.agg #[.int .i64 (sgnOf 1 (r * r)), .slice a (lim (r * r)).length c], .agg #[.int .i64 1, .slice b (lim n).length d]] W fun e w' => e = .returned (.int .i64 (cmpZ ((r * r : Nat) : Int) (n : Int))) ∧ Below W.heap.size W w' from
      fun a b c d W ho hp => by
        have := sCompare (sgnOf 1 (r * r)) 1 a b (r * r) n c d W _ _ (Nat.le_refl _) (Nat.le_refl _) ho.ints hp.ints (sgn_self _).1 sgn1 (by omega) (by omega)
        rw [(sgn_self _).2, Int.one_mul] at this
        exact this)
    have HOF := Lib.hid (show ∀ W, Calls Tryd.prog 49 #[.int .i64 1] W fun e w' => ∃ b d, e = .returned (.agg #[.int .i64 1, .slice b 1 d]) ∧ 1 ≤ d ∧ Own w' W.heap.size b [1] ∧ Below W.heap.size W w' from fun W => by
      have := sOfP 1 (by omega) W
      unfold RetN at this
      rw [sgnOf_pos (by omega), lim_one] at this
      exact this)
    have HAD := Lib.hid (show ∀ (a b : Option Addr) (c d : Nat) W, Own W W0.heap.size a (lim r) → (lim r).length ≤ c → Own W W0.heap.size b [1] → 1 ≤ d → Calls Tryd.prog 48 #[.agg #[.int .i64 (sgnOf 1 r), .slice a (lim r).length c], .agg #[.int .i64 1, .slice b 1 d]] W fun e w' => ∃ x c, e = .returned (.agg #[.int .i64 (sgnOf 1 (r + 1)), .slice x (lim (r + 1)).length c]) ∧ Own w' W.heap.size x (lim (r + 1)) ∧ Below W.heap.size W w' from
      fun a b c d W ho hc hp hd => by
        have := sAdd (sgnOf 1 r) 1 a b r 1 c d W _ _ (Nat.le_refl _) (Nat.le_refl _) ho.ints (by rw [lim_one]; exact hp.ints) (sgn_self r).1 (.inr ⟨by omega, .inl rfl⟩) (by omega) (by rw [lim_one]; simp) hc (by rw [lim_one]; exact hd)
        rw [(sgn_self r).2, show (r : Int) + 1 * ((1 : Nat) : Int) = ((r + 1 : Nat) : Int) by simp, lim_one] at this
        unfold RetZ at this
        rw [← sgnOf_1, Int.natAbs_natCast] at this
        exact this.mono fun e w' ⟨a, c, he, hc, ho, hb⟩ => ⟨a, c, he, ho, hb⟩)
    obtain ⟨⟨u1, u2, u3⟩, hu⟩ : ∃ u, u = redS (sgnOf 1 q) q mk := ⟨_, rfl⟩
    have sq : Sg (sgnOf 1 q) q := (sgn_self q).1
    have HMK := Lib.hid (show ∀ (a : Option Addr) (c : Nat) W, Below W0.heap.size W0 W → Own W W0.heap.size a (lim q) → Calls Tryd.prog 50 #[.agg #[.int .i64 (sgnOf 1 q), .slice a (lim q).length c], .int .i64 mk] W fun e w' => ∃ a c, e = .returned (.agg #[.int .i64 u1, .slice a u2.length c, .int .i64 u3]) ∧ u2.length ≤ c ∧ Own w' W0.heap.size a u2 ∧ Below W0.heap.size W0 w' from
      fun a c W hW ho => by
        have := sMake3 (sgnOf 1 q) a q c mk W _ (Nat.le_refl _) ho.ints sq (by omega) (by omega) (by omega)
        rw [← hu] at this
        exact this.mono fun e w' ⟨a, c, he, hc, ho, hb⟩ => ⟨a, c, he, hc, ho.mono hW.size, hW.trans (hb.mono hW.size)⟩)
    rw [← hu]
    obtain ⟨sqr, hsqr⟩ : ∃ z, z = r * r := ⟨_, rfl⟩
    rw [← hsqr] at HML HCM
    have HQU := Lib.hid (show sqr < n → q = r + 1 from fun h => by rw [hq, raN_up (by rw [← hr, ← hsqr]; exact h), hr])
    have HQE := Lib.hid (show ¬ sqr < n → q = r from fun h => by rw [hq, raN_eq (by rw [← hr, ← hsqr]; exact h), hr])
    obtain ⟨gr, hgr⟩ : ∃ g, g = sgnOf 1 r := ⟨_, rfl⟩
    obtain ⟨gs, hgs⟩ : ∃ g, g = sgnOf 1 sqr := ⟨_, rfl⟩
    rw [← hgr] at HRT HML HAD
    rw [← hgs] at HML HCM
    have HGR := Lib.hid hgr
    clear p1 p2 p3 p4 hx hW0 hB hl IX hs hs0 hc1 hx1 hx2 hk hb hn hln hr hq hsp hlr hlq hkk hmk hra hce h0 hot hlo htw ht hd hue sgn1 hlrr hu sq hsqr hgr hgs
    go_enter Tryd.func24, Tryd.ntmps24
    go_wp2_with fail
    rw [HW0.out]
    refine (HCE.out _ hT).mono ?_
    rintro e w1 ⟨a1, d1, rfl, ho1, hb1⟩
    clear k1 k2 k3
    go_wp2_with fail
    refine (HLF.out _ _ _ (below_alloc hb1 _) (ho1.alloc _)).mono ?_
    rintro e w2 ⟨a2, d2, rfl, ho2, hb2⟩
    clear ho1 hb1
    have hbox2 := BoxAt.new w2 30 #[.int .i64 1, .slice a2 (lim n).length d2]
    go_wp2_with fail
    refine (HRT.out _ _ _ (below_alloc hb2 _) (ho2.alloc _)).mono ?_
    rintro e w3 ⟨a3, d3, rfl, hc3, ho3, hb3, hbb⟩
    have hb2s := hb2.size
    have hbx := hbox2.below hbb
    have ho2' := (ho2.alloc (.cells #[.int .i64 1, .slice a2 (lim n).length d2] 30)).below hbb
    have hszb := hbb.size
    simp only [size_al] at hszb
    obtain ⟨W1, hW1⟩ : ∃ W1 : World, w3.alloc (.cells #[.int .i64 gr, .slice a3 (lim r).length d3] 30) = W1 := ⟨_, rfl⟩
    have q1 := BoxAt.new w3 30 #[.int .i64 gr, .slice a3 (lim r).length d3]
    have q2 := hbx.alloc (.cells #[.int .i64 gr, .slice a3 (lim r).length d3] 30)
    have q3 := ho3.alloc (.cells #[.int .i64 gr, .slice a3 (lim r).length d3] 30)
    have q4 := ho2'.alloc (.cells #[.int .i64 gr, .slice a3 (lim r).length d3] 30)
    have q5 := below_alloc hb3 (.cells #[.int .i64 gr, .slice a3 (lim r).length d3] 30)
    have q6 : W1.heap.size = w3.heap.size + 1 := by rw [← hW1]; simp
    rw [hW1] at q1 q2 q3 q4 q5
    have HW1 := Lib.hid hW1
    have HB1 := Lib.hid q5
    have HS1 := Lib.hid (show w2.heap.size < w3.heap.size ∧ W1.heap.size = w3.heap.size + 1 ∧ W0.heap.size ≤ w2.heap.size from ⟨by omega, q6, hb2s⟩)
    have HB2 := Lib.hid (show BoxAt W1 w3.heap.size 30 #[.int .i64 gr, .slice a3 (lim r).length d3] from q1)
    have SV := Lib.hid (show ∀ W, Below W1.heap.size W1 W → (W.cell? ⟨w3.heap.size, 0, none⟩ = some (.int .i64 gr) ∧ W.cell? ⟨w3.heap.size, 1, none⟩ = some (.slice a3 (lim r).length d3) ∧ W.cell? ⟨w2.heap.size, 0, none⟩ = some (.int .i64 1) ∧ W.cell? ⟨w2.heap.size, 1, none⟩ = some (.slice a2 (lim n).length d2)) from
      fun W hW => ⟨(q1.below hW).cell 0, (q1.below hW).cell 1, (q2.below hW).cell 0, (q2.below hW).cell 1⟩)
    have HML1 := Lib.hid (show ∀ W, Below W1.heap.size W1 W → Calls Tryd.prog 47 #[.agg #[.int .i64 gr, .slice a3 (lim r).length d3], .agg #[.int .i64 gr, .slice a3 (lim r).length d3]] W fun e w' => ∃ b d, e = .returned (.agg #[.int .i64 gs, .slice b (lim sqr).length d]) ∧ Own w' W0.heap.size b (lim sqr) ∧ Below W1.heap.size W1 w' from
      fun W hW => (HML.out _ _ W (q3.below hW)).mono fun e w' ⟨a, c, he, ho, hb⟩ => ⟨a, c, he, ho.mono (by have := hW.size; have := q5.size; omega), hW.trans (hb.mono hW.size)⟩)
    have HCM1 := Lib.hid (show ∀ (a : Option Addr) (c : Nat) W, Below W1.heap.size W1 W → Own W W0.heap.size a (lim sqr) → Calls Tryd.prog 46 #[.agg #[.int .i64 gs, .slice a (lim sqr).length c], .agg #[.int .i64 1, .slice a2 (lim n).length d2]] W fun e w' => e = .returned (.int .i64 (cmpZ (sqr : Int) (n : Int))) ∧ Below W1.heap.size W1 w' from
      fun a c W hW ho => (HCM.out _ _ _ _ W ho (q4.below hW)).mono fun e w' ⟨he, hb⟩ => ⟨he, hW.trans (hb.mono hW.size)⟩)
    have HOF1 := Lib.hid (show ∀ W, Below W1.heap.size W1 W → Calls Tryd.prog 49 #[.int .i64 1] W fun e w' => ∃ b d, e = .returned (.agg #[.int .i64 1, .slice b 1 d]) ∧ 1 ≤ d ∧ Own w' W0.heap.size b [1] ∧ Below W1.heap.size W1 w' from
      fun W hW => (HOF.out W).mono fun e w' ⟨b, d, he, hd, ho, hb⟩ => ⟨b, d, he, hd, ho.mono (by have := hW.size; have := q5.size; omega), hW.trans (hb.mono hW.size)⟩)
    have HAD1 := Lib.hid (show ∀ (b : Option Addr) (d : Nat) W, Below W1.heap.size W1 W → Own W W0.heap.size b [1] → 1 ≤ d → Calls Tryd.prog 48 #[.agg #[.int .i64 gr, .slice a3 (lim r).length d3], .agg #[.int .i64 1, .slice b 1 d]] W fun e w' => ∃ x c, e = .returned (.agg #[.int .i64 (sgnOf 1 (r + 1)), .slice x (lim (r + 1)).length c]) ∧ Own w' W1.heap.size x (lim (r + 1)) ∧ Below W1.heap.size W1 w' from
      fun b d W hW ho hd => (HAD.out _ _ _ _ W (q3.below hW) hc3 ho hd).mono fun e w' ⟨x, c, he, ho, hb⟩ => ⟨x, c, he, ho.mono hW.size, hW.trans (hb.mono hW.size)⟩)
    have HQ3 := Lib.hid q3
    have hV : Below W1.heap.size W1 W1 := Below.refl _ _
    have hVd : Below W1.heap.size W1 W1.drew := hV.drew
    clear q1 q2 q3 q4 q5 q6 hbx ho2' hszb hbox2 hb2 ho2 hbb ho3 hb3 hW1 hb2s hc3
    clear HML HCM HOF HAD HRT HLF HCE
    go_wp2_with fail
    rw [HW1.out]
    go_region_held3 (fun W => W.cell? ⟨w3.heap.size, 0, none⟩ = some (.int .i64 gr) ∧ W.cell? ⟨w3.heap.size, 1, none⟩ = some (.slice a3 (lim r).length d3) ∧ W.cell? ⟨w2.heap.size, 0, none⟩ = some (.int .i64 1) ∧ W.cell? ⟨w2.heap.size, 1, none⟩ = some (.slice a2 (lim n).length d2))
      (exact SV.out _ (by assumption))
      (first
      | (go_at_call 47; with_reducible refine (HML1.out _ (by assumption)).mono ?_; rintro e w4 ⟨a4, d4, rfl, ho4, hb4⟩)
      | (go_at_call 46; with_reducible refine (HCM1.out _ _ _ (by assumption) (by assumption)).mono ?_; rintro e w5 ⟨rfl, hb5⟩))
    all_goals
      have hsz5 := hb5.size
      by_cases hlt : sqr < n
      · have hqe := HQU.out hlt
        subst hqe
        rw [cmpZ_lt (show ((sqr : Nat) : Int) < (n : Int) by omega)]
        have hb5d := hb5.drew
        clear hlt HQU HQE ho4 hb4
        obtain ⟨y1, y2, y3, y4⟩ := SV.out _ hb5
        go_wp2_with fail
        go_region_with ((first
          | (go_at_call 49; with_reducible refine (HOF1.out _ (by first | exact hb5 | exact hb5d)).mono ?_; rintro e w6 ⟨a6, d6, rfl, hd6, ho6, hb6⟩; clear y1 y2 y3 y4; obtain ⟨y1, y2, y3, y4⟩ := SV.out _ hb6)
          | (go_at_call 48; with_reducible refine (HAD1.out _ _ _ hb6 ho6 hd6).mono ?_; rintro e w7 ⟨x7, d7, rfl, ho7, hb7⟩; clear y1 y2 y3 y4; have hx7 := HB2.out.below hb7; obtain ⟨z1, z2, z3, z4⟩ := hx7.two)))
        all_goals
          have hbe := below_set2 (HB1.out.trans (hb7.mono HB1.out.size)) (show W0.heap.size ≤ w3.heap.size by have := HS1.out; omega) (.int .i64 (sgnOf 1 (r + 1))) (.slice x7 (lim (r + 1)).length d7)
          have howe := ((ho7.setFar (p := ⟨w3.heap.size, 0, none⟩) (by have := HS1.out; show w3.heap.size < _; omega) (.int .i64 (sgnOf 1 (r + 1)))).setFar (p := ⟨w3.heap.size, 1, none⟩) (by have := HS1.out; show w3.heap.size < _; omega) (.slice x7 (lim (r + 1)).length d7)).mono HB1.out.size
          clear hb5 hb5d hb6 ho6 hd6 ho7 hb7 hx7
          go_wp2_with fail
          refine (HMK.out _ _ _ hbe howe).mono ?_
          rintro e w8 ⟨a8, c8, rfl, hc8, ho8, hb8⟩
          have HO8 := Lib.hid ho8
          have HC8 := Lib.hid hc8
          obtain ⟨q1, q2, q3, q4, q5, q6⟩ := SR.out _ hb8
          clear hc8 ho8 howe
          go_wp2_with fail
          refine bodyPost_ret (v := .agg #[.int .i64 u1, .slice a8 u2.length c8, .int .i64 u3]) (by simp [results, Tryd.results24, go_sem, *]) rfl ?_
          exact retYR_end (g := w.heap.size + 1) (r := (u1, u2, u3)) P3.out P4.out hb8 (by omega) (by omega) _ _ _ HO8.out HC8.out
      · have hqe := HQE.out hlt
        subst hqe
        rw [← HGR.out] at HMK
        have hcm : cmpZ (sqr : Int) (n : Int) = 0 ∨ cmpZ (sqr : Int) (n : Int) = 1 := by
          rcases Nat.lt_or_ge n sqr with h | h
          · right; exact cmpZ_gt (by omega)
          · left; exact cmpZ_eq (by omega)
        obtain ⟨z, hz⟩ : ∃ z, z = cmpZ (sqr : Int) (n : Int) := ⟨_, rfl⟩
        rw [← hz] at hcm ⊢
        have hz0 : decide (z < 0) = false := decide_eq_false (by omega)
        rw [hz0]
        have hbe := HB1.out.trans (hb5.mono HB1.out.size)
        have howe := HQ3.out.below hb5
        obtain ⟨y1, y2, y3, y4⟩ := SV.out _ hb5
        clear hz hcm hz0 hlt HQU HQE ho4 hb4 hb5
        go_wp2_with fail
        refine (HMK.out _ _ _ hbe howe).mono ?_
        rintro e w8 ⟨a8, c8, rfl, hc8, ho8, hb8⟩
        have HO8 := Lib.hid ho8
        have HC8 := Lib.hid hc8
        obtain ⟨q1, q2, q3, q4, q5, q6⟩ := SR.out _ hb8
        clear hc8 ho8 howe
        go_wp2_with fail
        refine bodyPost_ret (v := .agg #[.int .i64 u1, .slice a8 u2.length c8, .int .i64 u3]) (by simp [results, Tryd.results24, go_sem, *]) rfl ?_
        exact retYR_end (g := w.heap.size + 1) (r := (u1, u2, u3)) P3.out P4.out hb8 (by omega) (by omega) _ _ _ HO8.out HC8.out

set_option maxRecDepth 100000 in
set_option maxHeartbeats 4000000 in
theorem sRootAbove (s : Int) (a : Option Addr) (xs : List Int) (c1 : Nat) (x k : Int) (w : World) (B : Nat) (hB : B ≤ w.heap.size) (hx : Ints w B a xs) (hl : xs.length ≤ 9223372036854775807) (hc1 : xs.length ≤ c1) :
    Calls Tryd.prog 10 #[.agg #[.int .i64 s, .slice a xs.length c1, .int .i64 x], .int .i64 k] w (RetYC (rtY s xs x k) w.heap.size w) := by
  obtain ⟨W0, hW0⟩ : ∃ W0 : World, (w.alloc (.cells #[.int .i64 s, .slice a xs.length c1, .int .i64 x] 32)).alloc (.cells #[.int .i64 0, .slice none 0 0, .int .i64 0] 32) = W0 := ⟨_, rfl⟩
  obtain ⟨p1, p2, p3, p4⟩ := two_boxT w 32 32 #[.int .i64 s, .slice a xs.length c1, .int .i64 x] #[.int .i64 0, .slice none 0 0, .int .i64 0]
  rw [hW0] at p1 p2 p3 p4
  have HW0 := Lib.hid hW0
  have P3 := Lib.hid p3
  have P4 := Lib.hid p4
  have SS := Lib.hid (show ∀ W, Below W0.heap.size W0 W → (W.cell? ⟨w.heap.size, 0, none⟩ = some (.int .i64 s) ∧ W.cell? ⟨w.heap.size, 1, none⟩ = some (.slice a xs.length c1) ∧ W.cell? ⟨w.heap.size, 2, none⟩ = some (.int .i64 x)) from
    fun W hW => (p1.below hW).tri)
  have SR := Lib.hid (show ∀ W, Below W0.heap.size W0 W → _ from fun W hW => (p2.below hW).tri6)
  have hT : Below W0.heap.size W0 W0 := Below.refl _ _
  have IX := Lib.hid (show ∀ W, Below W0.heap.size W0 W → Ints W B a xs ∧ B ≤ W.heap.size from fun W hW => ⟨hx.below ((p3.mono hB).trans (hW.mono (by omega))), by have := hW.size; omega⟩)
  obtain ⟨rc, hrc⟩ : ∃ rc, rc = rangeC s xs x k 0 200 := ⟨_, rfl⟩
  have HI := Lib.hid (show ∀ W, Below W0.heap.size W0 W → Calls Tryd.prog 21 #[.agg #[.int .i64 s, .slice a xs.length c1, .int .i64 x], .int .i64 k, .int .i64 0, .int .i64 200] W fun e w' => e = .returned (.int .i64 rc) ∧ Below W0.heap.size W0 w' from
    fun W hW => by
      have := sRange s a xs c1 x k 0 200 W B (IX.out W hW).2 hl (IX.out W hW).1
      rw [← hrc] at this
      exact this.mono fun e w' ⟨he, hb⟩ => ⟨he, hW.trans (hb.mono hW.size)⟩)
  obtain ⟨k1, k2, k3⟩ := SS.out _ hT
  by_cases h0 : rc = 0
  · have hdy : dyB s xs x = true := by
      cases h1 : dyB s xs x
      · rw [hrc] at h0; unfold rangeC at h0; rw [h1] at h0; simp at h0
      · rfl
    have hk : 0 ≤ k ∧ k ≤ 200 := by
      apply Decidable.byContradiction
      intro h
      rw [hrc] at h0; unfold rangeC at h0; rw [hdy, if_pos rfl, if_neg h] at h0; omega
    have e1 := Lib.hid (dyB_iff.1 hdy)
    obtain ⟨m, rfl, hm, sm, hx1, hx2⟩ := isDy_of e1.out
    have RNG := Lib.hid (show ¬ ((0 ≤ k ∧ k ≤ 200) ∧ ¬ s < 0 ∧ blen m + x ≤ 400) → rtY s (lim m) x k = (0, [], 0, 2) from rtY_rng e1.out)
    subst h0
    by_cases hs0 : s < 0
    · rw [RNG.out (by omega)]
      have hd2 : decide (s < 0) = true := decide_eq_true hs0
      clear RNG e1 hm sm hx1 hx2 hs0 hrc hdy hk p1 p2 p3 p4 hx hW0 hB hl IX hc1
      go_enter Tryd.func10, Tryd.ntmps10
      go_wp2_with fail
      rw [HW0.out]
      refine (HI.out _ hT).mono ?_
      rintro e w1 ⟨rfl, hb⟩
      clear k1 k2 k3
      obtain ⟨k1, k2, k3⟩ := SS.out _ hb
      go_wp2_with fail
      go_quiet (fail)
      all_goals
        obtain ⟨q1, q2, q3, q4, q5, q6⟩ := SR.out _ hb
        go_wp2_with fail
        refine bodyPost_ret (v := .tuple #[.agg #[.int .i64 0, .slice none 0 0, .int .i64 0], .int .i64 2]) (by simp [results, Tryd.results10, go_sem, *]) rfl ?_
        exact retYC_zero (g := w.heap.size + 1) 2 P3.out P4.out (below_drewN hb _) (by omega) _ _ _
    · have hd2 : decide (s < 0) = false := decide_eq_false hs0
      obtain ⟨b, hbl, hb1, _⟩ := blen_nat' hm
      obtain ⟨y, hy⟩ : ∃ y : Int, y = (b : Int) + x := ⟨_, rfl⟩
      have hwy : IntKind.i64.wrap ((b : Int) + x) = y := by rw [hy, IntKind.wrap_i64]; omega
      have hwy2 : wrap64 ((b : Int) + x) = y := by rw [hy]; unfold wrap64; omega
      have HLN := Lib.hid (show ∀ W, Below W0.heap.size W0 W → Calls Tryd.prog 22 #[.agg #[.int .i64 s, .slice a (lim m).length c1]] W fun e w' => e = .returned (.int .i64 (b : Int)) ∧ Below W0.heap.size W0 w' from
        fun W hW => by
          have := sLength s a m c1 W B (IX.out W hW).2 (IX.out W hW).1 (by omega)
          rw [hbl] at this
          exact this.mono fun e w' ⟨he, hb⟩ => ⟨he, hW.trans (hb.mono hW.size)⟩)
      by_cases hy4 : 400 < y
      · rw [RNG.out (by omega)]
        have hd3 : decide (400 < y) = true := decide_eq_true hy4
        clear RNG e1 hm sm hx1 hx2 hs0 hrc hdy hk p1 p2 p3 p4 hx hW0 hB hl IX hc1 hbl hb1 hy hy4
        go_enter Tryd.func10, Tryd.ntmps10
        go_wp2_with fail
        rw [HW0.out]
        refine (HI.out _ hT).mono ?_
        rintro e w1 ⟨rfl, hb⟩
        clear k1 k2 k3
        have hbd := hb.drew
        obtain ⟨k1, k2, k3⟩ := SS.out _ hb
        go_wp2_with fail
        go_region_held3 (fun W => W.cell? ⟨w.heap.size, 0, none⟩ = some (.int .i64 s) ∧ W.cell? ⟨w.heap.size, 1, none⟩ = some (.slice a (lim m).length c1) ∧ W.cell? ⟨w.heap.size, 2, none⟩ = some (.int .i64 x))
          (exact SS.out _ (by assumption))
          (first
          | (go_at_call 22; with_reducible refine (HLN.out _ (by assumption)).mono ?_; rintro e w2 ⟨rfl, hb2⟩))
        all_goals
          obtain ⟨q1, q2, q3, q4, q5, q6⟩ := SR.out _ hb2
          go_wp2_with fail
          refine bodyPost_ret (v := .tuple #[.agg #[.int .i64 0, .slice none 0 0, .int .i64 0], .int .i64 2]) (by simp [results, Tryd.results10, go_sem, *]) rfl ?_
          exact retYC_zero (g := w.heap.size + 1) 2 P3.out P4.out hb2 (by omega) _ _ _
      · have hd3 : decide (400 < y) = false := decide_eq_false hy4
        rw [rtY_yes e1.out hk hs0 (by omega)]
        obtain ⟨⟨u1, u2, u3⟩, hu⟩ : ∃ u, u = raF s m x k := ⟨_, rfl⟩
        have HU := Lib.hid (show u2.length ≤ 9223372036854775807 from by
          have h2 : u2 = (raF s m x k).2.1 := by rw [← hu]
          rw [h2, raF]
          exact Nat.le_trans (redS_len _ _ _) (by have := raN_lim (up_lim (s := s) (x := x) (k := k) hm sm hs0 hk (by omega)); omega))
        have HP := Lib.hid (show ∀ W, Below W0.heap.size W0 W → Calls Tryd.prog 24 #[.agg #[.int .i64 s, .slice a (lim m).length c1, .int .i64 x], .int .i64 k] W fun e w' => ∃ a c, e = .returned (.agg #[.int .i64 u1, .slice a u2.length c, .int .i64 u3]) ∧ u2.length ≤ c ∧ Own w' W0.heap.size a u2 ∧ Below W0.heap.size W0 w' from
          fun W hW => by
            have := sRt3 s a m c1 x k W B (IX.out W hW).2 (IX.out W hW).1 sm hs0 hm hc1 hx1 hx2 hk (by omega)
            rw [← hu] at this
            exact this.mono fun e w' ⟨a, c, he, hc, ho, hb⟩ => ⟨a, c, he, hc, ho.mono hW.size, hW.trans (hb.mono hW.size)⟩)
        rw [← hu]
        obtain ⟨⟨r1, r2, r4, r3⟩, hrr⟩ : ∃ r, r = fitY (u1, u2, u3) := ⟨_, rfl⟩
        have HLM := Lib.hid (show ∀ (a : Option Addr) (c : Nat) W, u2.length ≤ c → Own W W0.heap.size a u2 → Below W0.heap.size W0 W → Calls Tryd.prog 23 #[.agg #[.int .i64 u1, .slice a u2.length c, .int .i64 u3]] W fun e w' => ∃ a c, e = .returned (.tuple #[.agg #[.int .i64 r1, .slice a r2.length c, .int .i64 r4], .int .i64 r3]) ∧ r2.length ≤ c ∧ Own w' W0.heap.size a r2 ∧ Below W0.heap.size W0 w' from
          fun a c W hc ho hW => by
            have := sFitY u1 u2 u3 a c W W0.heap.size HU.out hc ho
            rw [← hrr] at this
            exact this.mono fun e w' ⟨a, c, he, hc, ho, hb⟩ => ⟨a, c, he, hc, ho, hW.trans (hb.mono hW.size)⟩)
        rw [← hrr]
        clear RNG e1 hm sm hx1 hx2 hs0 hrc hdy hk p1 p2 p3 p4 hx hW0 hB hl IX hc1 hbl hb1 hy hy4 hu hrr
        go_enter Tryd.func10, Tryd.ntmps10
        go_wp2_with fail
        rw [HW0.out]
        refine (HI.out _ hT).mono ?_
        rintro e w1 ⟨rfl, hb⟩
        clear k1 k2 k3
        have hbd := hb.drew
        obtain ⟨k1, k2, k3⟩ := SS.out _ hb
        go_wp2_with fail
        go_region_held3 (fun W => W.cell? ⟨w.heap.size, 0, none⟩ = some (.int .i64 s) ∧ W.cell? ⟨w.heap.size, 1, none⟩ = some (.slice a (lim m).length c1) ∧ W.cell? ⟨w.heap.size, 2, none⟩ = some (.int .i64 x))
          (exact SS.out _ (by assumption))
          (first
          | (go_at_call 22; with_reducible refine (HLN.out _ (by assumption)).mono ?_; rintro e w2 ⟨rfl, hb2⟩))
        all_goals
          clear k1 k2 k3
          obtain ⟨k1, k2, k3⟩ := SS.out _ hb2
          go_wp2_with fail
          refine (HP.out _ hb2).mono ?_
          rintro e w3 ⟨a3, c3, rfl, hc3, ho3, hb3⟩
          go_wp2_with fail
          refine (HLM.out _ _ _ hc3 ho3 hb3).mono ?_
          rintro e w4 ⟨a4, c4, rfl, hc4, ho4, hb4⟩
          have HC4 := Lib.hid hc4
          have HO4 := Lib.hid ho4
          clear hc3 ho3 hc4 ho4
          obtain ⟨q1, q2, q3, q4, q5, q6⟩ := SR.out _ hb4
          have hsz : w.heap.size + 1 < w4.heap.size := by have := hb4.size; have := P4.out; omega
          go_wp2_with fail
          refine bodyPost_ret (v := .tuple #[.agg #[.int .i64 r1, .slice a4 r2.length c4, .int .i64 r4], .int .i64 r3]) (by simp [results, Tryd.results10, go_sem, *]) rfl ?_
          exact (retYC_end (g := w.heap.size + 1) (r := (r1, r2, r4, r3)) P3.out P4.out hb4 (by omega) (by omega) _ _ _ HO4.out HC4.out).alloc _
  · have hval : rtY s xs x k = (0, [], 0, rc) := by
      cases h1 : dyB s xs x
      · rw [rtY_no (fun h => by rw [dyB_iff.2 h] at h1; cases h1), hrc]
        unfold rangeC
        rw [h1]
        simp
      · obtain ⟨m, rfl, hm, sm, hx1, hx2⟩ := isDy_of (dyB_iff.1 h1)
        have hk : ¬ (0 ≤ k ∧ k ≤ 200) := fun h => h0 (by rw [hrc]; unfold rangeC; rw [h1, if_pos rfl, if_pos h])
        rw [rtY_rng (dyB_iff.1 h1) (fun h => hk h.1), hrc]
        unfold rangeC
        rw [h1, if_pos rfl, if_neg hk]
    rw [hval]
    have hrc0 : (rc == 0) = false := by simpa using h0
    have hrc1 : (rc != 0) = true := by simpa using h0
    clear h0 hval hrc p1 p2 p3 p4 hx hW0 hB hl IX hc1
    go_enter Tryd.func10, Tryd.ntmps10
    go_wp2_with fail
    rw [HW0.out]
    refine (HI.out _ hT).mono ?_
    rintro e w1 ⟨rfl, hb⟩
    clear k1 k2 k3
    obtain ⟨k1, k2, k3⟩ := SS.out _ hb
    go_wp2_with fail
    go_quiet (fail)
    all_goals
      obtain ⟨q1, q2, q3, q4, q5, q6⟩ := SR.out _ hb
      go_wp2_with fail
      refine bodyPost_ret (v := .tuple #[.agg #[.int .i64 0, .slice none 0 0, .int .i64 0], .int .i64 rc]) (by simp [results, Tryd.results10, go_sem, *]) rfl ?_
      exact retYC_zero (g := w.heap.size + 1) rc P3.out P4.out (below_drewN hb _) (by omega) _ _ _
end Go.Proofs.YtiohacnkiikmcaaDoor
