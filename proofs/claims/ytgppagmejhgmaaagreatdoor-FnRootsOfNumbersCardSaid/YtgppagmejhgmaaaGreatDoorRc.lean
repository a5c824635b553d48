/-
  The root above an exact number: maths. Conditions: none. Contract: RootAbove of the program. Conditions: the limbs can be read; the library's table is as its initialiser lays it. Contracts: l03Root and RootAbove of the model. Conditions: the limbs can be read.
-/
import Derived.Test.YtgppagmejhgmaaaGreatDoorQm
import Derived.Test.YtgppagmejhgmaaaGreatDoorRb
import Derived.Test.YtgppagmejhgmaaaGreatDoorUc
import Derived.Deep.RegionHeld3
import Derived.BigQuiet
namespace Go.Proofs.YtgppagmejhgmaaaGreatDoor
set_option linter.unusedVariables false
open Go Go.RowKit

theorem sgnOf_1 (N : Nat) : sgnOf 1 N = (N : Int).sign := by
  by_cases h : N = 0
  · subst h; simp [sgnOf_zero]
  · rw [sgnOf_pos h]; exact (Int.sign_eq_one_of_pos (by omega)).symm
theorem shZ_nn' {z k : Int} (h : 0 ≤ k) : shZ z k = z * 2 ^ k.toNat := by unfold shZ; rw [if_pos h]
theorem lim_succ_len (n : Nat) : (lim (n + 1)).length ≤ (lim n).length + 2 := by
  have h := lim_add_len n 1
  rw [lim_one] at h
  simp at h
  omega
/-- The number whose root is taken. -/
def upN (s : Int) (m : Nat) (x k : Int) : Nat := (-(shZ (-(s * (m : Int))) (x + 2 * k))).natAbs
/-- The least number whose square is not less. -/
def raN (n : Nat) : Nat := if rootN n * rootN n < n then rootN n + 1 else rootN n
theorem raN_up {n : Nat} (h : rootN n * rootN n < n) : raN n = rootN n + 1 := if_pos h
theorem raN_eq {n : Nat} (h : ¬ rootN n * rootN n < n) : raN n = rootN n := if_neg h
theorem raN_zero : raN 0 = 0 := by
  have h := rootN_le 0
  rw [raN_eq (by omega)]
  omega
def raF (s : Int) (m : Nat) (x k : Int) : Int × List Int × Int := redS 1 (raN (upN s m x k)) (-k)
noncomputable def rtY (s : Int) (xs : List Int) (x k : Int) : Int × List Int × Int × Int :=
  @ite _ (IsDy s xs x) (Classical.propDecidable _) (if (0 ≤ k ∧ k ≤ 200) ∧ ¬ s < 0 ∧ blen (val (xs.map Int.toNat)) + x ≤ 400 then fitY (raF s (val (xs.map Int.toNat)) x k) else (0, [], 0, 2)) (0, [], 0, 1)
theorem rtY_yes {s x k : Int} {m : Nat} (h : IsDy s (lim m) x) (h1 : 0 ≤ k ∧ k ≤ 200) (h2 : ¬ s < 0) (h3 : blen m + x ≤ 400) : rtY s (lim m) x k = fitY (raF s m x k) := by
  unfold rtY; rw [if_pos h, val_lim, if_pos ⟨h1, h2, h3⟩]
theorem rtY_rng {s x k : Int} {m : Nat} (h : IsDy s (lim m) x) (h1 : ¬ ((0 ≤ k ∧ k ≤ 200) ∧ ¬ s < 0 ∧ blen m + x ≤ 400)) : rtY s (lim m) x k = (0, [], 0, 2) := by
  unfold rtY; rw [if_pos h, val_lim, if_neg h1]
theorem rtY_no {s x k : Int} {xs : List Int} (h : ¬ IsDy s xs x) : rtY s xs x k = (0, [], 0, 1) := by unfold rtY; rw [if_neg h]
theorem rtY_len (s : Int) (xs : List Int) (x k : Int) : (rtY s xs x k).2.1.length ≤ 200 := by
  unfold rtY
  split
  · split
    · exact fitY_len _
    · simp
  · simp
theorem up_nonneg {s x k : Int} {m : Nat} (hs : Sg s m) (h : ¬ s < 0) : 0 ≤ -(shZ (-(s * (m : Int))) (x + 2 * k)) := by
  have h0 : s * (m : Int) = (m : Int) := by
    unfold Sg at hs
    rcases hs with ⟨rfl, rfl⟩ | ⟨_, rfl | rfl⟩
    · simp
    · simp
    · omega
  rw [h0]
  by_cases hk : 0 ≤ x + 2 * k
  · rw [shZ_nn' hk]
    have h1 : (0 : Int) < 2 ^ (x + 2 * k).toNat := Int.pow_pos (by omega)
    have h2 : 0 ≤ (m : Int) * 2 ^ (x + 2 * k).toNat := Int.mul_nonneg (by omega) (by omega)
    rw [Int.neg_mul]
    omega
  · obtain ⟨K, hK⟩ := Int.eq_ofNat_of_zero_le (show 0 ≤ -(x + 2 * k) by omega)
    have e : x + 2 * k = -(K : Int) := by omega
    rw [e, shZ_down _ _ (by omega)]
    have hP : (2 : Int) ^ K = ((2 ^ K : Nat) : Int) := by simp
    rw [hP, neg_ediv m _ (Nat.pow_pos (by omega))]
    omega
theorem up_sign {s x k : Int} {m : Nat} (hs : Sg s m) (h : ¬ s < 0) : (-(shZ (-(s * (m : Int))) (x + 2 * k))).sign = sgnOf 1 (upN s m x k) := by
  have h0 := up_nonneg (x := x) (k := k) hs h
  unfold upN
  obtain ⟨n, hn⟩ := Int.eq_ofNat_of_zero_le h0
  rw [hn, Int.natAbs_natCast, sgnOf_1]
theorem up_len {s x k : Int} {m : Nat} (hm : (lim m).length ≤ 200) (hs : Sg s m) (h : ¬ s < 0) (h1 : 0 ≤ k ∧ k ≤ 200) (h2 : blen m + x ≤ 400) : (lim (upN s m x k)).length ≤ 100 ∨ (lim (upN s m x k)).length ≤ (lim m).length := by
  have h0 : s * (m : Int) = (m : Int) := by
    unfold Sg at hs
    rcases hs with ⟨rfl, rfl⟩ | ⟨_, rfl | rfl⟩
    · simp
    · simp
    · omega
  unfold upN
  rw [h0]
  by_cases hk : 0 ≤ x + 2 * k
  · obtain ⟨K, hK⟩ := Int.eq_ofNat_of_zero_le hk
    rw [hK, shZ_up, Int.natAbs_neg, Int.natAbs_mul, Int.natAbs_neg, Int.natAbs_natCast]
    have e : ((2 : Int) ^ K).natAbs = 2 ^ K := by rw [show (2 : Int) ^ K = ((2 ^ K : Nat) : Int) by simp]; exact Int.natAbs_natCast _
    rw [e]
    obtain ⟨b, hb, _, hlt⟩ := blen_nat' hm
    have h3 : m * 2 ^ K ≤ 2 ^ (b + K) := by
      rw [Nat.pow_add]
      exact Nat.mul_le_mul_right _ (by omega)
    left
    refine Nat.le_trans (lim_le_of_le h3) (pow_len ?_)
    omega
  · obtain ⟨K, hK⟩ := Int.eq_ofNat_of_zero_le (show 0 ≤ -(x + 2 * k) by omega)
    have e : x + 2 * k = -(K : Int) := by omega
    rw [e, shZ_down _ _ (by omega), Int.natAbs_neg]
    have hP : (2 : Int) ^ K = ((2 ^ K : Nat) : Int) := by simp
    rw [hP]
    right
    have h4 := Int.natAbs_ediv_le_natAbs (-(m : Int)) ((2 ^ K : Nat) : Int)
    rw [Int.natAbs_neg, Int.natAbs_natCast] at h4
    exact lim_le_of_le h4
theorem up_lim {s x k : Int} {m : Nat} (hm : (lim m).length ≤ 200) (hs : Sg s m) (h : ¬ s < 0) (h1 : 0 ≤ k ∧ k ≤ 200) (h2 : blen m + x ≤ 400) : (lim (upN s m x k)).length ≤ 200 := by
  have := up_len hm hs h h1 h2
  omega
theorem raN_lim {n : Nat} (h : (lim n).length ≤ 200) : (lim (raN n)).length ≤ 202 := by
  have h1 := rootN_le n
  have h2 : raN n ≤ n + 1 := by
    unfold raN
    split <;> omega
  have h3 := lim_le_of_le h2
  have h4 := lim_succ_len n
  omega

set_option maxRecDepth 100000 in
set_option maxHeartbeats 2000000 in
theorem iMagRootAbove (a : Option Addr) (n c1 : Nat) (w : World) (B : Nat) (hB : B ≤ w.heap.size) (hx : Ints w B a (lim n)) (hln : (lim n).length ≤ 200) :
    Calls Tryz.prog 101 #[.slice a (lim n).length c1] w fun e w' => ∃ b d, e = .returned (.slice b (lim (raN n)).length d) ∧ (lim (raN n)).length ≤ d ∧ Own w' w.heap.size b (lim (raN n)) ∧ Below w.heap.size w w' := by
  obtain ⟨r, hr⟩ : ∃ r, r = rootN n := ⟨_, rfl⟩
  obtain ⟨q, hq⟩ : ∃ q, q = raN n := ⟨_, rfl⟩
  have hsp := rootN_spec n
  rw [← hr] at hsp
  have hlr : (lim r).length ≤ 200 := Nat.le_trans (lim_le_of_le (by rw [hr]; exact rootN_le n)) hln
  have hlrr : (lim (r * r)).length ≤ 400 := by have := lim_mul_len r r; omega
  have hT : Below w.heap.size w w := Below.refl _ _
  have HRT := Lib.hid (show Calls Tryz.prog 128 #[.slice a (lim n).length c1] w fun e w' => ∃ b d, e = .returned (.slice b (lim r).length d) ∧ (lim r).length ≤ d ∧ Own w' w.heap.size b (lim r) ∧ Below w.heap.size w w' from
    (iRoot a n c1 r w B hB hx hln hsp.1 hsp.2).mono fun e w' ⟨a, c, he, hc, ho, hb⟩ => ⟨a, c, he, hc, ho, hb⟩)
  have HTM := Lib.hid (show ∀ (a : Option Addr) (c : Nat) W, Below w.heap.size w W → Own W w.heap.size a (lim r) → Calls Tryz.prog 115 #[.slice a (lim r).length c, .slice a (lim r).length c] W fun e w' => ∃ b d, e = .returned (.slice b (lim (r * r)).length d) ∧ Own w' w.heap.size b (lim (r * r)) ∧ Below w.heap.size w w' ∧ Below W.heap.size W w' from
    fun a c W hW ho => (iTimes' a a r r c c W _ _ (Nat.le_refl _) (Nat.le_refl _) ho.ints ho.ints (by omega) (by omega)).mono fun e w' ⟨a, c, he, hc, ho, hb⟩ => ⟨a, c, he, ho.mono hW.size, hW.trans (hb.mono hW.size), hb⟩)
  have HCM := Lib.hid (show ∀ (b : Option Addr) (d : Nat) W, Below w.heap.size w W → Own W w.heap.size b (lim (r * r)) → Calls Tryz.prog 120 #[.slice b (lim (r * r)).length d, .slice a (lim n).length c1] W (RetQ (.int .i64 (cmpZ ((r * r : Nat) : Int) (n : Int))) W) from
    fun b d W hW ho => iMagCompare b a (r * r) n d c1 W _ _ ho.ints (hx.below (hW.mono hB)) (by omega) (by omega))
  have HPL := Lib.hid (show ∀ (a b : Option Addr) (c : Nat) W, Below w.heap.size w W → Own W w.heap.size a (lim r) → Ints W W.heap.size b [1] → Calls Tryz.prog 118 #[.slice a (lim r).length c, .slice b 1 1] W fun e w' => ∃ b d, e = .returned (.slice b (lim (r + 1)).length d) ∧ (lim (r + 1)).length ≤ d ∧ Own w' w.heap.size b (lim (r + 1)) ∧ Below w.heap.size w w' from
    fun a b c W hW ho hi => by
      have := iMagPlus a b r 1 c 1 W _ _ (Nat.le_refl _) (Nat.le_refl _) ho.ints (by rw [lim_one]; exact hi) (by omega) (by rw [lim_one]; simp)
      rw [lim_one] at this
      exact this.mono fun e w' ⟨a, c, he, hc, ho, hb⟩ => ⟨a, c, he, hc, ho.mono hW.size, hW.trans (hb.mono hW.size)⟩)
  obtain ⟨sqr, hsqr⟩ : ∃ z, z = r * r := ⟨_, rfl⟩
  rw [← hsqr] at HTM HCM
  have HQU := Lib.hid (show sqr < n → q = r + 1 from fun h => by rw [hq, raN_up (by rw [← hr, ← hsqr]; exact h), hr])
  have HQE := Lib.hid (show ¬ sqr < n → q = r from fun h => by rw [hq, raN_eq (by rw [← hr, ← hsqr]; exact h), hr])
  rw [← hq]
  clear hx hr hq hsp hlr hlrr hsqr hB hln
  by_cases hlt : sqr < n
  · have hqe := HQU.out hlt
    subst hqe
    rw [cmpZ_lt (show ((sqr : Nat) : Int) < (n : Int) by omega)] at HCM
    clear hlt HQU HQE
    go_enter Tryz.func101, Tryz.ntmps101
    go_wp2_with fail
    refine HRT.out.mono ?_
    rintro e w6 ⟨a6, c6, rfl, hc6, ho6, hb6⟩
    go_wp2_with fail
    refine (HTM.out _ _ _ hb6 ho6).mono ?_
    rintro e w7 ⟨a7, c7, rfl, ho7, hb7, hbb⟩
    replace ho6 := ho6.below hbb
    clear hbb hb6
    go_wp2_with fail
    refine (HCM.out _ _ _ hb7 ho7).mono ?_
    rintro e w8 ⟨kd, rfl, rfl⟩
    replace hb7 := below_drewN hb7 kd
    replace ho6 := ho6.drewN kd
    clear ho7
    go_wp2_with fail
    refine (HPL.out _ _ _ _ (below_alloc hb7 _) (ho6.alloc _) (ints_one _ _ _)).mono ?_
    rintro e w9 ⟨a9, c9, rfl, hc9, ho9, hb9⟩
    clear hb7 ho6 hc6
    go_wp2_with fail
    go_ret
    exact ⟨_, _, rfl, hc9, ho9, hb9⟩
  · have hqe := HQE.out hlt
    subst hqe
    obtain ⟨z, hz⟩ : ∃ z, z = cmpZ (sqr : Int) (n : Int) := ⟨_, rfl⟩
    have hcm : z = 0 ∨ z = 1 := by
      rw [hz]
      rcases Nat.lt_or_ge n sqr with h | h
      · right; exact cmpZ_gt (by omega)
      · left; exact cmpZ_eq (by omega)
    rw [← hz] at HCM
    have hz0 : decide (z < 0) = false := decide_eq_false (by omega)
    clear hz hcm hlt HQU HQE HPL
    go_enter Tryz.func101, Tryz.ntmps101
    go_wp2_with fail
    refine HRT.out.mono ?_
    rintro e w6 ⟨a6, c6, rfl, hc6, ho6, hb6⟩
    go_wp2_with fail
    refine (HTM.out _ _ _ hb6 ho6).mono ?_
    rintro e w7 ⟨a7, c7, rfl, ho7, hb7, hbb⟩
    replace ho6 := ho6.below hbb
    clear hbb hb6
    go_wp2_with fail
    refine (HCM.out _ _ _ hb7 ho7).mono ?_
    rintro e w8 ⟨kd, rfl, rfl⟩
    replace hb7 := below_drewN hb7 kd
    replace ho6 := ho6.drewN kd
    clear ho7
    go_wp2_with fail
    go_ret
    exact ⟨_, _, rfl, hc6, ho6, hb7⟩

theorem sgn1_sg (q : Nat) : Sg (sgnOf 1 q) q := by
  unfold Sg
  by_cases h0 : q = 0
  · rw [h0, sgnOf_zero]; omega
  · rw [sgnOf_pos h0]; omega
theorem redS_sgn1 (q : Nat) (x : Int) : redS (sgnOf 1 q) q x = redS 1 q x := by
  by_cases h0 : q = 0
  · rw [h0, redS_zero, redS_zero]
  · rw [sgnOf_pos h0]
set_option maxRecDepth 100000 in
set_option maxHeartbeats 1000000 in
theorem iMultipleOf (a : Option Addr) (q c : Nat) (k : Int) (w : World) (B : Nat) (hB : B ≤ w.heap.size) (ho : Own w B a (lim q)) (hc : (lim q).length ≤ c) (hl : (lim q).length ≤ 1000) (hk0 : -20000 ≤ k) (hk1 : k ≤ 20000) (hTab : Tab w) :
    Calls Tryz.prog 71 #[.slice a (lim q).length c, .int .i64 k] w (RetYR (redS 1 q (-k)) w) := by
  obtain ⟨W0, hW0⟩ : ∃ W0 : World, w.alloc (.cells #[.int .i64 0, .slice none 0 0, .int .i64 0] 62) = W0 := ⟨_, rfl⟩
  obtain ⟨p1, p3, p4⟩ := one_box w 62 #[.int .i64 0, .slice none 0 0, .int .i64 0]
  rw [hW0] at p1 p3 p4
  have HW0 := Lib.hid hW0
  have SR := Lib.hid (show ∀ W, Below W0.heap.size W0 W → _ from fun W hW => (p1.below hW).tri6)
  have P3 := Lib.hid p3
  have P4 := Lib.hid p4
  have hT : Below W0.heap.size W0 W0 := Below.refl _ _
  obtain ⟨mk, hmk⟩ : ∃ mk : Int, mk = -k := ⟨_, rfl⟩
  have hwk2 : wrap64 (-k) = mk := by rw [hmk]; unfold wrap64; omega
  have hwk3 : IntKind.i64.wrap (-k) = mk := by rw [hmk, IntKind.wrap_i64]; omega
  have HG := Lib.hid (show Calls Tryz.prog 95 #[.int .i64 1, .slice a (lim q).length c] W0 fun e w' => ∃ a c, e = .returned (.agg #[.int .i64 (sgnOf 1 q), .slice a (lim q).length c]) ∧ Own w' B a (lim q) ∧ Below W0.heap.size W0 w' from
    (iSigned 1 q a c W0 B hc (by rw [← hW0]; exact ho.alloc _)).mono fun e w' ⟨a, c, he, hc, ho, hb⟩ => ⟨a, c, he, ho, hb⟩)
  rw [← hmk]
  obtain ⟨⟨u1, u2, u3⟩, hu⟩ : ∃ u, u = redS 1 q mk := ⟨_, rfl⟩
  rw [← hu]
  have HP := Lib.hid (show ∀ (a : Option Addr) (c : Nat) W, Below W0.heap.size W0 W → Own W B a (lim q) → Calls Tryz.prog 67 #[.agg #[.int .i64 (sgnOf 1 q), .slice a (lim q).length c], .int .i64 mk] W fun e w' => ∃ a c, e = .returned (.agg #[.int .i64 u1, .slice a u2.length c, .int .i64 u3]) ∧ u2.length ≤ c ∧ Own w' W0.heap.size a u2 ∧ Below W0.heap.size W0 w' from
    fun a c W hW ho => by
      have := iReduced (sgnOf 1 q) a q c mk W _ (Nat.le_refl _) ho.ints (sgn1_sg q) (by omega) (by omega) (by omega) ((hTab.below p3).below hW)
      rw [redS_sgn1, ← hu] at this
      exact this.mono fun e w' ⟨a, c, he, hc, ho, hb⟩ => ⟨a, c, he, hc, ho.mono hW.size, hW.trans (hb.mono hW.size)⟩)
  obtain ⟨g2, hg2⟩ : ∃ g, g = sgnOf 1 q := ⟨_, rfl⟩
  rw [← hg2] at HG HP
  clear hg2 hu hmk ho hc hl hB hTab hk0 hk1 hW0 p1 p3 p4
  go_enter Tryz.func71, Tryz.ntmps71
  go_wp2_with fail
  rw [HW0.out]
  refine HG.out.mono ?_
  rintro e w1 ⟨a1, c1, rfl, ho1, hb1⟩
  go_wp2_with fail
  refine (HP.out _ _ _ hb1 ho1).mono ?_
  rintro e w2 ⟨a2, c2, rfl, hc2, ho2, hb2⟩
  have HC := Lib.hid hc2
  have HO := Lib.hid ho2
  clear ho1 hb1 hc2 ho2
  obtain ⟨q1, q2, q3, q4, q5, q6⟩ := SR.out _ hb2
  go_wp2_with fail
  refine bodyPost_ret (v := .agg #[.int .i64 u1, .slice a2 u2.length c2, .int .i64 u3]) (by simp [results, Tryz.results71, go_sem, *]) rfl ?_
  exact retYR_end (g := w.heap.size) (r := (u1, u2, u3)) P3.out P4.out hb2 (by omega) (by omega) _ _ _ HO.out HC.out

set_option maxRecDepth 100000 in
set_option maxHeartbeats 4000000 in
theorem iRootAbove (s : Int) (a : Option Addr) (xs : List Int) (c1 : Nat) (x k : Int) (w : World) (B : Nat) (hB : B ≤ w.heap.size) (hx : Ints w B a xs) (hl : xs.length ≤ 9223372036854775807) (hTab : Tab w) :
    Calls Tryz.prog 68 #[.agg #[.int .i64 s, .slice a xs.length c1, .int .i64 x], .int .i64 k] w (RetYC (rtY s xs x k) w.heap.size w) := by
  obtain ⟨W0, hW0⟩ : ∃ W0 : World, (w.alloc (.cells #[.int .i64 s, .slice a xs.length c1, .int .i64 x] 62)).alloc (.cells #[.int .i64 0, .slice none 0 0, .int .i64 0] 62) = W0 := ⟨_, rfl⟩
  obtain ⟨p1, p2, p3, p4⟩ := two_boxT w 62 62 #[.int .i64 s, .slice a xs.length c1, .int .i64 x] #[.int .i64 0, .slice none 0 0, .int .i64 0]
  rw [hW0] at p1 p2 p3 p4
  have HW0 := Lib.hid hW0
  have P3 := Lib.hid p3
  have P4 := Lib.hid p4
  have HTB := Lib.hid (show ∀ W, Below W0.heap.size W0 W → Tab W from fun W hW => (hTab.below p3).below hW)
  clear hTab
  have SS := Lib.hid (show ∀ W, Below W0.heap.size W0 W → (W.cell? ⟨w.heap.size, 0, none⟩ = some (.int .i64 s) ∧ W.cell? ⟨w.heap.size, 1, none⟩ = some (.slice a xs.length c1) ∧ W.cell? ⟨w.heap.size, 2, none⟩ = some (.int .i64 x)) from
    fun W hW => (p1.below hW).tri)
  have SR := Lib.hid (show ∀ W, Below W0.heap.size W0 W → _ from fun W hW => (p2.below hW).tri6)
  have hT : Below W0.heap.size W0 W0 := Below.refl _ _
  have IX := Lib.hid (show ∀ W, Below W0.heap.size W0 W → Ints W B a xs ∧ B ≤ W.heap.size from fun W hW => ⟨hx.below ((p3.mono hB).trans (hW.mono (by omega))), by have := hW.size; omega⟩)
  have HI := Lib.hid (show ∀ W, Below W0.heap.size W0 W → Calls Tryz.prog 88 #[.agg #[.int .i64 s, .slice a xs.length c1, .int .i64 x]] W fun e w' => e = .returned (.bool (dyB s xs x)) ∧ Below W0.heap.size W0 w' from
    fun W hW => (iIsDyadic s a xs c1 x W B (IX.out W hW).2 hl (IX.out W hW).1).mono fun e w' ⟨he, hb⟩ => ⟨he, hW.trans (hb.mono hW.size)⟩)
  have HS := Lib.hid (show ∀ (s : Int) (a : Option Addr) (n c : Nat) W, Below W0.heap.size W0 W → Calls Tryz.prog 65 #[.agg #[.int .i64 s, .slice a n c]] W fun e w' => e = .returned (.slice a n c) ∧ Below W0.heap.size W0 w' ∧ Below W.heap.size W w' from
    fun s a n c W hW => (iSize s a n c W).mono fun e w' ⟨he, hb⟩ => ⟨he, hW.trans (hb.mono hW.size), hb⟩)
  obtain ⟨k1, k2, k3⟩ := SS.out _ hT
  cases h1 : dyB s xs x
  · rw [rtY_no (fun h => by rw [dyB_iff.2 h] at h1; cases h1)]
    rw [h1] at HI
    clear h1
    clear p1 p2 p3 p4 hx hW0 hB hl IX
    go_enter Tryz.func68, Tryz.ntmps68
    go_wp2_with fail
    rw [HW0.out]
    refine (HI.out _ hT).mono ?_
    rintro e w1 ⟨rfl, hb⟩
    clear k1 k2 k3
    obtain ⟨k1, k2, k3⟩ := SS.out _ hb
    obtain ⟨q1, q2, q3, q4, q5, q6⟩ := SR.out _ hb
    go_wp2_with fail
    refine bodyPost_ret (v := .tuple #[.agg #[.int .i64 0, .slice none 0 0, .int .i64 0], .int .i64 1]) (by simp [results, Tryz.results68, go_sem, *]) rfl ?_
    exact retYC_zero (g := w.heap.size + 1) 1 P3.out P4.out hb (by omega) _ _ _
  · have e1 := Lib.hid (dyB_iff.1 h1)
    rw [h1] at HI
    clear h1
    obtain ⟨m, rfl, hm, sm, hx1, hx2⟩ := isDy_of e1.out
    have RNG := Lib.hid (show ¬ ((0 ≤ k ∧ k ≤ 200) ∧ ¬ s < 0 ∧ blen m + x ≤ 400) → rtY s (lim m) x k = (0, [], 0, 2) from rtY_rng e1.out)
    by_cases hk0 : k < 0
    · rw [RNG.out (by omega)]
      have hd0 : decide (k < 0) = true := decide_eq_true hk0
      clear RNG e1 hm sm hx1 hx2 hk0
      clear p1 p2 p3 p4 hx hW0 hB hl IX
      go_enter Tryz.func68, Tryz.ntmps68
      go_wp2_with fail
      rw [HW0.out]
      refine (HI.out _ hT).mono ?_
      rintro e w1 ⟨rfl, hb⟩
      clear k1 k2 k3
      obtain ⟨k1, k2, k3⟩ := SS.out _ hb
      obtain ⟨q1, q2, q3, q4, q5, q6⟩ := SR.out _ hb
      go_wp2_with fail
      refine bodyPost_ret (v := .tuple #[.agg #[.int .i64 0, .slice none 0 0, .int .i64 0], .int .i64 2]) (by simp [results, Tryz.results68, go_sem, *]) rfl ?_
      exact retYC_zero (g := w.heap.size + 1) 2 P3.out P4.out hb (by omega) _ _ _
    · have hd0 : decide (k < 0) = false := decide_eq_false hk0
      by_cases hk1 : 200 < k
      · rw [RNG.out (by omega)]
        have hd1 : decide (200 < k) = true := decide_eq_true hk1
        clear RNG e1 hm sm hx1 hx2 hk0 hk1
        clear p1 p2 p3 p4 hx hW0 hB hl IX
        go_enter Tryz.func68, Tryz.ntmps68
        go_wp2_with fail
        rw [HW0.out]
        refine (HI.out _ hT).mono ?_
        rintro e w1 ⟨rfl, hb⟩
        clear k1 k2 k3
        obtain ⟨k1, k2, k3⟩ := SS.out _ hb
        obtain ⟨q1, q2, q3, q4, q5, q6⟩ := SR.out _ hb
        go_wp2_with fail
        refine bodyPost_ret (v := .tuple #[.agg #[.int .i64 0, .slice none 0 0, .int .i64 0], .int .i64 2]) (by simp [results, Tryz.results68, go_sem, *]) rfl ?_
        exact retYC_zero (g := w.heap.size + 1) 2 P3.out P4.out hb (by omega) _ _ _
      · have hd1 : decide (200 < k) = false := decide_eq_false hk1
        by_cases hs0 : s < 0
        · rw [RNG.out (by omega)]
          have hd2 : decide (s < 0) = true := decide_eq_true hs0
          clear RNG e1 hm sm hx1 hx2 hk0 hk1 hs0
          have HLN := Lib.hid True.intro
          clear p1 p2 p3 p4 hx hW0 hB hl IX
          go_enter Tryz.func68, Tryz.ntmps68
          go_wp2_with fail
          rw [HW0.out]
          refine (HI.out _ hT).mono ?_
          rintro e w1 ⟨rfl, hb⟩
          clear k1 k2 k3
          have hbd := hb.drew
          obtain ⟨k1, k2, k3⟩ := SS.out _ hb
          go_wp2_with fail
          go_quiet (fail)
          all_goals
            obtain ⟨q1, q2, q3, q4, q5, q6⟩ := SR.out _ hb
            go_wp2_with fail
            refine bodyPost_ret (v := .tuple #[.agg #[.int .i64 0, .slice none 0 0, .int .i64 0], .int .i64 2]) (by simp [results, Tryz.results68, go_sem, *]) rfl ?_
            exact retYC_zero (g := w.heap.size + 1) 2 P3.out P4.out (below_drewN hb _) (by omega) _ _ _
        · have hd2 : decide (s < 0) = false := decide_eq_false hs0
          obtain ⟨b, hb, hb1, _⟩ := blen_nat' hm
          obtain ⟨y, hy⟩ : ∃ y : Int, y = (b : Int) + x := ⟨_, rfl⟩
          have hwy : IntKind.i64.wrap ((b : Int) + x) = y := by rw [hy, IntKind.wrap_i64]; omega
          have hwy2 : wrap64 ((b : Int) + x) = y := by rw [hy]; unfold wrap64; omega
          have HLN := Lib.hid (show ∀ W, Below W0.heap.size W0 W → Calls Tryz.prog 66 #[.slice a (lim m).length c1] W fun e w' => e = .returned (.int .i64 (b : Int)) ∧ W = w' from
            fun W hW => by
              have := iMagLength a m c1 W B (IX.out W hW).1 (by omega)
              rw [hb] at this
              exact this)
          have lencall := HS.out
          by_cases hy4 : 400 < y
          · rw [RNG.out (by omega)]
            have hd3 : decide (400 < y) = true := decide_eq_true hy4
            clear RNG e1 hm sm hx1 hx2 hk0 hk1 hs0 hy4 hb hb1 hy lencall
            clear p1 p2 p3 p4 hx hW0 hB hl IX
            go_enter Tryz.func68, Tryz.ntmps68
            go_wp2_with fail
            rw [HW0.out]
            refine (HI.out _ hT).mono ?_
            rintro e w1 ⟨rfl, hb⟩
            clear k1 k2 k3
            have hbd := hb.drew
            obtain ⟨k1, k2, k3⟩ := SS.out _ hb
            go_wp2_with fail
            go_region_held3 (fun W => W.cell? ⟨w.heap.size, 0, none⟩ = some (.int .i64 s) ∧ W.cell? ⟨w.heap.size, 1, none⟩ = some (.slice a (lim m).length c1) ∧ W.cell? ⟨w.heap.size, 2, none⟩ = some (.int .i64 x))
              (exact SS.out _ (by assumption))
              (first
              | (go_at_call 65; with_reducible refine (HS.out _ _ _ _ _ (by assumption)).mono ?_; rintro e w2 ⟨rfl, hb2, _⟩)
              | (go_at_call 66; with_reducible refine (HLN.out _ (by assumption)).mono ?_; rintro e w3 ⟨rfl, rfl⟩))
            all_goals
              obtain ⟨q1, q2, q3, q4, q5, q6⟩ := SR.out _ hb2
              go_wp2_with fail
              refine bodyPost_ret (v := .tuple #[.agg #[.int .i64 0, .slice none 0 0, .int .i64 0], .int .i64 2]) (by simp [results, Tryz.results68, go_sem, *]) rfl ?_
              exact retYC_zero (g := w.heap.size + 1) 2 P3.out P4.out hb2 (by omega) _ _ _
          · have hd3 : decide (400 < y) = false := decide_eq_false hy4
            rw [rtY_yes e1.out ⟨by omega, by omega⟩ hs0 (by omega)]
            obtain ⟨n, hn⟩ : ∃ n, n = upN s m x k := ⟨_, rfl⟩
            have hln : (lim n).length ≤ 200 := by rw [hn]; exact up_lim hm sm hs0 ⟨by omega, by omega⟩ (by omega)
            have hsg : (-(shZ (-(s * (m : Int))) (x + 2 * k))).sign = sgnOf 1 n := by rw [hn]; exact up_sign sm hs0
            have hab : (-(shZ (-(s * (m : Int))) (x + 2 * k))).natAbs = n := by rw [hn]; rfl
            obtain ⟨q, hq⟩ : ∃ q, q = raN n := ⟨_, rfl⟩
            have hlq : (lim q).length ≤ 202 := by rw [hq]; exact raN_lim hln
            obtain ⟨kk, hkk⟩ : ∃ kk : Int, kk = 2 * k := ⟨_, rfl⟩
            have hwk : wrap64 (2 * k) = kk := by rw [hkk]; unfold wrap64; omega
            have hwk4 : IntKind.i64.wrap (2 * k) = kk := by rw [hkk, IntKind.wrap_i64]; omega
            have HCE := Lib.hid (show ∀ W, Below W0.heap.size W0 W → Calls Tryz.prog 100 #[.agg #[.int .i64 s, .slice a (lim m).length c1, .int .i64 x], .int .i64 kk] W fun e w' => ∃ a c, e = .returned (.agg #[.int .i64 (sgnOf 1 n), .slice a (lim n).length c]) ∧ Own w' W0.heap.size a (lim n) ∧ Below W0.heap.size W0 w' from
              fun W hW => by
                have := iCeilW s a m c1 x kk W B (IX.out W hW).2 (IX.out W hW).1 sm hm (by omega) (by omega) (by omega) (by omega) (HTB.out W hW)
                rw [hkk] at this ⊢
                unfold RetZ at this
                rw [hsg, hab] at this
                exact this.mono fun e w' ⟨a, c, he, _, ho, hb⟩ => ⟨a, c, he, ho.mono hW.size, hW.trans (hb.mono hW.size)⟩)
            have HRA := Lib.hid (show ∀ (a : Option Addr) (c : Nat) W, Below W0.heap.size W0 W → Own W W0.heap.size a (lim n) → Calls Tryz.prog 101 #[.slice a (lim n).length c] W fun e w' => ∃ b d, e = .returned (.slice b (lim q).length d) ∧ (lim q).length ≤ d ∧ Own w' W0.heap.size b (lim q) ∧ Below W0.heap.size W0 w' from
              fun a c W hW ho => by
                have := iMagRootAbove a n c W W.heap.size (Nat.le_refl _) ho.ints hln
                rw [← hq] at this
                exact this.mono fun e w' ⟨a, c, he, hc, ho, hb⟩ => ⟨a, c, he, hc, ho.mono hW.size, hW.trans (hb.mono hW.size)⟩)
            obtain ⟨⟨u1, u2, u3⟩, hu⟩ : ∃ u, u = raF s m x k := ⟨_, rfl⟩
            have hre : redS 1 q (-k) = (u1, u2, u3) := by
              rw [hu, raF, ← hn, ← hq]
            have HU := Lib.hid (show u2.length ≤ 9223372036854775807 from by
              have h2 : u2 = (redS 1 q (-k)).2.1 := by rw [hre]
              rw [h2]
              exact Nat.le_trans (redS_len _ _ _) (by omega))
            have HMO := Lib.hid (show ∀ (a : Option Addr) (c : Nat) W, Below W0.heap.size W0 W → (lim q).length ≤ c → Own W W0.heap.size a (lim q) → Calls Tryz.prog 71 #[.slice a (lim q).length c, .int .i64 k] W fun e w' => ∃ a c, e = .returned (.agg #[.int .i64 u1, .slice a u2.length c, .int .i64 u3]) ∧ u2.length ≤ c ∧ Own w' W0.heap.size a u2 ∧ Below W0.heap.size W0 w' from
              fun a c W hW hc ho => by
                have := iMultipleOf a q c k W _ hW.size ho hc (by omega) (by omega) (by omega) (HTB.out W hW)
                rw [hre] at this
                exact this.mono fun e w' ⟨a, c, he, hc, ho, hb⟩ => ⟨a, c, he, hc, ho.mono hW.size, hW.trans (hb.mono hW.size)⟩)
            rw [← hu]
            obtain ⟨⟨r1, r2, r4, r3⟩, hrr⟩ : ∃ r, r = fitY (u1, u2, u3) := ⟨_, rfl⟩
            have HLM := Lib.hid (show ∀ (a : Option Addr) (c : Nat) W, u2.length ≤ c → Own W W0.heap.size a u2 → Below W0.heap.size W0 W → Calls Tryz.prog 62 #[.agg #[.int .i64 u1, .slice a u2.length c, .int .i64 u3]] W fun e w' => ∃ a c, e = .returned (.tuple #[.agg #[.int .i64 r1, .slice a r2.length c, .int .i64 r4], .int .i64 r3]) ∧ r2.length ≤ c ∧ Own w' W0.heap.size a r2 ∧ Below W0.heap.size W0 w' from
              fun a c W hc ho hW => by
                have := iLimitY u1 u2 u3 a c W W0.heap.size HU.out hc ho
                rw [← hrr] at this
                exact this.mono fun e w' ⟨a, c, he, hc, ho, hb⟩ => ⟨a, c, he, hc, ho, hW.trans (hb.mono hW.size)⟩)
            rw [← hrr]
            obtain ⟨g, hg⟩ : ∃ g, g = sgnOf 1 n := ⟨_, rfl⟩
            rw [← hg] at HCE
            clear p1 p2 p3 p4 hx hW0 hB hl IX RNG e1 hm sm hx1 hx2 hk0 hk1 hs0 hy4 hb hb1 hy lencall hn hln hsg hab hq hlq hkk hu hre hrr hg
            go_enter Tryz.func68, Tryz.ntmps68
            go_wp2_with fail
            rw [HW0.out]
            clear k1 k2 k3
            refine (HI.out _ hT).mono ?_
            rintro e w1 ⟨rfl, hb1⟩
            obtain ⟨k1, k2, k3⟩ := SS.out _ hb1
            have hbd := hb1.drew
            go_wp2_with fail
            go_region_held3 (fun W => W.cell? ⟨w.heap.size, 0, none⟩ = some (.int .i64 s) ∧ W.cell? ⟨w.heap.size, 1, none⟩ = some (.slice a (lim m).length c1) ∧ W.cell? ⟨w.heap.size, 2, none⟩ = some (.int .i64 x))
              (exact SS.out _ (by assumption))
              (first
              | (go_at_call 65; with_reducible refine (HS.out _ _ _ _ _ (by assumption)).mono ?_; rintro e w2 ⟨rfl, hb2, _⟩)
              | (go_at_call 66; with_reducible refine (HLN.out _ (by assumption)).mono ?_; rintro e w3 ⟨rfl, rfl⟩))
            all_goals
              clear k1 k2 k3 hb1 hbd
              obtain ⟨k1, k2, k3⟩ := SS.out _ hb2
              go_wp2_with fail
              refine (HCE.out _ hb2).mono ?_
              rintro e w4 ⟨a4, c4, rfl, ho4, hb4⟩
              clear k1 k2 k3 hb2
              go_wp2_with fail
              refine (HS.out _ _ _ _ _ hb4).mono ?_
              rintro e w5 ⟨rfl, hb5, hbb⟩
              replace ho4 := ho4.below hbb
              clear hbb hb4
              go_wp2_with fail
              refine (HRA.out _ _ _ hb5 ho4).mono ?_
              rintro e w6 ⟨a6, c6, rfl, hc6, ho6, hb6⟩
              clear hb5 ho4
              go_wp2_with fail
              refine (HMO.out _ _ _ hb6 hc6 ho6).mono ?_
              rintro e w11 ⟨a11, c11, rfl, hc11, ho11, hb11⟩
              clear hc6 ho6 hb6
              go_wp2_with fail
              refine (HLM.out _ _ _ hc11 ho11 hb11).mono ?_
              rintro e w12 ⟨a12, c12, rfl, hc12, ho12, hb12⟩
              clear hc11 ho11 hb11
              have HC4 := Lib.hid hc12
              have HO4 := Lib.hid ho12
              clear hc12 ho12
              obtain ⟨q1, q2, q3, q4, q5, q6⟩ := SR.out _ hb12
              go_wp2_with fail
              refine bodyPost_ret (v := .tuple #[.agg #[.int .i64 r1, .slice a12 r2.length c12, .int .i64 r4], .int .i64 r3]) (by simp [results, Tryz.results68, go_sem, *]) rfl ?_
              exact retYC_end (g := w.heap.size + 1) (r := (r1, r2, r4, r3)) P3.out P4.out hb12 (by omega) (by omega) _ _ _ HO4.out HC4.out

theorem od_tw {n : Nat} (h : n ≠ 0) : od n * 2 ^ tw n = n := by
  have h1 := (od_mul h).1
  rw [Nat.mul_comm]
  exact h1.symm
theorem ceF_zero {s x k : Int} {m : Nat} (h : upN s m x k = 0) : ceF s m x (2 * k) = (0, [], 0) := by
  unfold upN at h
  unfold ceF redZ
  rw [h, redS_zero]
theorem ceF_pos {s x k : Int} {m : Nat} (hs : Sg s m) (h0 : ¬ s < 0) (h : upN s m x k ≠ 0) : ceF s m x (2 * k) = (1, lim (od (upN s m x k)), -(2 * k) + (tw (upN s m x k) : Int)) := by
  have h1 := up_sign (x := x) (k := k) hs h0
  rw [sgnOf_pos h] at h1
  unfold ceF redZ
  rw [h1]
  exact redS_pos h
end Go.Proofs.YtgppagmejhgmaaaGreatDoor
