/-
  Contracts: opposites of exact numbers, their range tests, floors and ceilings, by the program and by the model. Conditions: the limbs can be read; the library's table is as its initialiser lays it.
-/
import Derived.Test.YtofjpalehcdmfaaDoorQd
import Derived.Test.YtofjpalehcdmfaaDoorTe
namespace Go.Proofs.YtofjpalehcdmfaaDoor
set_option linter.unusedVariables false
open Go Go.RowKit

theorem shZ_lim {s k : Int} {m : Nat} (hm : (lim m).length ≤ 200) (hs : s = 0 ∨ s = 1 ∨ s = -1) (h1 : -20000 ≤ k) (h2 : k ≤ 20000) : (lim (shZ (s * (m : Int)) k).natAbs).length ≤ 1100 := by
  have h3 : (s * (m : Int)).natAbs ≤ m := by
    rcases hs with rfl | rfl | rfl <;> simp
  obtain ⟨z, hz⟩ : ∃ z, z = s * (m : Int) := ⟨_, rfl⟩
  rw [← hz] at h3 ⊢
  have hzl := lim_le_of_le h3
  by_cases h : 0 ≤ k
  · obtain ⟨K, rfl⟩ := Int.eq_ofNat_of_zero_le h
    rw [shZ_up, Int.natAbs_mul]
    have e : ((2 : Int) ^ K).natAbs = 2 ^ K := by rw [show (2 : Int) ^ K = ((2 ^ K : Nat) : Int) by simp]; exact Int.natAbs_natCast _
    rw [e]
    have h4 := lim_mul_len z.natAbs (2 ^ K)
    have h5 : (lim (2 ^ K)).length ≤ K / 24 + 1 := by
      rw [lim_length]
      refine dig_length_le ?_
      rw [two24]
      exact Nat.pow_lt_pow_right (by omega) (by omega)
    omega
  · obtain ⟨K, hK⟩ := Int.eq_ofNat_of_zero_le (show 0 ≤ -k by omega)
    obtain rfl : k = -(K : Int) := by omega
    rw [shZ_down _ _ (by omega)]
    have e : (2 : Int) ^ K = ((2 ^ K : Nat) : Int) := by simp
    rw [e]
    have h4 := lim_le_of_le (Int.natAbs_ediv_le_natAbs z ((2 ^ K : Nat) : Int))
    omega
theorem Sg.three {s : Int} {m : Nat} (h : Sg s m) : s = 0 ∨ s = 1 ∨ s = -1 := by unfold Sg at h; omega
theorem tw_pow {m : Nat} (h : m ≠ 0) (K : Nat) : tw (m * 2 ^ K) = tw m + K := by
  obtain ⟨q, hq⟩ := tw_spec h
  refine tw_eq (m := q) ?_
  rw [Nat.pow_add, Nat.mul_right_comm, ← hq]
theorem od_pow {m : Nat} (h : m ≠ 0) (K : Nat) : od (m * 2 ^ K) = od m := by
  unfold od
  rw [tw_pow h, Nat.pow_add, Nat.mul_comm m, Nat.mul_comm (2 ^ tw m), Nat.mul_div_mul_left _ _ (Nat.pow_pos (by omega))]
theorem redZ_pow (z e : Int) (K : Nat) : redZ (z * 2 ^ K) e = redZ z (e + (K : Int)) := by
  have hP : (2 : Int) ^ K = ((2 ^ K : Nat) : Int) := by simp
  have hpos : 0 < 2 ^ K := Nat.pow_pos (by omega)
  by_cases h0 : z = 0
  · subst h0; simp [redZ, redS]
  · have hn : z.natAbs ≠ 0 := by omega
    have e1 : (z * 2 ^ K).sign = z.sign := by
      rw [Int.sign_mul, hP, Int.sign_eq_one_of_pos (show (0 : Int) < ((2 ^ K : Nat) : Int) by omega), Int.mul_one]
    have e2 : (z * 2 ^ K).natAbs = z.natAbs * 2 ^ K := by rw [Int.natAbs_mul, hP, Int.natAbs_natCast]
    unfold redZ
    rw [e1, e2, redS_pos (Nat.mul_ne_zero hn (by omega)), redS_pos hn, od_pow hn, tw_pow hn]
    congr 2
    omega
/-- The form of a reduced number, and of its opposite. -/
theorem redZ_form (z e : Int) : ∃ s m x, redZ z e = (s, lim m, x) ∧ Sg s m ∧ m ≤ z.natAbs ∧ redZ (-z) e = ((-(s * (m : Int))).sign, lim (-(s * (m : Int))).natAbs, x) := by
  by_cases h0 : z = 0
  · subst h0
    refine ⟨0, 0, 0, by simp [redZ, redS, lim_zero], .inl ⟨rfl, rfl⟩, Nat.le_refl _, ?_⟩
    simp [redZ, redS, lim_zero]
  · have hn : z.natAbs ≠ 0 := by omega
    have hn' : (-z).natAbs ≠ 0 := by omega
    have hsg := (Sg.of z).od hn
    refine ⟨z.sign, od z.natAbs, e + (tw z.natAbs : Int), redS_pos hn, hsg, od_le _, ?_⟩
    have h2 : redZ (-z) e = ((-z).sign, lim (od (-z).natAbs), e + (tw (-z).natAbs : Int)) := redS_pos hn'
    rw [h2, Int.natAbs_neg]
    have e3 := (Sg.eq (s := -z.sign) (n := od z.natAbs) (z := -(z.sign * (od z.natAbs : Int))) (by unfold Sg at hsg ⊢; omega) (by rw [Int.neg_mul]))
    rw [← e3.1, ← e3.2, Int.sign_neg]

noncomputable def rngY (L : Int) (f : Int → Nat → Int → Int → Int × List Int × Int) (s : Int) (xs : List Int) (x k : Int) : Int × List Int × Int × Int :=
  @ite _ (IsDy s xs x) (Classical.propDecidable _) (if -L ≤ k ∧ k ≤ L then fitY (f s (val (xs.map Int.toNat)) x k) else (0, [], 0, 2)) (0, [], 0, 1)
theorem rngY_yes {L : Int} {f : Int → Nat → Int → Int → Int × List Int × Int} {s x k : Int} {m : Nat} (h : IsDy s (lim m) x) (h1 : -L ≤ k ∧ k ≤ L) : rngY L f s (lim m) x k = fitY (f s m x k) := by unfold rngY; rw [if_pos h, if_pos h1, val_lim]
theorem rngY_rng {L : Int} {f : Int → Nat → Int → Int → Int × List Int × Int} {s x k : Int} {xs : List Int} (h : IsDy s xs x) (h1 : ¬ (-L ≤ k ∧ k ≤ L)) : rngY L f s xs x k = (0, [], 0, 2) := by unfold rngY; rw [if_pos h, if_neg h1]
theorem rngY_no {L : Int} {f : Int → Nat → Int → Int → Int × List Int × Int} {s x k : Int} {xs : List Int} (h : ¬ IsDy s xs x) : rngY L f s xs x k = (0, [], 0, 1) := by unfold rngY; rw [if_neg h]
theorem rngY_len (L : Int) (f : Int → Nat → Int → Int → Int × List Int × Int) (s : Int) (xs : List Int) (x k : Int) : (rngY L f s xs x k).2.1.length ≤ 200 := by
  unfold rngY
  split
  · split
    · exact fitY_len _
    · simp
  · simp
def scF (s : Int) (m : Nat) (x k : Int) : Int × List Int × Int := redS s m (x + k)
def flF (s : Int) (m : Nat) (x k : Int) : Int × List Int × Int := redZ (shZ (s * (m : Int)) (x + k)) (-k)
def ceF (s : Int) (m : Nat) (x k : Int) : Int × List Int × Int := redZ (-(shZ (-(s * (m : Int))) (x + k))) (-k)

theorem isDy_of {s x : Int} {xs : List Int} (h : IsDy s xs x) : ∃ m, xs = lim m ∧ (lim m).length ≤ 200 ∧ Sg s m ∧ -5000 ≤ x ∧ x ≤ 5000 := by
  obtain ⟨m, e, h1, h2⟩ := isWh_of h.1
  exact ⟨m, e, h1, h2, h.2.1, h.2.2.1⟩
/-- The code of an exact number and an integer. -/
noncomputable def rangeC (s : Int) (xs : List Int) (x k lo hi : Int) : Int := if dyB s xs x = true then (if lo ≤ k ∧ k ≤ hi then 0 else 2) else 1
set_option maxHeartbeats 1000000 in
theorem sRange (s : Int) (a : Option Addr) (xs : List Int) (c1 : Nat) (x k lo hi : Int) (w : World) (B : Nat) (hB : B ≤ w.heap.size) (hl : xs.length ≤ 9223372036854775807) (hx : Ints w B a xs) :
    Calls Tryd.prog 129 #[.agg #[.int .i64 s, .slice a xs.length c1, .int .i64 x], .int .i64 k, .int .i64 lo, .int .i64 hi] w (RetB (.int .i64 (rangeC s xs x k lo hi)) w) := by
  obtain ⟨W0, hW0⟩ : ∃ W0 : World, w.alloc (.cells #[.int .i64 s, .slice a xs.length c1, .int .i64 x] 50) = W0 := ⟨_, rfl⟩
  obtain ⟨p1, p3, p4⟩ := one_box w 50 #[.int .i64 s, .slice a xs.length c1, .int .i64 x]
  rw [hW0] at p1 p3 p4
  have HW0 := Lib.hid hW0
  have P3 := Lib.hid p3
  have P4 := Lib.hid p4
  have SS := Lib.hid (show ∀ W, Below W0.heap.size W0 W → (W.cell? ⟨w.heap.size, 0, none⟩ = some (.int .i64 s) ∧ W.cell? ⟨w.heap.size, 1, none⟩ = some (.slice a xs.length c1) ∧ W.cell? ⟨w.heap.size, 2, none⟩ = some (.int .i64 x)) from
    fun W hW => (p1.below hW).tri)
  have hT : Below W0.heap.size W0 W0 := Below.refl _ _
  have HEND := Lib.hid (show ∀ v W, Below W0.heap.size W0 W → RetB v w (.returned v) W from fun v W hW => ⟨rfl, P3.out.trans (hW.mono (by omega))⟩)
  have HI := Lib.hid (show ∀ W, Below W0.heap.size W0 W → Calls Tryd.prog 134 #[.agg #[.int .i64 s, .slice a xs.length c1, .int .i64 x]] W fun e w' => e = .returned (.bool (dyB s xs x)) ∧ Below W0.heap.size W0 w' from
    fun W hW => (sDy s a xs c1 x W B (by have := hW.size; omega) hl (hx.below ((p3.mono hB).trans (hW.mono (by omega))))).mono fun e w' ⟨he, hb⟩ => ⟨he, hW.trans (hb.mono hW.size)⟩)
  obtain ⟨k1, k2, k3⟩ := SS.out _ hT
  unfold rangeC
  cases h1 : dyB s xs x
  · rw [h1] at HI
    rw [if_neg (by simp)]
    clear p1 p3 p4 hx hW0 hB h1 hl
    go_enter Tryd.func129, Tryd.ntmps129
    go_wp2_with fail
    rw [HW0.out]
    refine (HI.out _ hT).mono ?_
    rintro e w1 ⟨rfl, hb⟩
    go_wp2_with fail
    go_ret
    exact HEND.out _ _ hb
  · rw [h1] at HI
    rw [if_pos rfl]
    by_cases hk : lo ≤ k ∧ k ≤ hi
    all_goals
      first
      | (have HN := Lib.hid (fun W => in_yes k lo hi W hk.1 hk.2); rw [if_pos hk])
      | (have HN := Lib.hid (fun W => in_no k lo hi W (by omega)); rw [if_neg hk])
      clear p1 p3 p4 hx hW0 hB h1 hl hk
      go_enter Tryd.func129, Tryd.ntmps129
      go_wp2_with fail
      rw [HW0.out]
      refine (HI.out _ hT).mono ?_
      rintro e w1 ⟨rfl, hb⟩
      go_wp2_with fail
      refine (HN.out _).mono ?_
      rintro e w2 ⟨rfl, rfl⟩
      go_wp2_with fail
      go_ret
      exact HEND.out _ _ hb
end Go.Proofs.YtofjpalehcdmfaaDoor
