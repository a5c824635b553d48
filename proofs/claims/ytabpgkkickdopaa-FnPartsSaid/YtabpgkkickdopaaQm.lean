/-
  Contracts: exact numbers in their form and within their limits, by the program and by the model. Conditions: the limbs can be read; the library's table is as its initialiser lays it. Contracts: reduced of the program, l03Make of the model. Conditions: the limbs can be read; the library's table is as its initialiser lays it. Contracts: MakeDyadic of the program and of the model. Conditions: the limbs can be read; the library's table is as its initialiser lays it. Contracts: opposites of exact numbers, their range tests, floors and ceilings, by the program and by the model. Conditions: the limbs can be read; the library's table is as its initialiser lays it. Contracts: opposites, floors and ceilings of exact numbers, by the program and by the model. Conditions: the limbs can be read; the library's table is as its initialiser lays it.
-/
import Derived.Test.YtabpgkkickdopaaOd
import Derived.Test.YtabpgkkickdopaaVo
import Derived.Test.YtabpgkkickdopaaVe
import Derived.Test.YtabpgkkickdopaaTf
namespace Go.Proofs.Ytabpgkkickdopaa
set_option linter.unusedVariables false
open Go Go.RowKit

/-- A number s m 2^e in the form of an exact number: sign, limbs, exponent. -/
def redS (s : Int) (m : Nat) (e : Int) : Int × List Int × Int := if m = 0 then (0, [], 0) else (s, lim (od m), e + (tw m : Int))
theorem redS_zero (s e : Int) : redS s 0 e = (0, [], 0) := by simp [redS]
theorem redS_pos {s e : Int} {m : Nat} (h : m ≠ 0) : redS s m e = (s, lim (od m), e + (tw m : Int)) := by simp [redS, h]
/-- The same of an integer z. -/
def redZ (z e : Int) : Int × List Int × Int := redS z.sign z.natAbs e
theorem redZ_eq {s : Int} {m : Nat} (h : Sg s m) (e : Int) : redZ (s * (m : Int)) e = redS s m e := by
  obtain ⟨h1, h2⟩ := h.eq rfl
  unfold redZ
  rw [← h1, ← h2]
noncomputable def fitY (r : Int × List Int × Int) : Int × List Int × Int × Int := if dyB r.1 r.2.1 r.2.2 = true then (r.1, r.2.1, r.2.2, 0) else (0, [], 0, 3)
theorem fitY_yes {s : Int} {xs : List Int} {x : Int} (h : dyB s xs x = true) : fitY (s, xs, x) = (s, xs, x, 0) := by unfold fitY; rw [if_pos h]
theorem fitY_no {s : Int} {xs : List Int} {x : Int} (h : dyB s xs x = false) : fitY (s, xs, x) = (0, [], 0, 3) := by unfold fitY; rw [if_neg (by rw [h]; simp)]
theorem fitY_len (r : Int × List Int × Int) : (fitY r).2.1.length ≤ 200 := by
  unfold fitY
  split
  · rename_i h
    rcases (dyB_iff.1 h).1 with h | h
    · show r.2.1.length ≤ 200
      omega
    · exact h.1
  · simp
/-- The call returned an exact number and a code. -/
def RetYC (r : Int × List Int × Int × Int) (lo : Nat) (w : World) (e : Ending) (w' : World) : Prop := ∃ a c, e = .returned (.tuple #[.agg #[.int .i64 r.1, .slice a r.2.1.length c, .int .i64 r.2.2.1], .int .i64 r.2.2.2]) ∧ r.2.1.length ≤ c ∧ Own w' lo a r.2.1 ∧ Below w.heap.size w w'
/-- The call returned an exact number that may be too large. -/
def RetYR (r : Int × List Int × Int) (w : World) (e : Ending) (w' : World) : Prop := ∃ a c, e = .returned (.agg #[.int .i64 r.1, .slice a r.2.1.length c, .int .i64 r.2.2]) ∧ r.2.1.length ≤ c ∧ Own w' w.heap.size a r.2.1 ∧ Below w.heap.size w w'

theorem RetYC.alloc {r : Int × List Int × Int × Int} {lo : Nat} {w W : World} {e : Ending} (h : RetYC r lo w e W) (o : Obj) : RetYC r lo w e (W.alloc o) := by
  obtain ⟨a, c, he, hc, ho, hb⟩ := h
  exact ⟨a, c, he, hc, ho.alloc o, hb.alloc hb.size o⟩
theorem RetYR.alloc {r : Int × List Int × Int} {w W : World} {e : Ending} (h : RetYR r w e W) (o : Obj) : RetYR r w e (W.alloc o) := by
  obtain ⟨a, c, he, hc, ho, hb⟩ := h
  exact ⟨a, c, he, hc, ho.alloc o, hb.alloc hb.size o⟩
theorem below3 {w W0 W : World} {k g : Nat} (P3 : Below w.heap.size w W0) (P4 : W0.heap.size = w.heap.size + k) (hb : Below W0.heap.size W0 W) (hg : w.heap.size ≤ g) (u v x : Value) : Below w.heap.size w (((W.setCell ⟨g, 0, none⟩ u).setCell ⟨g, 1, none⟩ v).setCell ⟨g, 2, none⟩ x) :=
  Below.set3 (P3.trans (hb.mono (by omega))) hg u v x
theorem retYC_zero {w W0 W : World} {k g : Nat} (code : Int) (P3 : Below w.heap.size w W0) (P4 : W0.heap.size = w.heap.size + k) (hb : Below W0.heap.size W0 W) (hg : w.heap.size ≤ g) (u v x : Value) :
    RetYC (0, [], 0, code) w.heap.size w (.returned (.tuple #[.agg #[.int .i64 0, .slice none 0 0, .int .i64 0], .int .i64 code])) (((W.setCell ⟨g, 0, none⟩ u).setCell ⟨g, 1, none⟩ v).setCell ⟨g, 2, none⟩ x) :=
  ⟨none, 0, rfl, Nat.le_refl _, Own.nil, below3 P3 P4 hb hg u v x⟩
theorem retYC_end {w W0 W : World} {k g : Nat} {r : Int × List Int × Int × Int} {a : Option Addr} {c : Nat} (P3 : Below w.heap.size w W0) (P4 : W0.heap.size = w.heap.size + k) (hb : Below W0.heap.size W0 W) (hg : w.heap.size ≤ g) (hg2 : g < w.heap.size + k) (u v x : Value) (ho : Own W W0.heap.size a r.2.1) (hc : r.2.1.length ≤ c) :
    RetYC r w.heap.size w (.returned (.tuple #[.agg #[.int .i64 r.1, .slice a r.2.1.length c, .int .i64 r.2.2.1], .int .i64 r.2.2.2])) (((W.setCell ⟨g, 0, none⟩ u).setCell ⟨g, 1, none⟩ v).setCell ⟨g, 2, none⟩ x) :=
  ⟨a, c, rfl, hc, (Own.set3 ho (by omega) u v x).mono (by omega), below3 P3 P4 hb hg u v x⟩
theorem retYR_zero {w W0 W : World} {k g : Nat} (P3 : Below w.heap.size w W0) (P4 : W0.heap.size = w.heap.size + k) (hb : Below W0.heap.size W0 W) (hg : w.heap.size ≤ g) (u v x : Value) :
    RetYR (0, [], 0) w (.returned (.agg #[.int .i64 0, .slice none 0 0, .int .i64 0])) (((W.setCell ⟨g, 0, none⟩ u).setCell ⟨g, 1, none⟩ v).setCell ⟨g, 2, none⟩ x) :=
  ⟨none, 0, rfl, Nat.le_refl _, Own.nil, below3 P3 P4 hb hg u v x⟩
theorem retYR_end {w W0 W : World} {k g : Nat} {r : Int × List Int × Int} {a : Option Addr} {c : Nat} (P3 : Below w.heap.size w W0) (P4 : W0.heap.size = w.heap.size + k) (hb : Below W0.heap.size W0 W) (hg : w.heap.size ≤ g) (hg2 : g < w.heap.size + k) (u v x : Value) (ho : Own W W0.heap.size a r.2.1) (hc : r.2.1.length ≤ c) :
    RetYR r w (.returned (.agg #[.int .i64 r.1, .slice a r.2.1.length c, .int .i64 r.2.2])) (((W.setCell ⟨g, 0, none⟩ u).setCell ⟨g, 1, none⟩ v).setCell ⟨g, 2, none⟩ x) :=
  ⟨a, c, rfl, hc, (Own.set3 ho (by omega) u v x).mono (by omega), below3 P3 P4 hb hg u v x⟩
theorem shZ_tw {s : Int} {m : Nat} (h : m ≠ 0) : shZ (s * (m : Int)) (-(tw m : Int)) = s * (od m : Int) := by
  have hm : (m : Int) = (2 : Int) ^ tw m * (od m : Int) := by
    have := (od_mul h).1
    have h2 : (m : Int) = ((2 ^ tw m * od m : Nat) : Int) := by rw [← this]
    rw [h2]; simp
  by_cases h0 : tw m = 0
  · have e : (-(tw m : Int)) = ((0 : Nat) : Int) := by rw [h0]; rfl
    rw [e, shZ_up, hm, h0]
    simp
  · rw [shZ_down _ _ (by omega)]
    have e : s * (m : Int) = s * (od m : Int) * 2 ^ tw m := by
      rw [Int.mul_assoc, Int.mul_comm (od m : Int), ← hm]
    rw [e]
    exact Int.mul_ediv_cancel _ (by have : (0 : Int) < 2 ^ tw m := Int.pow_pos (by omega); omega)
theorem Sg.od {s : Int} {m : Nat} (h : Sg s m) (h0 : m ≠ 0) : Sg s (od m) := by
  have := od_pos h0
  unfold Sg at h ⊢
  omega

noncomputable def mkY (s : Int) (xs : List Int) (k : Int) : Int × List Int × Int × Int := @ite _ (IsWh s xs) (Classical.propDecidable _) (if -10000 ≤ k ∧ k ≤ 10000 then fitY (redS s (val (xs.map Int.toNat)) k) else (0, [], 0, 2)) (0, [], 0, 1)
theorem mkY_yes {s k : Int} {m : Nat} (h : IsWh s (lim m)) (h1 : -10000 ≤ k ∧ k ≤ 10000) : mkY s (lim m) k = fitY (redS s m k) := by unfold mkY; rw [if_pos h, if_pos h1, val_lim]
theorem mkY_rng {s : Int} {xs : List Int} {k : Int} (h : IsWh s xs) (h1 : ¬ (-10000 ≤ k ∧ k ≤ 10000)) : mkY s xs k = (0, [], 0, 2) := by unfold mkY; rw [if_pos h, if_neg h1]
theorem mkY_no {s : Int} {xs : List Int} {k : Int} (h : ¬ IsWh s xs) : mkY s xs k = (0, [], 0, 1) := by unfold mkY; rw [if_neg h]
theorem mkY_len (s : Int) (xs : List Int) (k : Int) : (mkY s xs k).2.1.length ≤ 200 := by
  unfold mkY
  split
  · split
    · exact fitY_len _
    · simp
  · simp
theorem redS_len (s : Int) (m : Nat) (k : Int) : (redS s m k).2.1.length ≤ (lim m).length := by
  unfold redS
  split
  · simp
  · exact lim_le_of_le (od_le m)

theorem shZ_lim {s k : Int} {m : Nat} (hm : (lim m).length ≤ 200) (hs : s = 0 ∨ s = 1 ∨ s = -1) (h1 : -20000 ≤ k) (h2 : k ≤ 20000) : (lim (shZ (s * (m : Int)) k).natAbs).length ≤ 1100 := by
  have h3 : (s * (m : Int)).natAbs ≤ m := by
    rcases hs with rfl | rfl | rfl <;> simp
  obtain ⟨z, hz⟩ : ∃ z, z = s * (m : Int) := ⟨_, rfl⟩
  rw [← hz] at h3 ⊢
  have hzl := lim_le_of_le h3
  by_cases h : 0 ≤ k
  · obtain ⟨K, rfl⟩ := Int.eq_ofNat_of_zero_le h
    rw [shZ_up, Int.natAbs_mul]
    have e : ((2 : Int) ^ K).natAbs = 2 ^ K := by rw [show (2 : Int) ^ K = ((2 ^ K : Nat) : Int) by simp]; exact Int.natAbs_natCast _
    rw [e]
    have h4 := lim_mul_len z.natAbs (2 ^ K)
    have h5 : (lim (2 ^ K)).length ≤ K / 24 + 1 := by
      rw [lim_length]
      refine dig_length_le ?_
      rw [two24]
      exact Nat.pow_lt_pow_right (by omega) (by omega)
    omega
  · obtain ⟨K, hK⟩ := Int.eq_ofNat_of_zero_le (show 0 ≤ -k by omega)
    obtain rfl : k = -(K : Int) := by omega
    rw [shZ_down _ _ (by omega)]
    have e : (2 : Int) ^ K = ((2 ^ K : Nat) : Int) := by simp
    rw [e]
    have h4 := lim_le_of_le (Int.natAbs_ediv_le_natAbs z ((2 ^ K : Nat) : Int))
    omega
theorem Sg.three {s : Int} {m : Nat} (h : Sg s m) : s = 0 ∨ s = 1 ∨ s = -1 := by unfold Sg at h; omega
theorem tw_pow {m : Nat} (h : m ≠ 0) (K : Nat) : tw (m * 2 ^ K) = tw m + K := by
  obtain ⟨q, hq⟩ := tw_spec h
  refine tw_eq (m := q) ?_
  rw [Nat.pow_add, Nat.mul_right_comm, ← hq]
theorem od_pow {m : Nat} (h : m ≠ 0) (K : Nat) : od (m * 2 ^ K) = od m := by
  unfold od
  rw [tw_pow h, Nat.pow_add, Nat.mul_comm m, Nat.mul_comm (2 ^ tw m), Nat.mul_div_mul_left _ _ (Nat.pow_pos (by omega))]
theorem redZ_pow (z e : Int) (K : Nat) : redZ (z * 2 ^ K) e = redZ z (e + (K : Int)) := by
  have hP : (2 : Int) ^ K = ((2 ^ K : Nat) : Int) := by simp
  have hpos : 0 < 2 ^ K := Nat.pow_pos (by omega)
  by_cases h0 : z = 0
  · subst h0; simp [redZ, redS]
  · have hn : z.natAbs ≠ 0 := by omega
    have e1 : (z * 2 ^ K).sign = z.sign := by
      rw [Int.sign_mul, hP, Int.sign_eq_one_of_pos (show (0 : Int) < ((2 ^ K : Nat) : Int) by omega), Int.mul_one]
    have e2 : (z * 2 ^ K).natAbs = z.natAbs * 2 ^ K := by rw [Int.natAbs_mul, hP, Int.natAbs_natCast]
    unfold redZ
    rw [e1, e2, redS_pos (Nat.mul_ne_zero hn (by omega)), redS_pos hn, od_pow hn, tw_pow hn]
    congr 2
    omega
/-- The form of a reduced number, and of its opposite. -/
theorem redZ_form (z e : Int) : ∃ s m x, redZ z e = (s, lim m, x) ∧ Sg s m ∧ m ≤ z.natAbs ∧ redZ (-z) e = ((-(s * (m : Int))).sign, lim (-(s * (m : Int))).natAbs, x) := by
  by_cases h0 : z = 0
  · subst h0
    refine ⟨0, 0, 0, by simp [redZ, redS, lim_zero], .inl ⟨rfl, rfl⟩, Nat.le_refl _, ?_⟩
    simp [redZ, redS, lim_zero]
  · have hn : z.natAbs ≠ 0 := by omega
    have hn' : (-z).natAbs ≠ 0 := by omega
    have hsg := (Sg.of z).od hn
    refine ⟨z.sign, od z.natAbs, e + (tw z.natAbs : Int), redS_pos hn, hsg, od_le _, ?_⟩
    have h2 : redZ (-z) e = ((-z).sign, lim (od (-z).natAbs), e + (tw (-z).natAbs : Int)) := redS_pos hn'
    rw [h2, Int.natAbs_neg]
    have e3 := (Sg.eq (s := -z.sign) (n := od z.natAbs) (z := -(z.sign * (od z.natAbs : Int))) (by unfold Sg at hsg ⊢; omega) (by rw [Int.neg_mul]))
    rw [← e3.1, ← e3.2, Int.sign_neg]

noncomputable def rngY (L : Int) (f : Int → Nat → Int → Int → Int × List Int × Int) (s : Int) (xs : List Int) (x k : Int) : Int × List Int × Int × Int :=
  @ite _ (IsDy s xs x) (Classical.propDecidable _) (if -L ≤ k ∧ k ≤ L then fitY (f s (val (xs.map Int.toNat)) x k) else (0, [], 0, 2)) (0, [], 0, 1)
theorem rngY_yes {L : Int} {f : Int → Nat → Int → Int → Int × List Int × Int} {s x k : Int} {m : Nat} (h : IsDy s (lim m) x) (h1 : -L ≤ k ∧ k ≤ L) : rngY L f s (lim m) x k = fitY (f s m x k) := by unfold rngY; rw [if_pos h, if_pos h1, val_lim]
theorem rngY_rng {L : Int} {f : Int → Nat → Int → Int → Int × List Int × Int} {s x k : Int} {xs : List Int} (h : IsDy s xs x) (h1 : ¬ (-L ≤ k ∧ k ≤ L)) : rngY L f s xs x k = (0, [], 0, 2) := by unfold rngY; rw [if_pos h, if_neg h1]
theorem rngY_no {L : Int} {f : Int → Nat → Int → Int → Int × List Int × Int} {s x k : Int} {xs : List Int} (h : ¬ IsDy s xs x) : rngY L f s xs x k = (0, [], 0, 1) := by unfold rngY; rw [if_neg h]
theorem rngY_len (L : Int) (f : Int → Nat → Int → Int → Int × List Int × Int) (s : Int) (xs : List Int) (x k : Int) : (rngY L f s xs x k).2.1.length ≤ 200 := by
  unfold rngY
  split
  · split
    · exact fitY_len _
    · simp
  · simp
def scF (s : Int) (m : Nat) (x k : Int) : Int × List Int × Int := redS s m (x + k)
def flF (s : Int) (m : Nat) (x k : Int) : Int × List Int × Int := redZ (shZ (s * (m : Int)) (x + k)) (-k)
def ceF (s : Int) (m : Nat) (x k : Int) : Int × List Int × Int := redZ (-(shZ (-(s * (m : Int))) (x + k))) (-k)

theorem isDy_of {s x : Int} {xs : List Int} (h : IsDy s xs x) : ∃ m, xs = lim m ∧ (lim m).length ≤ 200 ∧ Sg s m ∧ -5000 ≤ x ∧ x ≤ 5000 := by
  obtain ⟨m, e, h1, h2⟩ := isWh_of h.1
  exact ⟨m, e, h1, h2, h.2.1, h.2.2.1⟩
/-- The code of an exact number and an integer. -/
noncomputable def rangeC (s : Int) (xs : List Int) (x k lo hi : Int) : Int := if dyB s xs x = true then (if lo ≤ k ∧ k ≤ hi then 0 else 2) else 1
end Go.Proofs.Ytabpgkkickdopaa
