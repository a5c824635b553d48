/-
  Contracts: exact numbers in their form and within their limits, by the program and by the model. Conditions: the limbs can be read; the library's table is as its initialiser lays it.
-/
import Derived.Test.YtofjpalehcdmfaaDoorQa
import Derived.Test.YtofjpalehcdmfaaDoorOd
import Derived.Test.YtofjpalehcdmfaaDoorVo
import Derived.Test.YtofjpalehcdmfaaDoorVe
namespace Go.Proofs.YtofjpalehcdmfaaDoor
set_option linter.unusedVariables false
open Go Go.RowKit

/-- A number s m 2^e in the form of an exact number: sign, limbs, exponent. -/
def redS (s : Int) (m : Nat) (e : Int) : Int × List Int × Int := if m = 0 then (0, [], 0) else (s, lim (od m), e + (tw m : Int))
theorem redS_zero (s e : Int) : redS s 0 e = (0, [], 0) := by simp [redS]
theorem redS_pos {s e : Int} {m : Nat} (h : m ≠ 0) : redS s m e = (s, lim (od m), e + (tw m : Int)) := by simp [redS, h]
/-- The same of an integer z. -/
def redZ (z e : Int) : Int × List Int × Int := redS z.sign z.natAbs e
theorem redZ_eq {s : Int} {m : Nat} (h : Sg s m) (e : Int) : redZ (s * (m : Int)) e = redS s m e := by
  obtain ⟨h1, h2⟩ := h.eq rfl
  unfold redZ
  rw [← h1, ← h2]
noncomputable def fitY (r : Int × List Int × Int) : Int × List Int × Int × Int := if dyB r.1 r.2.1 r.2.2 = true then (r.1, r.2.1, r.2.2, 0) else (0, [], 0, 3)
theorem fitY_yes {s : Int} {xs : List Int} {x : Int} (h : dyB s xs x = true) : fitY (s, xs, x) = (s, xs, x, 0) := by unfold fitY; rw [if_pos h]
theorem fitY_no {s : Int} {xs : List Int} {x : Int} (h : dyB s xs x = false) : fitY (s, xs, x) = (0, [], 0, 3) := by unfold fitY; rw [if_neg (by rw [h]; simp)]
theorem fitY_len (r : Int × List Int × Int) : (fitY r).2.1.length ≤ 200 := by
  unfold fitY
  split
  · rename_i h
    rcases (dyB_iff.1 h).1 with h | h
    · show r.2.1.length ≤ 200
      omega
    · exact h.1
  · simp
/-- The call returned an exact number and a code. -/
def RetYC (r : Int × List Int × Int × Int) (lo : Nat) (w : World) (e : Ending) (w' : World) : Prop := ∃ a c, e = .returned (.tuple #[.agg #[.int .i64 r.1, .slice a r.2.1.length c, .int .i64 r.2.2.1], .int .i64 r.2.2.2]) ∧ r.2.1.length ≤ c ∧ Own w' lo a r.2.1 ∧ Below w.heap.size w w'
/-- The call returned an exact number that may be too large. -/
def RetYR (r : Int × List Int × Int) (w : World) (e : Ending) (w' : World) : Prop := ∃ a c, e = .returned (.agg #[.int .i64 r.1, .slice a r.2.1.length c, .int .i64 r.2.2]) ∧ r.2.1.length ≤ c ∧ Own w' w.heap.size a r.2.1 ∧ Below w.heap.size w w'

theorem RetYC.alloc {r : Int × List Int × Int × Int} {lo : Nat} {w W : World} {e : Ending} (h : RetYC r lo w e W) (o : Obj) : RetYC r lo w e (W.alloc o) := by
  obtain ⟨a, c, he, hc, ho, hb⟩ := h
  exact ⟨a, c, he, hc, ho.alloc o, hb.alloc hb.size o⟩
theorem RetYR.alloc {r : Int × List Int × Int} {w W : World} {e : Ending} (h : RetYR r w e W) (o : Obj) : RetYR r w e (W.alloc o) := by
  obtain ⟨a, c, he, hc, ho, hb⟩ := h
  exact ⟨a, c, he, hc, ho.alloc o, hb.alloc hb.size o⟩
theorem below3 {w W0 W : World} {k g : Nat} (P3 : Below w.heap.size w W0) (P4 : W0.heap.size = w.heap.size + k) (hb : Below W0.heap.size W0 W) (hg : w.heap.size ≤ g) (u v x : Value) : Below w.heap.size w (((W.setCell ⟨g, 0, none⟩ u).setCell ⟨g, 1, none⟩ v).setCell ⟨g, 2, none⟩ x) :=
  Below.set3 (P3.trans (hb.mono (by omega))) hg u v x
theorem retYC_zero {w W0 W : World} {k g : Nat} (code : Int) (P3 : Below w.heap.size w W0) (P4 : W0.heap.size = w.heap.size + k) (hb : Below W0.heap.size W0 W) (hg : w.heap.size ≤ g) (u v x : Value) :
    RetYC (0, [], 0, code) w.heap.size w (.returned (.tuple #[.agg #[.int .i64 0, .slice none 0 0, .int .i64 0], .int .i64 code])) (((W.setCell ⟨g, 0, none⟩ u).setCell ⟨g, 1, none⟩ v).setCell ⟨g, 2, none⟩ x) :=
  ⟨none, 0, rfl, Nat.le_refl _, Own.nil, below3 P3 P4 hb hg u v x⟩
theorem retYC_end {w W0 W : World} {k g : Nat} {r : Int × List Int × Int × Int} {a : Option Addr} {c : Nat} (P3 : Below w.heap.size w W0) (P4 : W0.heap.size = w.heap.size + k) (hb : Below W0.heap.size W0 W) (hg : w.heap.size ≤ g) (hg2 : g < w.heap.size + k) (u v x : Value) (ho : Own W W0.heap.size a r.2.1) (hc : r.2.1.length ≤ c) :
    RetYC r w.heap.size w (.returned (.tuple #[.agg #[.int .i64 r.1, .slice a r.2.1.length c, .int .i64 r.2.2.1], .int .i64 r.2.2.2])) (((W.setCell ⟨g, 0, none⟩ u).setCell ⟨g, 1, none⟩ v).setCell ⟨g, 2, none⟩ x) :=
  ⟨a, c, rfl, hc, (Own.set3 ho (by omega) u v x).mono (by omega), below3 P3 P4 hb hg u v x⟩
theorem retYR_zero {w W0 W : World} {k g : Nat} (P3 : Below w.heap.size w W0) (P4 : W0.heap.size = w.heap.size + k) (hb : Below W0.heap.size W0 W) (hg : w.heap.size ≤ g) (u v x : Value) :
    RetYR (0, [], 0) w (.returned (.agg #[.int .i64 0, .slice none 0 0, .int .i64 0])) (((W.setCell ⟨g, 0, none⟩ u).setCell ⟨g, 1, none⟩ v).setCell ⟨g, 2, none⟩ x) :=
  ⟨none, 0, rfl, Nat.le_refl _, Own.nil, below3 P3 P4 hb hg u v x⟩
theorem retYR_end {w W0 W : World} {k g : Nat} {r : Int × List Int × Int} {a : Option Addr} {c : Nat} (P3 : Below w.heap.size w W0) (P4 : W0.heap.size = w.heap.size + k) (hb : Below W0.heap.size W0 W) (hg : w.heap.size ≤ g) (hg2 : g < w.heap.size + k) (u v x : Value) (ho : Own W W0.heap.size a r.2.1) (hc : r.2.1.length ≤ c) :
    RetYR r w (.returned (.agg #[.int .i64 r.1, .slice a r.2.1.length c, .int .i64 r.2.2])) (((W.setCell ⟨g, 0, none⟩ u).setCell ⟨g, 1, none⟩ v).setCell ⟨g, 2, none⟩ x) :=
  ⟨a, c, rfl, hc, (Own.set3 ho (by omega) u v x).mono (by omega), below3 P3 P4 hb hg u v x⟩
theorem shZ_tw {s : Int} {m : Nat} (h : m ≠ 0) : shZ (s * (m : Int)) (-(tw m : Int)) = s * (od m : Int) := by
  have hm : (m : Int) = (2 : Int) ^ tw m * (od m : Int) := by
    have := (od_mul h).1
    have h2 : (m : Int) = ((2 ^ tw m * od m : Nat) : Int) := by rw [← this]
    rw [h2]; simp
  by_cases h0 : tw m = 0
  · have e : (-(tw m : Int)) = ((0 : Nat) : Int) := by rw [h0]; rfl
    rw [e, shZ_up, hm, h0]
    simp
  · rw [shZ_down _ _ (by omega)]
    have e : s * (m : Int) = s * (od m : Int) * 2 ^ tw m := by
      rw [Int.mul_assoc, Int.mul_comm (od m : Int), ← hm]
    rw [e]
    exact Int.mul_ediv_cancel _ (by have : (0 : Int) < 2 ^ tw m := Int.pow_pos (by omega); omega)
theorem Sg.od {s : Int} {m : Nat} (h : Sg s m) (h0 : m ≠ 0) : Sg s (od m) := by
  have := od_pos h0
  unfold Sg at h ⊢
  omega

set_option maxHeartbeats 1000000 in
theorem iLimitY (s : Int) (xs : List Int) (x : Int) (a : Option Addr) (c : Nat) (w : World) (lo : Nat) (hl : xs.length ≤ 9223372036854775807) (hc : xs.length ≤ c) (ho : Own w lo a xs) :
    Calls Tryd.prog 116 #[.agg #[.int .i64 s, .slice a xs.length c, .int .i64 x]] w (RetYC (fitY (s, xs, x)) lo w) := by
  obtain ⟨W0, hW0⟩ : ∃ W0 : World, (w.alloc (.cells #[.int .i64 s, .slice a xs.length c, .int .i64 x] 50)).alloc (.cells #[.int .i64 0, .slice none 0 0, .int .i64 0] 50) = W0 := ⟨_, rfl⟩
  obtain ⟨p1, p2, p3, p4⟩ := two_box w 50 #[.int .i64 s, .slice a xs.length c, .int .i64 x] #[.int .i64 0, .slice none 0 0, .int .i64 0]
  have ho0 : Own W0 lo a xs ∧ (∀ g, a = some ⟨g, 0, none⟩ → xs ≠ [] → g < w.heap.size) := by
    refine ⟨by rw [← hW0]; exact (ho.alloc _).alloc _, fun g hg hne => ?_⟩
    rcases ho with h | ⟨g', hg', _, hr⟩
    · exact absurd h hne
    · rw [hg] at hg'; simp at hg'; subst hg'; exact hr.lt
  rw [hW0] at p1 p2 p3 p4
  have HW0 := Lib.hid hW0
  have P3 := Lib.hid p3
  have P4 := Lib.hid p4
  have HO := Lib.hid ho0
  have HC := Lib.hid hc
  have SS := Lib.hid (show ∀ W, Below W0.heap.size W0 W → (W.cell? ⟨w.heap.size, 0, none⟩ = some (.int .i64 s) ∧ W.cell? ⟨w.heap.size, 1, none⟩ = some (.slice a xs.length c) ∧ W.cell? ⟨w.heap.size, 2, none⟩ = some (.int .i64 x)) from
    fun W hW => (p1.below hW).tri)
  have SR := Lib.hid (show ∀ W, Below W0.heap.size W0 W → _ from fun W hW => (p2.below hW).tri6)
  have HI := Lib.hid (show ∀ W, Below W0.heap.size W0 W → Calls Tryd.prog 122 #[.agg #[.int .i64 s, .slice a xs.length c, .int .i64 x]] W fun e w' => e = .returned (.bool (dyB s xs x)) ∧ Below W0.heap.size W0 w' from
    fun W hW => (iIsDyadic s a xs c x W W.heap.size (Nat.le_refl _) hl (ho0.1.below hW).ints).mono fun e w' ⟨he, hb⟩ => ⟨he, hW.trans (hb.mono hW.size)⟩)
  have hT : Below W0.heap.size W0 W0 := Below.refl _ _
  have HOE := Lib.hid (show ∀ W u v y, Below W0.heap.size W0 W → Own (((W.setCell ⟨w.heap.size + 1, 0, none⟩ u).setCell ⟨w.heap.size + 1, 1, none⟩ v).setCell ⟨w.heap.size + 1, 2, none⟩ y) lo a xs from fun W u v y hW => by
    rcases ho0.1.below hW with h | ⟨g, hg, hlo, hr⟩
    · exact .inl h
    · by_cases hne : xs = []
      · exact .inl hne
      · have hlt := ho0.2 g hg hne
        exact .inr ⟨g, hg, hlo, ((hr.far (by simp; omega) _).far (by simp; omega) _).far (by simp; omega) _⟩)
  have HBE := Lib.hid (show ∀ W u v y, Below W0.heap.size W0 W → Below w.heap.size w (((W.setCell ⟨w.heap.size + 1, 0, none⟩ u).setCell ⟨w.heap.size + 1, 1, none⟩ v).setCell ⟨w.heap.size + 1, 2, none⟩ y) from fun W u v y hW =>
    (((p3.trans (hW.mono (by omega))).setCell (by simp) _).setCell (by simp) _).setCell (by simp) _)
  cases h : dyB s xs x
  · rw [h] at HI
    rw [fitY_no h]
    clear p1 p2 p3 p4 ho hW0 h hl hc ho0
    go_enter Tryd.func116, Tryd.ntmps116
    go_wp2_with fail
    rw [HW0.out]
    refine (HI.out _ hT).mono ?_
    rintro e w1 ⟨rfl, hb⟩
    obtain ⟨k1, k2, k3⟩ := SS.out _ hb
    obtain ⟨q1, q2, q3, q4, q5, q6⟩ := SR.out _ hb
    go_wp2_with fail
    refine bodyPost_ret (v := .tuple #[.agg #[.int .i64 0, .slice none 0 0, .int .i64 0], .int .i64 3]) (by simp [results, Tryd.results116, go_sem, *]) rfl ?_
    exact ⟨none, 0, rfl, Nat.le_refl _, .inl rfl, HBE.out _ _ _ _ hb⟩
  · rw [h] at HI
    rw [fitY_yes h]
    clear p1 p2 p3 p4 ho hW0 h hl hc ho0
    go_enter Tryd.func116, Tryd.ntmps116
    go_wp2_with fail
    rw [HW0.out]
    refine (HI.out _ hT).mono ?_
    rintro e w1 ⟨rfl, hb⟩
    obtain ⟨k1, k2, k3⟩ := SS.out _ hb
    obtain ⟨q1, q2, q3, q4, q5, q6⟩ := SR.out _ hb
    go_wp2_with fail
    refine bodyPost_ret (v := .tuple #[.agg #[.int .i64 s, .slice a xs.length c, .int .i64 x], .int .i64 0]) (by simp [results, Tryd.results116, go_sem, *]) rfl ?_
    exact ⟨a, c, rfl, HC.out, HOE.out _ _ _ _ hb, HBE.out _ _ _ _ hb⟩
set_option maxHeartbeats 1000000 in
theorem sFitY (s : Int) (xs : List Int) (x : Int) (a : Option Addr) (c : Nat) (w : World) (lo : Nat) (hl : xs.length ≤ 9223372036854775807) (hc : xs.length ≤ c) (ho : Own w lo a xs) :
    Calls Tryd.prog 113 #[.agg #[.int .i64 s, .slice a xs.length c, .int .i64 x]] w (RetYC (fitY (s, xs, x)) lo w) := by
  obtain ⟨W0, hW0⟩ : ∃ W0 : World, (w.alloc (.cells #[.int .i64 s, .slice a xs.length c, .int .i64 x] 50)).alloc (.cells #[.int .i64 0, .slice none 0 0, .int .i64 0] 50) = W0 := ⟨_, rfl⟩
  obtain ⟨p1, p2, p3, p4⟩ := two_box w 50 #[.int .i64 s, .slice a xs.length c, .int .i64 x] #[.int .i64 0, .slice none 0 0, .int .i64 0]
  have ho0 : Own W0 lo a xs ∧ (∀ g, a = some ⟨g, 0, none⟩ → xs ≠ [] → g < w.heap.size) := by
    refine ⟨by rw [← hW0]; exact (ho.alloc _).alloc _, fun g hg hne => ?_⟩
    rcases ho with h | ⟨g', hg', _, hr⟩
    · exact absurd h hne
    · rw [hg] at hg'; simp at hg'; subst hg'; exact hr.lt
  rw [hW0] at p1 p2 p3 p4
  have HW0 := Lib.hid hW0
  have P3 := Lib.hid p3
  have P4 := Lib.hid p4
  have HO := Lib.hid ho0
  have HC := Lib.hid hc
  have SS := Lib.hid (show ∀ W, Below W0.heap.size W0 W → (W.cell? ⟨w.heap.size, 0, none⟩ = some (.int .i64 s) ∧ W.cell? ⟨w.heap.size, 1, none⟩ = some (.slice a xs.length c) ∧ W.cell? ⟨w.heap.size, 2, none⟩ = some (.int .i64 x)) from
    fun W hW => (p1.below hW).tri)
  have SR := Lib.hid (show ∀ W, Below W0.heap.size W0 W → _ from fun W hW => (p2.below hW).tri6)
  have HI := Lib.hid (show ∀ W, Below W0.heap.size W0 W → Calls Tryd.prog 134 #[.agg #[.int .i64 s, .slice a xs.length c, .int .i64 x]] W fun e w' => e = .returned (.bool (dyB s xs x)) ∧ Below W0.heap.size W0 w' from
    fun W hW => (sDy s a xs c x W W.heap.size (Nat.le_refl _) hl (ho0.1.below hW).ints).mono fun e w' ⟨he, hb⟩ => ⟨he, hW.trans (hb.mono hW.size)⟩)
  have hT : Below W0.heap.size W0 W0 := Below.refl _ _
  have HOE := Lib.hid (show ∀ W u v y, Below W0.heap.size W0 W → Own (((W.setCell ⟨w.heap.size + 1, 0, none⟩ u).setCell ⟨w.heap.size + 1, 1, none⟩ v).setCell ⟨w.heap.size + 1, 2, none⟩ y) lo a xs from fun W u v y hW => by
    rcases ho0.1.below hW with h | ⟨g, hg, hlo, hr⟩
    · exact .inl h
    · by_cases hne : xs = []
      · exact .inl hne
      · have hlt := ho0.2 g hg hne
        exact .inr ⟨g, hg, hlo, ((hr.far (by simp; omega) _).far (by simp; omega) _).far (by simp; omega) _⟩)
  have HBE := Lib.hid (show ∀ W u v y, Below W0.heap.size W0 W → Below w.heap.size w (((W.setCell ⟨w.heap.size + 1, 0, none⟩ u).setCell ⟨w.heap.size + 1, 1, none⟩ v).setCell ⟨w.heap.size + 1, 2, none⟩ y) from fun W u v y hW =>
    (((p3.trans (hW.mono (by omega))).setCell (by simp) _).setCell (by simp) _).setCell (by simp) _)
  cases h : dyB s xs x
  · rw [h] at HI
    rw [fitY_no h]
    clear p1 p2 p3 p4 ho hW0 h hl hc ho0
    go_enter Tryd.func113, Tryd.ntmps113
    go_wp2_with fail
    rw [HW0.out]
    refine (HI.out _ hT).mono ?_
    rintro e w1 ⟨rfl, hb⟩
    obtain ⟨k1, k2, k3⟩ := SS.out _ hb
    obtain ⟨q1, q2, q3, q4, q5, q6⟩ := SR.out _ hb
    go_wp2_with fail
    refine bodyPost_ret (v := .tuple #[.agg #[.int .i64 0, .slice none 0 0, .int .i64 0], .int .i64 3]) (by simp [results, Tryd.results113, go_sem, *]) rfl ?_
    exact ⟨none, 0, rfl, Nat.le_refl _, .inl rfl, HBE.out _ _ _ _ hb⟩
  · rw [h] at HI
    rw [fitY_yes h]
    clear p1 p2 p3 p4 ho hW0 h hl hc ho0
    go_enter Tryd.func113, Tryd.ntmps113
    go_wp2_with fail
    rw [HW0.out]
    refine (HI.out _ hT).mono ?_
    rintro e w1 ⟨rfl, hb⟩
    obtain ⟨k1, k2, k3⟩ := SS.out _ hb
    obtain ⟨q1, q2, q3, q4, q5, q6⟩ := SR.out _ hb
    go_wp2_with fail
    refine bodyPost_ret (v := .tuple #[.agg #[.int .i64 s, .slice a xs.length c, .int .i64 x], .int .i64 0]) (by simp [results, Tryd.results113, go_sem, *]) rfl ?_
    exact ⟨a, c, rfl, HC.out, HOE.out _ _ _ _ hb, HBE.out _ _ _ _ hb⟩
end Go.Proofs.YtofjpalehcdmfaaDoor
