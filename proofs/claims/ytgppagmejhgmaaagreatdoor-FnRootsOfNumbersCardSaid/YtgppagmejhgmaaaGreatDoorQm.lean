/-
  Contracts: exact numbers in their form and within their limits, by the program and by the model. Conditions: the limbs can be read; the library's table is as its initialiser lays it. Contracts: reduced of the program, l03Make of the model. Conditions: the limbs can be read; the library's table is as its initialiser lays it. Contracts: MakeDyadic of the program and of the model. Conditions: the limbs can be read; the library's table is as its initialiser lays it. Contracts: opposites of exact numbers, their range tests, floors and ceilings, by the program and by the model. Conditions: the limbs can be read; the library's table is as its initialiser lays it. Contracts: opposites, floors and ceilings of exact numbers, by the program and by the model. Conditions: the limbs can be read; the library's table is as its initialiser lays it.
-/
import Derived.Test.YtgppagmejhgmaaaGreatDoorOd
import Derived.Test.YtgppagmejhgmaaaGreatDoorVo
import Derived.Test.YtgppagmejhgmaaaGreatDoorVe
import Derived.Test.YtgppagmejhgmaaaGreatDoorTf
namespace Go.Proofs.YtgppagmejhgmaaaGreatDoor
set_option linter.unusedVariables false
open Go Go.RowKit

/-- A number s m 2^e in the form of an exact number: sign, limbs, exponent. -/
def redS (s : Int) (m : Nat) (e : Int) : Int × List Int × Int := if m = 0 then (0, [], 0) else (s, lim (od m), e + (tw m : Int))
theorem redS_zero (s e : Int) : redS s 0 e = (0, [], 0) := by simp [redS]
theorem redS_pos {s e : Int} {m : Nat} (h : m ≠ 0) : redS s m e = (s, lim (od m), e + (tw m : Int)) := by simp [redS, h]
/-- The same of an integer z. -/
def redZ (z e : Int) : Int × List Int × Int := redS z.sign z.natAbs e
theorem redZ_eq {s : Int} {m : Nat} (h : Sg s m) (e : Int) : redZ (s * (m : Int)) e = redS s m e := by
  obtain ⟨h1, h2⟩ := h.eq rfl
  unfold redZ
  rw [← h1, ← h2]
noncomputable def fitY (r : Int × List Int × Int) : Int × List Int × Int × Int := if dyB r.1 r.2.1 r.2.2 = true then (r.1, r.2.1, r.2.2, 0) else (0, [], 0, 3)
theorem fitY_yes {s : Int} {xs : List Int} {x : Int} (h : dyB s xs x = true) : fitY (s, xs, x) = (s, xs, x, 0) := by unfold fitY; rw [if_pos h]
theorem fitY_no {s : Int} {xs : List Int} {x : Int} (h : dyB s xs x = false) : fitY (s, xs, x) = (0, [], 0, 3) := by unfold fitY; rw [if_neg (by rw [h]; simp)]
theorem fitY_len (r : Int × List Int × Int) : (fitY r).2.1.length ≤ 200 := by
  unfold fitY
  split
  · rename_i h
    rcases (dyB_iff.1 h).1 with h | h
    · show r.2.1.length ≤ 200
      omega
    · exact h.1
  · simp
/-- The call returned an exact number and a code. -/
def RetYC (r : Int × List Int × Int × Int) (lo : Nat) (w : World) (e : Ending) (w' : World) : Prop := ∃ a c, e = .returned (.tuple #[.agg #[.int .i64 r.1, .slice a r.2.1.length c, .int .i64 r.2.2.1], .int .i64 r.2.2.2]) ∧ r.2.1.length ≤ c ∧ Own w' lo a r.2.1 ∧ Below w.heap.size w w'
/-- The call returned an exact number that may be too large. -/
def RetYR (r : Int × List Int × Int) (w : World) (e : Ending) (w' : World) : Prop := ∃ a c, e = .returned (.agg #[.int .i64 r.1, .slice a r.2.1.length c, .int .i64 r.2.2]) ∧ r.2.1.length ≤ c ∧ Own w' w.heap.size a r.2.1 ∧ Below w.heap.size w w'

theorem RetYC.alloc {r : Int × List Int × Int × Int} {lo : Nat} {w W : World} {e : Ending} (h : RetYC r lo w e W) (o : Obj) : RetYC r lo w e (W.alloc o) := by
  obtain ⟨a, c, he, hc, ho, hb⟩ := h
  exact ⟨a, c, he, hc, ho.alloc o, hb.alloc hb.size o⟩
theorem RetYR.alloc {r : Int × List Int × Int} {w W : World} {e : Ending} (h : RetYR r w e W) (o : Obj) : RetYR r w e (W.alloc o) := by
  obtain ⟨a, c, he, hc, ho, hb⟩ := h
  exact ⟨a, c, he, hc, ho.alloc o, hb.alloc hb.size o⟩
theorem below3 {w W0 W : World} {k g : Nat} (P3 : Below w.heap.size w W0) (P4 : W0.heap.size = w.heap.size + k) (hb : Below W0.heap.size W0 W) (hg : w.heap.size ≤ g) (u v x : Value) : Below w.heap.size w (((W.setCell ⟨g, 0, none⟩ u).setCell ⟨g, 1, none⟩ v).setCell ⟨g, 2, none⟩ x) :=
  Below.set3 (P3.trans (hb.mono (by omega))) hg u v x
theorem retYC_zero {w W0 W : World} {k g : Nat} (code : Int) (P3 : Below w.heap.size w W0) (P4 : W0.heap.size = w.heap.size + k) (hb : Below W0.heap.size W0 W) (hg : w.heap.size ≤ g) (u v x : Value) :
    RetYC (0, [], 0, code) w.heap.size w (.returned (.tuple #[.agg #[.int .i64 0, .slice none 0 0, .int .i64 0], .int .i64 code])) (((W.setCell ⟨g, 0, none⟩ u).setCell ⟨g, 1, none⟩ v).setCell ⟨g, 2, none⟩ x) :=
  ⟨none, 0, rfl, Nat.le_refl _, Own.nil, below3 P3 P4 hb hg u v x⟩
theorem retYC_end {w W0 W : World} {k g : Nat} {r : Int × List Int × Int × Int} {a : Option Addr} {c : Nat} (P3 : Below w.heap.size w W0) (P4 : W0.heap.size = w.heap.size + k) (hb : Below W0.heap.size W0 W) (hg : w.heap.size ≤ g) (hg2 : g < w.heap.size + k) (u v x : Value) (ho : Own W W0.heap.size a r.2.1) (hc : r.2.1.length ≤ c) :
    RetYC r w.heap.size w (.returned (.tuple #[.agg #[.int .i64 r.1, .slice a r.2.1.length c, .int .i64 r.2.2.1], .int .i64 r.2.2.2])) (((W.setCell ⟨g, 0, none⟩ u).setCell ⟨g, 1, none⟩ v).setCell ⟨g, 2, none⟩ x) :=
  ⟨a, c, rfl, hc, (Own.set3 ho (by omega) u v x).mono (by omega), below3 P3 P4 hb hg u v x⟩
theorem retYR_zero {w W0 W : World} {k g : Nat} (P3 : Below w.heap.size w W0) (P4 : W0.heap.size = w.heap.size + k) (hb : Below W0.heap.size W0 W) (hg : w.heap.size ≤ g) (u v x : Value) :
    RetYR (0, [], 0) w (.returned (.agg #[.int .i64 0, .slice none 0 0, .int .i64 0])) (((W.setCell ⟨g, 0, none⟩ u).setCell ⟨g, 1, none⟩ v).setCell ⟨g, 2, none⟩ x) :=
  ⟨none, 0, rfl, Nat.le_refl _, Own.nil, below3 P3 P4 hb hg u v x⟩
theorem retYR_end {w W0 W : World} {k g : Nat} {r : Int × List Int × Int} {a : Option Addr} {c : Nat} (P3 : Below w.heap.size w W0) (P4 : W0.heap.size = w.heap.size + k) (hb : Below W0.heap.size W0 W) (hg : w.heap.size ≤ g) (hg2 : g < w.heap.size + k) (u v x : Value) (ho : Own W W0.heap.size a r.2.1) (hc : r.2.1.length ≤ c) :
    RetYR r w (.returned (.agg #[.int .i64 r.1, .slice a r.2.1.length c, .int .i64 r.2.2])) (((W.setCell ⟨g, 0, none⟩ u).setCell ⟨g, 1, none⟩ v).setCell ⟨g, 2, none⟩ x) :=
  ⟨a, c, rfl, hc, (Own.set3 ho (by omega) u v x).mono (by omega), below3 P3 P4 hb hg u v x⟩
theorem shZ_tw {s : Int} {m : Nat} (h : m ≠ 0) : shZ (s * (m : Int)) (-(tw m : Int)) = s * (od m : Int) := by
  have hm : (m : Int) = (2 : Int) ^ tw m * (od m : Int) := by
    have := (od_mul h).1
    have h2 : (m : Int) = ((2 ^ tw m * od m : Nat) : Int) := by rw [← this]
    rw [h2]; simp
  by_cases h0 : tw m = 0
  · have e : (-(tw m : Int)) = ((0 : Nat) : Int) := by rw [h0]; rfl
    rw [e, shZ_up, hm, h0]
    simp
  · rw [shZ_down _ _ (by omega)]
    have e : s * (m : Int) = s * (od m : Int) * 2 ^ tw m := by
      rw [Int.mul_assoc, Int.mul_comm (od m : Int), ← hm]
    rw [e]
    exact Int.mul_ediv_cancel _ (by have : (0 : Int) < 2 ^ tw m := Int.pow_pos (by omega); omega)
theorem Sg.od {s : Int} {m : Nat} (h : Sg s m) (h0 : m ≠ 0) : Sg s (od m) := by
  have := od_pos h0
  unfold Sg at h ⊢
  omega

set_option maxHeartbeats 1000000 in
theorem iLimitY (s : Int) (xs : List Int) (x : Int) (a : Option Addr) (c : Nat) (w : World) (lo : Nat) (hl : xs.length ≤ 9223372036854775807) (hc : xs.length ≤ c) (ho : Own w lo a xs) :
    Calls Tryz.prog 62 #[.agg #[.int .i64 s, .slice a xs.length c, .int .i64 x]] w (RetYC (fitY (s, xs, x)) lo w) := by
  obtain ⟨W0, hW0⟩ : ∃ W0 : World, (w.alloc (.cells #[.int .i64 s, .slice a xs.length c, .int .i64 x] 62)).alloc (.cells #[.int .i64 0, .slice none 0 0, .int .i64 0] 62) = W0 := ⟨_, rfl⟩
  obtain ⟨p1, p2, p3, p4⟩ := two_box w 62 #[.int .i64 s, .slice a xs.length c, .int .i64 x] #[.int .i64 0, .slice none 0 0, .int .i64 0]
  have ho0 : Own W0 lo a xs ∧ (∀ g, a = some ⟨g, 0, none⟩ → xs ≠ [] → g < w.heap.size) := by
    refine ⟨by rw [← hW0]; exact (ho.alloc _).alloc _, fun g hg hne => ?_⟩
    rcases ho with h | ⟨g', hg', _, hr⟩
    · exact absurd h hne
    · rw [hg] at hg'; simp at hg'; subst hg'; exact hr.lt
  rw [hW0] at p1 p2 p3 p4
  have HW0 := Lib.hid hW0
  have P3 := Lib.hid p3
  have P4 := Lib.hid p4
  have HO := Lib.hid ho0
  have HC := Lib.hid hc
  have SS := Lib.hid (show ∀ W, Below W0.heap.size W0 W → (W.cell? ⟨w.heap.size, 0, none⟩ = some (.int .i64 s) ∧ W.cell? ⟨w.heap.size, 1, none⟩ = some (.slice a xs.length c) ∧ W.cell? ⟨w.heap.size, 2, none⟩ = some (.int .i64 x)) from
    fun W hW => (p1.below hW).tri)
  have SR := Lib.hid (show ∀ W, Below W0.heap.size W0 W → _ from fun W hW => (p2.below hW).tri6)
  have HI := Lib.hid (show ∀ W, Below W0.heap.size W0 W → Calls Tryz.prog 88 #[.agg #[.int .i64 s, .slice a xs.length c, .int .i64 x]] W fun e w' => e = .returned (.bool (dyB s xs x)) ∧ Below W0.heap.size W0 w' from
    fun W hW => (iIsDyadic s a xs c x W W.heap.size (Nat.le_refl _) hl (ho0.1.below hW).ints).mono fun e w' ⟨he, hb⟩ => ⟨he, hW.trans (hb.mono hW.size)⟩)
  have hT : Below W0.heap.size W0 W0 := Below.refl _ _
  have HOE := Lib.hid (show ∀ W u v y, Below W0.heap.size W0 W → Own (((W.setCell ⟨w.heap.size + 1, 0, none⟩ u).setCell ⟨w.heap.size + 1, 1, none⟩ v).setCell ⟨w.heap.size + 1, 2, none⟩ y) lo a xs from fun W u v y hW => by
    rcases ho0.1.below hW with h | ⟨g, hg, hlo, hr⟩
    · exact .inl h
    · by_cases hne : xs = []
      · exact .inl hne
      · have hlt := ho0.2 g hg hne
        exact .inr ⟨g, hg, hlo, ((hr.far (by simp; omega) _).far (by simp; omega) _).far (by simp; omega) _⟩)
  have HBE := Lib.hid (show ∀ W u v y, Below W0.heap.size W0 W → Below w.heap.size w (((W.setCell ⟨w.heap.size + 1, 0, none⟩ u).setCell ⟨w.heap.size + 1, 1, none⟩ v).setCell ⟨w.heap.size + 1, 2, none⟩ y) from fun W u v y hW =>
    (((p3.trans (hW.mono (by omega))).setCell (by simp) _).setCell (by simp) _).setCell (by simp) _)
  cases h : dyB s xs x
  · rw [h] at HI
    rw [fitY_no h]
    clear p1 p2 p3 p4 ho hW0 h hl hc ho0
    go_enter Tryz.func62, Tryz.ntmps62
    go_wp2_with fail
    rw [HW0.out]
    refine (HI.out _ hT).mono ?_
    rintro e w1 ⟨rfl, hb⟩
    obtain ⟨k1, k2, k3⟩ := SS.out _ hb
    obtain ⟨q1, q2, q3, q4, q5, q6⟩ := SR.out _ hb
    go_wp2_with fail
    refine bodyPost_ret (v := .tuple #[.agg #[.int .i64 0, .slice none 0 0, .int .i64 0], .int .i64 3]) (by simp [results, Tryz.results62, go_sem, *]) rfl ?_
    exact ⟨none, 0, rfl, Nat.le_refl _, .inl rfl, HBE.out _ _ _ _ hb⟩
  · rw [h] at HI
    rw [fitY_yes h]
    clear p1 p2 p3 p4 ho hW0 h hl hc ho0
    go_enter Tryz.func62, Tryz.ntmps62
    go_wp2_with fail
    rw [HW0.out]
    refine (HI.out _ hT).mono ?_
    rintro e w1 ⟨rfl, hb⟩
    obtain ⟨k1, k2, k3⟩ := SS.out _ hb
    obtain ⟨q1, q2, q3, q4, q5, q6⟩ := SR.out _ hb
    go_wp2_with fail
    refine bodyPost_ret (v := .tuple #[.agg #[.int .i64 s, .slice a xs.length c, .int .i64 x], .int .i64 0]) (by simp [results, Tryz.results62, go_sem, *]) rfl ?_
    exact ⟨a, c, rfl, HC.out, HOE.out _ _ _ _ hb, HBE.out _ _ _ _ hb⟩
set_option maxRecDepth 100000 in
set_option maxHeartbeats 4000000 in
theorem iReduced (s : Int) (a : Option Addr) (m c1 : Nat) (x : Int) (w : World) (B : Nat) (hB : B ≤ w.heap.size) (hx : Ints w B a (lim m)) (hs : Sg s m) (hl : (lim m).length ≤ 1048000) (h1 : -1000000000 ≤ x) (h2 : x ≤ 1000000000) (hTab : Tab w) :
    Calls Tryz.prog 67 #[.agg #[.int .i64 s, .slice a (lim m).length c1], .int .i64 x] w (RetYR (redS s m x) w) := by
  obtain ⟨W0, hW0⟩ : ∃ W0 : World, (w.alloc (.cells #[.int .i64 s, .slice a (lim m).length c1] 60)).alloc (.cells #[.int .i64 0, .slice none 0 0, .int .i64 0] 62) = W0 := ⟨_, rfl⟩
  obtain ⟨p1, p2, p3, p4⟩ := two_boxT w 60 62 #[.int .i64 s, .slice a (lim m).length c1] #[.int .i64 0, .slice none 0 0, .int .i64 0]
  rw [hW0] at p1 p2 p3 p4
  have HW0 := Lib.hid hW0
  have P3 := Lib.hid p3
  have P4 := Lib.hid p4
  have HTB := Lib.hid (show ∀ W, Below W0.heap.size W0 W → Tab W from fun W hW => (hTab.below p3).below hW)
  clear hTab
  have SS := Lib.hid (show ∀ W, Below W0.heap.size W0 W → (W.cell? ⟨w.heap.size, 0, none⟩ = some (.int .i64 s) ∧ W.cell? ⟨w.heap.size, 1, none⟩ = some (.slice a (lim m).length c1)) from
    fun W hW => ⟨(p1.below hW).cell 0, (p1.below hW).cell 1⟩)
  have SR := Lib.hid (show ∀ W, Below W0.heap.size W0 W → _ from fun W hW => (p2.below hW).tri6)
  have hT : Below W0.heap.size W0 W0 := Below.refl _ _
  have HS := Lib.hid (show ∀ W, Below W0.heap.size W0 W → Calls Tryz.prog 65 #[.agg #[.int .i64 s, .slice a (lim m).length c1]] W fun e w' => e = .returned (.slice a (lim m).length c1) ∧ Below W0.heap.size W0 w' from
    fun W hW => (iSize s a _ c1 W).mono fun e w' ⟨he, hb⟩ => ⟨he, hW.trans (hb.mono hW.size)⟩)
  have HTW := Lib.hid (show ∀ W, Below W0.heap.size W0 W → Calls Tryz.prog 99 #[.slice a (lim m).length c1] W fun e w' => e = .returned (.int .i64 (tw m : Int)) ∧ W = w' from
    fun W hW => iTwos a m c1 W B (hx.below ((p3.mono hB).trans (hW.mono (by omega)))) (by omega) (HTB.out W hW))
  have HTL := Lib.hid (show tw m ≤ 25165824 from by
    by_cases h0 : m = 0
    · subst h0; rw [tw_zero]; omega
    · have := tw_len h0; rw [← lim_length] at this; omega)
  have htl := HTL.out
  obtain ⟨k1, k2⟩ := SS.out _ hT
  by_cases h0 : m = 0
  · obtain ⟨q1, q2, q3, q4, q5, q6⟩ := SR.out _ hT
    subst h0
    have hs0 : s = 0 := by unfold Sg at hs; omega
    subst hs0
    rw [redS_zero]
    clear p1 p2 p3 p4 hx hW0 hB hl htl hs HTW
    go_enter Tryz.func67, Tryz.ntmps67
    go_wp2_with fail
    rw [HW0.out]
    go_wp2_with fail
    refine bodyPost_ret (v := .agg #[.int .i64 0, .slice none 0 0, .int .i64 0]) (by simp [results, Tryz.results67, go_sem, *]) rfl ?_
    first
    | exact ⟨none, 0, rfl, Nat.le_refl _, Own.nil, P3.out⟩
    | exact retYR_zero (g := w.heap.size + 1) P3.out P4.out hT (by omega) _ _ _
  · have hs0 : (s == 0) = false := by
      have : s ≠ 0 := by unfold Sg at hs; omega
      simpa using this
    rw [redS_pos h0]
    have HSH := Lib.hid (show ∀ W, Below W0.heap.size W0 W → Calls Tryz.prog 90 #[.agg #[.int .i64 s, .slice a (lim m).length c1], .int .i64 (-(tw m : Int))] W fun e w' => ∃ a c, e = .returned (.agg #[.int .i64 s, .slice a (lim (od m)).length c]) ∧ (lim (od m)).length ≤ c ∧ Own w' W0.heap.size a (lim (od m)) ∧ Below W0.heap.size W0 w' from
      fun W hW => by
        have h := iShZ s a m c1 (-(tw m : Int)) W B (by have := hW.size; omega) (hx.below ((p3.mono hB).trans (hW.mono (by omega)))) hs hl (by omega) (by omega) (HTB.out W hW)
        rw [shZ_tw h0] at h
        obtain ⟨e1, e2⟩ := (hs.od h0).eq rfl
        unfold RetZ at h
        rw [← e1, ← e2] at h
        exact h.mono fun e w' ⟨a, c, he, hc, ho, hb⟩ => ⟨a, c, he, hc, ho.mono hW.size, hW.trans (hb.mono hW.size)⟩)
    obtain ⟨t, ht⟩ : ∃ t : Nat, t = tw m := ⟨_, rfl⟩
    rw [← ht] at HTW HSH htl ⊢
    have htI : (t : Int) ≤ 25165824 := by omega
    obtain ⟨y, hy⟩ : ∃ y : Int, y = x + (t : Int) := ⟨_, rfl⟩
    have hwr : IntKind.i64.wrap (x + (t : Int)) = y := by rw [hy, IntKind.wrap_i64]; omega
    have hwr2 : wrap64 (x + (t : Int)) = y := by rw [hy]; unfold wrap64; omega
    rw [← hy]
    clear p1 p2 p3 p4 hx hW0 hB hl htl hs h0 ht HTL hy
    go_enter Tryz.func67, Tryz.ntmps67
    go_wp2_with fail
    rw [HW0.out]
    refine (HS.out _ hT).mono ?_
    rintro e w1 ⟨rfl, hb1⟩
    clear k1 k2
    go_wp2_with fail
    refine (HTW.out _ hb1).mono ?_
    rintro e w2 ⟨rfl, rfl⟩
    obtain ⟨k1, k2⟩ := SS.out _ hb1
    go_wp2_with fail
    refine (HSH.out _ hb1).mono ?_
    rintro e w3 ⟨a3, c3, rfl, hc3, ho3, hb3⟩
    obtain ⟨q1, q2, q3, q4, q5, q6⟩ := SR.out _ hb3
    have HC3 := Lib.hid hc3
    have HO3 := Lib.hid ho3
    clear hc3 ho3 k1 k2
    go_wp2_with fail
    refine bodyPost_ret (v := .agg #[.int .i64 s, .slice a3 (lim (od m)).length c3, .int .i64 y]) (by simp [results, Tryz.results67, go_sem, *]) rfl ?_
    exact retYR_end (g := w.heap.size + 1) (r := (s, lim (od m), y)) P3.out P4.out hb3 (by omega) (by omega) _ _ _ HO3.out HC3.out

set_option maxRecDepth 100000 in
set_option maxHeartbeats 4000000 in
theorem sMake3 (s : Int) (a : Option Addr) (m c1 : Nat) (x : Int) (w : World) (B : Nat) (hB : B ≤ w.heap.size) (hx : Ints w B a (lim m)) (hs : Sg s m) (hl : (lim m).length ≤ 1048000) (h1 : -1000000000 ≤ x) (h2 : x ≤ 1000000000) :
    Calls Tryz.prog 86 #[.agg #[.int .i64 s, .slice a (lim m).length c1], .int .i64 x] w (RetYR (redS s m x) w) := by
  obtain ⟨W0, hW0⟩ : ∃ W0 : World, (w.alloc (.cells #[.int .i64 s, .slice a (lim m).length c1] 60)).alloc (.cells #[.int .i64 0, .slice none 0 0, .int .i64 0] 62) = W0 := ⟨_, rfl⟩
  obtain ⟨p1, p2, p3, p4⟩ := two_boxT w 60 62 #[.int .i64 s, .slice a (lim m).length c1] #[.int .i64 0, .slice none 0 0, .int .i64 0]
  rw [hW0] at p1 p2 p3 p4
  have HW0 := Lib.hid hW0
  have P3 := Lib.hid p3
  have P4 := Lib.hid p4
  have SS := Lib.hid (show ∀ W, Below W0.heap.size W0 W → (W.cell? ⟨w.heap.size, 0, none⟩ = some (.int .i64 s) ∧ W.cell? ⟨w.heap.size, 1, none⟩ = some (.slice a (lim m).length c1)) from
    fun W hW => ⟨(p1.below hW).cell 0, (p1.below hW).cell 1⟩)
  have SR := Lib.hid (show ∀ W, Below W0.heap.size W0 W → _ from fun W hW => (p2.below hW).tri6)
  have hT : Below W0.heap.size W0 W0 := Below.refl _ _
  have HTW := Lib.hid (show m ≠ 0 → ∀ W, Below W0.heap.size W0 W → Calls Tryz.prog 108 #[.agg #[.int .i64 s, .slice a (lim m).length c1]] W fun e w' => e = .returned (.int .i64 (tw m : Int)) ∧ Below W0.heap.size W0 w' from
    fun h0 W hW => (sTwos s a m c1 W B (by have := hW.size; omega) (hx.below ((p3.mono hB).trans (hW.mono (by omega)))) (by omega) h0).mono fun e w' ⟨he, hb⟩ => ⟨he, hW.trans (hb.mono hW.size)⟩)
  have HTL := Lib.hid (show tw m ≤ 25165824 from by
    by_cases h0 : m = 0
    · subst h0; rw [tw_zero]; omega
    · have := tw_len h0; rw [← lim_length] at this; omega)
  have htl := HTL.out
  obtain ⟨k1, k2⟩ := SS.out _ hT
  by_cases h0 : m = 0
  · obtain ⟨q1, q2, q3, q4, q5, q6⟩ := SR.out _ hT
    subst h0
    have hs0 : s = 0 := by unfold Sg at hs; omega
    subst hs0
    rw [redS_zero]
    clear p1 p2 p3 p4 hx hW0 hB hl htl hs HTW
    go_enter Tryz.func86, Tryz.ntmps86
    go_wp2_with fail
    rw [HW0.out]
    go_wp2_with fail
    refine bodyPost_ret (v := .agg #[.int .i64 0, .slice none 0 0, .int .i64 0]) (by simp [results, Tryz.results86, go_sem, *]) rfl ?_
    first
    | exact ⟨none, 0, rfl, Nat.le_refl _, Own.nil, P3.out⟩
    | exact retYR_zero (g := w.heap.size + 1) P3.out P4.out hT (by omega) _ _ _
  · have hs0 : (s == 0) = false := by
      have : s ≠ 0 := by unfold Sg at hs; omega
      simpa using this
    rw [redS_pos h0]
    have HTW := Lib.hid (HTW.out h0)
    have HSH := Lib.hid (show ∀ W, Below W0.heap.size W0 W → Calls Tryz.prog 109 #[.agg #[.int .i64 s, .slice a (lim m).length c1], .int .i64 (tw m : Int)] W fun e w' => ∃ a c, e = .returned (.agg #[.int .i64 s, .slice a (lim (od m)).length c]) ∧ (lim (od m)).length ≤ c ∧ Own w' W0.heap.size a (lim (od m)) ∧ Below W0.heap.size W0 w' from
      fun W hW => by
        have h := sCut s a m c1 (tw m) W B (by have := hW.size; omega) (hx.below ((p3.mono hB).trans (hW.mono (by omega)))) (by omega) (by omega)
        change Calls _ _ _ _ (RetN (sgnOf s (od m)) (od m) W) at h
        rw [sgnOf_pos (show od m ≠ 0 by have := od_pos h0; omega)] at h
        exact h.mono fun e w' ⟨a, c, he, hc, ho, hb⟩ => ⟨a, c, he, hc, ho.mono hW.size, hW.trans (hb.mono hW.size)⟩)
    obtain ⟨t, ht⟩ : ∃ t : Nat, t = tw m := ⟨_, rfl⟩
    rw [← ht] at HTW HSH htl ⊢
    have htI : (t : Int) ≤ 25165824 := by omega
    obtain ⟨y, hy⟩ : ∃ y : Int, y = x + (t : Int) := ⟨_, rfl⟩
    have hwr : IntKind.i64.wrap (x + (t : Int)) = y := by rw [hy, IntKind.wrap_i64]; omega
    have hwr2 : wrap64 (x + (t : Int)) = y := by rw [hy]; unfold wrap64; omega
    rw [← hy]
    clear p1 p2 p3 p4 hx hW0 hB hl htl hs h0 ht HTL hy
    go_enter Tryz.func86, Tryz.ntmps86
    go_wp2_with fail
    rw [HW0.out]
    refine (HTW.out _ hT).mono ?_
    rintro e w1 ⟨rfl, hb1⟩
    clear k1 k2
    obtain ⟨k1, k2⟩ := SS.out _ hb1
    go_wp2_with fail
    refine (HSH.out _ hb1).mono ?_
    rintro e w3 ⟨a3, c3, rfl, hc3, ho3, hb3⟩
    obtain ⟨q1, q2, q3, q4, q5, q6⟩ := SR.out _ hb3
    have HC3 := Lib.hid hc3
    have HO3 := Lib.hid ho3
    clear hc3 ho3 k1 k2
    go_wp2_with fail
    refine bodyPost_ret (v := .agg #[.int .i64 s, .slice a3 (lim (od m)).length c3, .int .i64 y]) (by simp [results, Tryz.results86, go_sem, *]) rfl ?_
    exact retYR_end (g := w.heap.size + 1) (r := (s, lim (od m), y)) P3.out P4.out hb3 (by omega) (by omega) _ _ _ HO3.out HC3.out

noncomputable def mkY (s : Int) (xs : List Int) (k : Int) : Int × List Int × Int × Int := @ite _ (IsWh s xs) (Classical.propDecidable _) (if -10000 ≤ k ∧ k ≤ 10000 then fitY (redS s (val (xs.map Int.toNat)) k) else (0, [], 0, 2)) (0, [], 0, 1)
theorem mkY_yes {s k : Int} {m : Nat} (h : IsWh s (lim m)) (h1 : -10000 ≤ k ∧ k ≤ 10000) : mkY s (lim m) k = fitY (redS s m k) := by unfold mkY; rw [if_pos h, if_pos h1, val_lim]
theorem mkY_rng {s : Int} {xs : List Int} {k : Int} (h : IsWh s xs) (h1 : ¬ (-10000 ≤ k ∧ k ≤ 10000)) : mkY s xs k = (0, [], 0, 2) := by unfold mkY; rw [if_pos h, if_neg h1]
theorem mkY_no {s : Int} {xs : List Int} {k : Int} (h : ¬ IsWh s xs) : mkY s xs k = (0, [], 0, 1) := by unfold mkY; rw [if_neg h]
theorem mkY_len (s : Int) (xs : List Int) (k : Int) : (mkY s xs k).2.1.length ≤ 200 := by
  unfold mkY
  split
  · split
    · exact fitY_len _
    · simp
  · simp
theorem redS_len (s : Int) (m : Nat) (k : Int) : (redS s m k).2.1.length ≤ (lim m).length := by
  unfold redS
  split
  · simp
  · exact lim_le_of_le (od_le m)

theorem shZ_lim {s k : Int} {m : Nat} (hm : (lim m).length ≤ 200) (hs : s = 0 ∨ s = 1 ∨ s = -1) (h1 : -20000 ≤ k) (h2 : k ≤ 20000) : (lim (shZ (s * (m : Int)) k).natAbs).length ≤ 1100 := by
  have h3 : (s * (m : Int)).natAbs ≤ m := by
    rcases hs with rfl | rfl | rfl <;> simp
  obtain ⟨z, hz⟩ : ∃ z, z = s * (m : Int) := ⟨_, rfl⟩
  rw [← hz] at h3 ⊢
  have hzl := lim_le_of_le h3
  by_cases h : 0 ≤ k
  · obtain ⟨K, rfl⟩ := Int.eq_ofNat_of_zero_le h
    rw [shZ_up, Int.natAbs_mul]
    have e : ((2 : Int) ^ K).natAbs = 2 ^ K := by rw [show (2 : Int) ^ K = ((2 ^ K : Nat) : Int) by simp]; exact Int.natAbs_natCast _
    rw [e]
    have h4 := lim_mul_len z.natAbs (2 ^ K)
    have h5 : (lim (2 ^ K)).length ≤ K / 24 + 1 := by
      rw [lim_length]
      refine dig_length_le ?_
      rw [two24]
      exact Nat.pow_lt_pow_right (by omega) (by omega)
    omega
  · obtain ⟨K, hK⟩ := Int.eq_ofNat_of_zero_le (show 0 ≤ -k by omega)
    obtain rfl : k = -(K : Int) := by omega
    rw [shZ_down _ _ (by omega)]
    have e : (2 : Int) ^ K = ((2 ^ K : Nat) : Int) := by simp
    rw [e]
    have h4 := lim_le_of_le (Int.natAbs_ediv_le_natAbs z ((2 ^ K : Nat) : Int))
    omega
theorem Sg.three {s : Int} {m : Nat} (h : Sg s m) : s = 0 ∨ s = 1 ∨ s = -1 := by unfold Sg at h; omega
theorem tw_pow {m : Nat} (h : m ≠ 0) (K : Nat) : tw (m * 2 ^ K) = tw m + K := by
  obtain ⟨q, hq⟩ := tw_spec h
  refine tw_eq (m := q) ?_
  rw [Nat.pow_add, Nat.mul_right_comm, ← hq]
theorem od_pow {m : Nat} (h : m ≠ 0) (K : Nat) : od (m * 2 ^ K) = od m := by
  unfold od
  rw [tw_pow h, Nat.pow_add, Nat.mul_comm m, Nat.mul_comm (2 ^ tw m), Nat.mul_div_mul_left _ _ (Nat.pow_pos (by omega))]
theorem redZ_pow (z e : Int) (K : Nat) : redZ (z * 2 ^ K) e = redZ z (e + (K : Int)) := by
  have hP : (2 : Int) ^ K = ((2 ^ K : Nat) : Int) := by simp
  have hpos : 0 < 2 ^ K := Nat.pow_pos (by omega)
  by_cases h0 : z = 0
  · subst h0; simp [redZ, redS]
  · have hn : z.natAbs ≠ 0 := by omega
    have e1 : (z * 2 ^ K).sign = z.sign := by
      rw [Int.sign_mul, hP, Int.sign_eq_one_of_pos (show (0 : Int) < ((2 ^ K : Nat) : Int) by omega), Int.mul_one]
    have e2 : (z * 2 ^ K).natAbs = z.natAbs * 2 ^ K := by rw [Int.natAbs_mul, hP, Int.natAbs_natCast]
    unfold redZ
    rw [e1, e2, redS_pos (Nat.mul_ne_zero hn (by omega)), redS_pos hn, od_pow hn, tw_pow hn]
    congr 2
    omega
/-- The form of a reduced number, and of its opposite. -/
theorem redZ_form (z e : Int) : ∃ s m x, redZ z e = (s, lim m, x) ∧ Sg s m ∧ m ≤ z.natAbs ∧ redZ (-z) e = ((-(s * (m : Int))).sign, lim (-(s * (m : Int))).natAbs, x) := by
  by_cases h0 : z = 0
  · subst h0
    refine ⟨0, 0, 0, by simp [redZ, redS, lim_zero], .inl ⟨rfl, rfl⟩, Nat.le_refl _, ?_⟩
    simp [redZ, redS, lim_zero]
  · have hn : z.natAbs ≠ 0 := by omega
    have hn' : (-z).natAbs ≠ 0 := by omega
    have hsg := (Sg.of z).od hn
    refine ⟨z.sign, od z.natAbs, e + (tw z.natAbs : Int), redS_pos hn, hsg, od_le _, ?_⟩
    have h2 : redZ (-z) e = ((-z).sign, lim (od (-z).natAbs), e + (tw (-z).natAbs : Int)) := redS_pos hn'
    rw [h2, Int.natAbs_neg]
    have e3 := (Sg.eq (s := -z.sign) (n := od z.natAbs) (z := -(z.sign * (od z.natAbs : Int))) (by unfold Sg at hsg ⊢; omega) (by rw [Int.neg_mul]))
    rw [← e3.1, ← e3.2, Int.sign_neg]

noncomputable def rngY (L : Int) (f : Int → Nat → Int → Int → Int × List Int × Int) (s : Int) (xs : List Int) (x k : Int) : Int × List Int × Int × Int :=
  @ite _ (IsDy s xs x) (Classical.propDecidable _) (if -L ≤ k ∧ k ≤ L then fitY (f s (val (xs.map Int.toNat)) x k) else (0, [], 0, 2)) (0, [], 0, 1)
theorem rngY_yes {L : Int} {f : Int → Nat → Int → Int → Int × List Int × Int} {s x k : Int} {m : Nat} (h : IsDy s (lim m) x) (h1 : -L ≤ k ∧ k ≤ L) : rngY L f s (lim m) x k = fitY (f s m x k) := by unfold rngY; rw [if_pos h, if_pos h1, val_lim]
theorem rngY_rng {L : Int} {f : Int → Nat → Int → Int → Int × List Int × Int} {s x k : Int} {xs : List Int} (h : IsDy s xs x) (h1 : ¬ (-L ≤ k ∧ k ≤ L)) : rngY L f s xs x k = (0, [], 0, 2) := by unfold rngY; rw [if_pos h, if_neg h1]
theorem rngY_no {L : Int} {f : Int → Nat → Int → Int → Int × List Int × Int} {s x k : Int} {xs : List Int} (h : ¬ IsDy s xs x) : rngY L f s xs x k = (0, [], 0, 1) := by unfold rngY; rw [if_neg h]
theorem rngY_len (L : Int) (f : Int → Nat → Int → Int → Int × List Int × Int) (s : Int) (xs : List Int) (x k : Int) : (rngY L f s xs x k).2.1.length ≤ 200 := by
  unfold rngY
  split
  · split
    · exact fitY_len _
    · simp
  · simp
def scF (s : Int) (m : Nat) (x k : Int) : Int × List Int × Int := redS s m (x + k)
def flF (s : Int) (m : Nat) (x k : Int) : Int × List Int × Int := redZ (shZ (s * (m : Int)) (x + k)) (-k)
def ceF (s : Int) (m : Nat) (x k : Int) : Int × List Int × Int := redZ (-(shZ (-(s * (m : Int))) (x + k))) (-k)

theorem isDy_of {s x : Int} {xs : List Int} (h : IsDy s xs x) : ∃ m, xs = lim m ∧ (lim m).length ≤ 200 ∧ Sg s m ∧ -5000 ≤ x ∧ x ≤ 5000 := by
  obtain ⟨m, e, h1, h2⟩ := isWh_of h.1
  exact ⟨m, e, h1, h2, h.2.1, h.2.2.1⟩
/-- The code of an exact number and an integer. -/
noncomputable def rangeC (s : Int) (xs : List Int) (x k lo hi : Int) : Int := if dyB s xs x = true then (if lo ≤ k ∧ k ≤ hi then 0 else 2) else 1
set_option maxRecDepth 100000 in
set_option maxHeartbeats 2000000 in
theorem iFloorW (s : Int) (a : Option Addr) (m c1 : Nat) (x : Int) (k : Int) (w : World) (B : Nat) (hB : B ≤ w.heap.size) (hx : Ints w B a (lim m)) (hs : Sg s m) (hl : (lim m).length ≤ 200) (h1 : -20000 ≤ x + k) (h2 : x + k ≤ 20000) (hx1 : -1000000 ≤ x) (hx2 : x ≤ 1000000) (hTab : Tab w) :
    Calls Tryz.prog 126 #[.agg #[.int .i64 s, .slice a (lim m).length c1, .int .i64 x], .int .i64 k] w (RetZ (shZ (s * (m : Int)) (x + k)) w) := by
  obtain ⟨W0, hW0⟩ : ∃ W0 : World, (w.alloc (.cells #[.int .i64 s, .slice a (lim m).length c1, .int .i64 x] 62)).alloc (.cells #[.int .i64 0, .slice none 0 0] 60) = W0 := ⟨_, rfl⟩
  obtain ⟨p1, p2, p3, p4⟩ := two_boxT w 62 60 #[.int .i64 s, .slice a (lim m).length c1, .int .i64 x] #[.int .i64 0, .slice none 0 0]
  rw [hW0] at p1 p2 p3 p4
  have HW0 := Lib.hid hW0
  have P3 := Lib.hid p3
  have P4 := Lib.hid p4
  have SS := Lib.hid (show ∀ W, Below W0.heap.size W0 W → (W.cell? ⟨w.heap.size, 0, none⟩ = some (.int .i64 s) ∧ W.cell? ⟨w.heap.size, 1, none⟩ = some (.slice a (lim m).length c1) ∧ W.cell? ⟨w.heap.size, 2, none⟩ = some (.int .i64 x)) from
    fun W hW => (p1.below hW).tri)
  have SR := Lib.hid (show ∀ W, Below W0.heap.size W0 W → _ from fun W hW => (p2.below hW).two)
  have hT : Below W0.heap.size W0 W0 := Below.refl _ _
  have hT' : Below W0.heap.size W0 W0.drew := hT.drew
  have IX := Lib.hid (show ∀ W, Below W0.heap.size W0 W → Ints W B a (lim m) ∧ B ≤ W.heap.size from fun W hW => ⟨hx.below ((p3.mono hB).trans (hW.mono (by omega))), by have := hW.size; omega⟩)
  have HTB := Lib.hid (show ∀ W, Below W0.heap.size W0 W → Tab W from fun W hW => (hTab.below p3).below hW)
  clear hTab
  obtain ⟨y, hy⟩ : ∃ y : Int, y = x + k := ⟨_, rfl⟩
  rw [← hy] at h1 h2 ⊢
  have hwr : IntKind.i64.wrap (x + k) = y := by rw [← hy, IntKind.wrap_i64]; omega
  have hwr2 : wrap64 (x + k) = y := by rw [← hy]; unfold wrap64; omega
  obtain ⟨z, hz⟩ : ∃ z : Int, z = shZ (s * (m : Int)) y := ⟨_, rfl⟩
  have HSH := Lib.hid (show ∀ W, Below W0.heap.size W0 W → Calls Tryz.prog 90 #[.agg #[.int .i64 s, .slice a (lim m).length c1], .int .i64 y] W fun e w' => ∃ a c, e = .returned (.agg #[.int .i64 z.sign, .slice a (lim z.natAbs).length c]) ∧ (lim z.natAbs).length ≤ c ∧ Own w' W0.heap.size a (lim z.natAbs) ∧ Below W0.heap.size W0 w' from
    fun W hW => by
      have := iShZ s a m c1 y W B (IX.out W hW).2 (IX.out W hW).1 hs (by omega) (by omega) (by omega) (HTB.out W hW)
      rw [← hz] at this
      exact this.mono fun e w' ⟨a, c, he, hc, ho, hb⟩ => ⟨a, c, he, hc, ho.mono hW.size, hW.trans (hb.mono hW.size)⟩)
  rw [← hz]
  obtain ⟨k1, k2, k3⟩ := SS.out _ hT
  clear p1 p2 p3 p4 hx hW0 hB hl hs hz hy hx1 hx2 h1 h2 hT'
  go_enter Tryz.func126, Tryz.ntmps126
  go_wp2_with fail
  rw [HW0.out]
  refine (HSH.out _ hT).mono ?_
  rintro e w1 ⟨a1, d1, rfl, hc, ho, hb⟩
  have HC := Lib.hid hc
  have HO := Lib.hid ho
  clear hc ho k1 k2 k3
  obtain ⟨q1, q2, q3, q4⟩ := SR.out _ hb
  go_wp2_with fail
  refine bodyPost_ret (v := .agg #[.int .i64 z.sign, .slice a1 (lim z.natAbs).length d1]) (by simp [results, Tryz.results126, go_sem, *]) rfl ?_
  exact retZ_end2 P3.out P4.out hb _ _ HO.out HC.out ⟨rfl, rfl⟩

set_option maxRecDepth 100000 in
set_option maxHeartbeats 2000000 in
theorem iNegD (s : Int) (a : Option Addr) (m c1 : Nat) (x : Int) (w : World) (B : Nat) (hB : B ≤ w.heap.size) (hx : Ints w B a (lim m)) (hs : Sg s m) (hl : (lim m).length ≤ 1048000) :
    Calls Tryz.prog 102 #[.agg #[.int .i64 s, .slice a (lim m).length c1, .int .i64 x]] w (RetYR ((-(s * (m : Int))).sign, lim (-(s * (m : Int))).natAbs, x) w) := by
  obtain ⟨W0, hW0⟩ : ∃ W0 : World, (w.alloc (.cells #[.int .i64 s, .slice a (lim m).length c1, .int .i64 x] 62)).alloc (.cells #[.int .i64 0, .slice none 0 0, .int .i64 0] 62) = W0 := ⟨_, rfl⟩
  obtain ⟨p1, p2, p3, p4⟩ := two_boxT w 62 62 #[.int .i64 s, .slice a (lim m).length c1, .int .i64 x] #[.int .i64 0, .slice none 0 0, .int .i64 0]
  rw [hW0] at p1 p2 p3 p4
  have HW0 := Lib.hid hW0
  have P3 := Lib.hid p3
  have P4 := Lib.hid p4
  have SS := Lib.hid (show ∀ W, Below W0.heap.size W0 W → (W.cell? ⟨w.heap.size, 0, none⟩ = some (.int .i64 s) ∧ W.cell? ⟨w.heap.size, 1, none⟩ = some (.slice a (lim m).length c1) ∧ W.cell? ⟨w.heap.size, 2, none⟩ = some (.int .i64 x)) from
    fun W hW => (p1.below hW).tri)
  have SR := Lib.hid (show ∀ W, Below W0.heap.size W0 W → _ from fun W hW => (p2.below hW).tri6)
  have hT : Below W0.heap.size W0 W0 := Below.refl _ _
  have hT' : Below W0.heap.size W0 W0.drew := hT.drew
  have IX := Lib.hid (show ∀ W, Below W0.heap.size W0 W → Ints W B a (lim m) ∧ B ≤ W.heap.size from fun W hW => ⟨hx.below ((p3.mono hB).trans (hW.mono (by omega))), by have := hW.size; omega⟩)
  have ST := Lib.hid (show ∀ W u v y, Below W0.heap.size W0 W → (fun W : World => W.cell? ⟨w.heap.size, 0, none⟩ = some (.int .i64 s) ∧ W.cell? ⟨w.heap.size, 1, none⟩ = some (.slice a (lim m).length c1) ∧ W.cell? ⟨w.heap.size, 2, none⟩ = some (.int .i64 x)) (((W.setCell ⟨w.heap.size + 1, 0, none⟩ u).setCell ⟨w.heap.size + 1, 1, none⟩ v).setCell ⟨w.heap.size + 1, 2, none⟩ y) from fun W u v y hW =>
    ((((p1.below hW).far (by simp <;> omega) _).far (by simp <;> omega) _).far (by simp <;> omega) _).tri)
  obtain ⟨z, hz⟩ : ∃ z : Int, z = -(s * (m : Int)) := ⟨_, rfl⟩
  have HNG := Lib.hid (show ∀ W, Below W0.heap.size W0 W → Calls Tryz.prog 127 #[.agg #[.int .i64 s, .slice a (lim m).length c1]] W fun e w' => ∃ a c, e = .returned (.agg #[.int .i64 z.sign, .slice a (lim z.natAbs).length c]) ∧ (lim z.natAbs).length ≤ c ∧ Own w' W0.heap.size a (lim z.natAbs) ∧ Below W0.heap.size W0 w' from
    fun W hW => by
      have := iNegated s a m c1 W B (IX.out W hW).2 (IX.out W hW).1 hs (by omega)
      rw [← hz] at this
      exact this.mono fun e w' ⟨a, c, he, hc, ho, hb⟩ => ⟨a, c, he, hc, ho.mono hW.size, hW.trans (hb.mono hW.size)⟩)
  rw [← hz]
  clear p1 p2 p3 p4 hx hW0 hB hl hs hz
  go_enter Tryz.func102, Tryz.ntmps102
  go_wp2_with fail
  rw [HW0.out]
  go_region_held3 (fun W => W.cell? ⟨w.heap.size, 0, none⟩ = some (.int .i64 s) ∧ W.cell? ⟨w.heap.size, 1, none⟩ = some (.slice a (lim m).length c1) ∧ W.cell? ⟨w.heap.size, 2, none⟩ = some (.int .i64 x))
    (first | exact SS.out _ (by assumption) | exact ST.out _ _ _ _ (by assumption))
    (first
    | (go_at_call 127; refine (HNG.out _ (by assumption)).mono ?_; rintro e w' ⟨a', c', rfl, hc', ho', hb⟩; obtain ⟨q1, q2, q3, q4, q5, q6⟩ := SR.out _ hb))
  all_goals
    go_wp2_with fail
    refine bodyPost_ret (v := .agg #[.int .i64 z.sign, .slice a' (lim z.natAbs).length c', .int .i64 x]) (by simp [results, Tryz.results102, go_sem, *]) rfl ?_
    exact retYR_end (g := w.heap.size + 1) (r := (z.sign, lim z.natAbs, x)) P3.out P4.out (by assumption) (by omega) (by omega) _ _ _ (by assumption) (by assumption)

set_option maxRecDepth 100000 in
set_option maxHeartbeats 2000000 in
theorem iCeilW (s : Int) (a : Option Addr) (m c1 : Nat) (x : Int) (k : Int) (w : World) (B : Nat) (hB : B ≤ w.heap.size) (hx : Ints w B a (lim m)) (hs : Sg s m) (hl : (lim m).length ≤ 200) (h1 : -20000 ≤ x + k) (h2 : x + k ≤ 20000) (hx1 : -1000000 ≤ x) (hx2 : x ≤ 1000000) (hTab : Tab w) :
    Calls Tryz.prog 100 #[.agg #[.int .i64 s, .slice a (lim m).length c1, .int .i64 x], .int .i64 k] w (RetZ (-(shZ (-(s * (m : Int))) (x + k))) w) := by
  obtain ⟨W0, hW0⟩ : ∃ W0 : World, (w.alloc (.cells #[.int .i64 s, .slice a (lim m).length c1, .int .i64 x] 62)).alloc (.cells #[.int .i64 0, .slice none 0 0] 60) = W0 := ⟨_, rfl⟩
  obtain ⟨p1, p2, p3, p4⟩ := two_boxT w 62 60 #[.int .i64 s, .slice a (lim m).length c1, .int .i64 x] #[.int .i64 0, .slice none 0 0]
  rw [hW0] at p1 p2 p3 p4
  have HW0 := Lib.hid hW0
  have P3 := Lib.hid p3
  have P4 := Lib.hid p4
  have SS := Lib.hid (show ∀ W, Below W0.heap.size W0 W → (W.cell? ⟨w.heap.size, 0, none⟩ = some (.int .i64 s) ∧ W.cell? ⟨w.heap.size, 1, none⟩ = some (.slice a (lim m).length c1) ∧ W.cell? ⟨w.heap.size, 2, none⟩ = some (.int .i64 x)) from
    fun W hW => (p1.below hW).tri)
  have SR := Lib.hid (show ∀ W, Below W0.heap.size W0 W → _ from fun W hW => (p2.below hW).two)
  have hT : Below W0.heap.size W0 W0 := Below.refl _ _
  have hT' : Below W0.heap.size W0 W0.drew := hT.drew
  have IX := Lib.hid (show ∀ W, Below W0.heap.size W0 W → Ints W B a (lim m) ∧ B ≤ W.heap.size from fun W hW => ⟨hx.below ((p3.mono hB).trans (hW.mono (by omega))), by have := hW.size; omega⟩)
  have HTB := Lib.hid (show ∀ W, Below W0.heap.size W0 W → Tab W from fun W hW => (hTab.below p3).below hW)
  clear hTab
  obtain ⟨v, hv⟩ : ∃ v : Int, v = -(s * (m : Int)) := ⟨_, rfl⟩
  have hvl : (lim v.natAbs).length ≤ 200 := by rw [hv, Int.natAbs_neg, hs.abs]; exact hl
  have HNG := Lib.hid (show ∀ W, Below W0.heap.size W0 W → Calls Tryz.prog 102 #[.agg #[.int .i64 s, .slice a (lim m).length c1, .int .i64 x]] W fun e w' => ∃ a c, e = .returned (.agg #[.int .i64 v.sign, .slice a (lim v.natAbs).length c, .int .i64 x]) ∧ Own w' W0.heap.size a (lim v.natAbs) ∧ Below W0.heap.size W0 w' from
    fun W hW => by
      have := iNegD s a m c1 x W B (IX.out W hW).2 (IX.out W hW).1 hs (by omega)
      rw [← hv] at this
      exact this.mono fun e w' ⟨a, c, he, hc, ho, hb⟩ => ⟨a, c, he, ho.mono hW.size, hW.trans (hb.mono hW.size)⟩)
  rw [← hv]
  obtain ⟨z, hz⟩ : ∃ z : Int, z = shZ v (x + k) := ⟨_, rfl⟩
  have hzl : (lim z.natAbs).length ≤ 1100 := by
    have h3 := shZ_lim (s := v.sign) (m := v.natAbs) (k := x + k) hvl (Sg.of v).three h1 h2
    rw [Sg.mul, ← hz] at h3
    exact h3
  have HFL := Lib.hid (show ∀ (a : Option Addr) (c : Nat) W, Below W0.heap.size W0 W → Own W W0.heap.size a (lim v.natAbs) → Calls Tryz.prog 126 #[.agg #[.int .i64 v.sign, .slice a (lim v.natAbs).length c, .int .i64 x], .int .i64 k] W fun e w' => ∃ a c, e = .returned (.agg #[.int .i64 z.sign, .slice a (lim z.natAbs).length c]) ∧ (lim z.natAbs).length ≤ c ∧ Own w' W0.heap.size a (lim z.natAbs) ∧ Below W0.heap.size W0 w' from
    fun a c W hW ho => by
      have := iFloorW v.sign a v.natAbs c x k W W.heap.size (Nat.le_refl _) ho.ints (Sg.of v) hvl h1 h2 hx1 hx2 (HTB.out W hW)
      rw [Sg.mul, ← hz] at this
      exact this.mono fun e w' ⟨a, c, he, hc, ho, hb⟩ => ⟨a, c, he, hc, ho.mono hW.size, hW.trans (hb.mono hW.size)⟩)
  rw [← hz]
  obtain ⟨y, hy⟩ : ∃ y : Int, y = -z := ⟨_, rfl⟩
  have HNW := Lib.hid (show ∀ (a : Option Addr) (c : Nat) W, Below W0.heap.size W0 W → Own W W0.heap.size a (lim z.natAbs) → Calls Tryz.prog 127 #[.agg #[.int .i64 z.sign, .slice a (lim z.natAbs).length c]] W fun e w' => ∃ a c, e = .returned (.agg #[.int .i64 y.sign, .slice a (lim y.natAbs).length c]) ∧ (lim y.natAbs).length ≤ c ∧ Own w' W0.heap.size a (lim y.natAbs) ∧ Below W0.heap.size W0 w' from
    fun a c W hW ho => by
      have := iNegated z.sign a z.natAbs c W W.heap.size (Nat.le_refl _) ho.ints (Sg.of z) (by omega)
      rw [Sg.mul, ← hy] at this
      exact this.mono fun e w' ⟨a, c, he, hc, ho, hb⟩ => ⟨a, c, he, hc, ho.mono hW.size, hW.trans (hb.mono hW.size)⟩)
  rw [← hy]
  obtain ⟨vs, hvs⟩ : ∃ r, r = v.sign := ⟨_, rfl⟩
  obtain ⟨vn, hvn⟩ : ∃ r, r = v.natAbs := ⟨_, rfl⟩
  obtain ⟨zs, hzs⟩ : ∃ r, r = z.sign := ⟨_, rfl⟩
  obtain ⟨zn, hzn⟩ : ∃ r, r = z.natAbs := ⟨_, rfl⟩
  rw [← hvs, ← hvn] at HNG HFL
  rw [← hzs, ← hzn] at HFL HNW
  obtain ⟨k1, k2, k3⟩ := SS.out _ hT
  clear p1 p2 p3 p4 hx hW0 hB hl hs hv hvl hz hzl hx1 hx2 h1 h2 hT' hvs hvn hzs hzn hy
  go_enter Tryz.func100, Tryz.ntmps100
  go_wp2_with fail
  rw [HW0.out]
  refine (HNG.out _ hT).mono ?_
  rintro e w1 ⟨a1, d1, rfl, ho1, hb1⟩
  clear k1 k2 k3
  have HO1 := Lib.hid ho1
  clear ho1
  go_wp2_with fail
  refine (HFL.out _ _ _ hb1 HO1.out).mono ?_
  rintro e w2 ⟨a2, d2, rfl, hc2, ho2, hb2⟩
  have HO2 := Lib.hid ho2
  clear ho2 hc2
  go_wp2_with fail
  refine (HNW.out _ _ _ hb2 HO2.out).mono ?_
  rintro e w3 ⟨a3, d3, rfl, hc, ho, hb⟩
  have HC := Lib.hid hc
  have HO := Lib.hid ho
  clear hc ho
  obtain ⟨q1, q2, q3, q4⟩ := SR.out _ hb
  go_wp2_with fail
  refine bodyPost_ret (v := .agg #[.int .i64 y.sign, .slice a3 (lim y.natAbs).length d3]) (by simp [results, Tryz.results100, go_sem, *]) rfl ?_
  exact retZ_end2 P3.out P4.out hb _ _ HO.out HC.out ⟨rfl, rfl⟩

end Go.Proofs.YtgppagmejhgmaaaGreatDoor
