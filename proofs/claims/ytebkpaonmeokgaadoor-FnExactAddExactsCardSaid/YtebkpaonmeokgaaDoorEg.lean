/-
  Contracts: sums of exact complex numbers by the model: l03Plus, AddExacts. Conditions: the limbs can be read.
-/
import Derived.Test.YtebkpaonmeokgaaDoorEf
namespace Go.Proofs.YtebkpaonmeokgaaDoor
set_option linter.unusedVariables false
open Go Go.RowKit


/-- The call returned an exact complex number in memory of its own. -/
def RetEE (p1 : Int) (p2 : List Int) (p3 q1 : Int) (q2 : List Int) (q3 : Int) (w : World) (e : Ending) (w' : World) : Prop := ∃ a c b d, e = .returned (.agg #[.int .i64 p1, .slice a p2.length c, .int .i64 p3, .int .i64 q1, .slice b q2.length d, .int .i64 q3]) ∧ p2.length ≤ c ∧ q2.length ≤ d ∧ Own w' w.heap.size a p2 ∧ Own w' w.heap.size b q2 ∧ Apart a b p2 q2 ∧ Below w.heap.size w w'
set_option maxRecDepth 100000 in
set_option maxHeartbeats 8000000 in
theorem sPlus3 (s : Int) (a : Option Addr) (m c : Nat) (x : Int) (s' : Int) (a' : Option Addr) (m' c' : Nat) (x' : Int) (t : Int) (b : Option Addr) (n d : Nat) (y : Int) (t' : Int) (b' : Option Addr) (n' d' : Nat) (y' : Int) (p1' : Int) (pn : Nat) (p3' q1' : Int) (qn : Nat) (q3' : Int) (w : World) (B : Nat) (hB : B ≤ w.heap.size) (hx : Ints w B a (lim m)) (hx' : Ints w B a' (lim m')) (hy : Ints w B b (lim n)) (hy' : Ints w B b' (lim n')) (sm : Sg s m) (sm' : Sg s' m') (sn : Sg t n) (sn' : Sg t' n') (hm : (lim m).length ≤ 200) (hm' : (lim m').length ≤ 200) (hn : (lim n).length ≤ 200) (hn' : (lim n').length ≤ 200) (e1 : -5000 ≤ x) (e2 : x ≤ 5000) (e3 : -5000 ≤ x') (e4 : x' ≤ 5000) (e5 : -5000 ≤ y) (e6 : y ≤ 5000) (e7 : -5000 ≤ y') (e8 : y' ≤ 5000) (k1 : (lim m).length ≤ c) (k2 : (lim m').length ≤ c') (k3 : (lim n).length ≤ d) (k4 : (lim n').length ≤ d')
    (hP : addW (s * (m : Int)) x (t * (n : Int)) y = (p1', lim pn, p3')) (hQ : addW (s' * (m' : Int)) x' (t' * (n' : Int)) y' = (q1', lim qn, q3')) :
    Calls Tryd.prog 120 #[.agg #[.int .i64 s, .slice a (lim m).length c, .int .i64 x, .int .i64 s', .slice a' (lim m').length c', .int .i64 x'], .agg #[.int .i64 t, .slice b (lim n).length d, .int .i64 y, .int .i64 t', .slice b' (lim n').length d', .int .i64 y']] w (RetEE p1' (lim pn) p3' q1' (lim qn) q3' w) := by
  obtain ⟨W0, hW0⟩ : ∃ W0 : World, ((w.alloc (.cells #[.int .i64 s, .slice a (lim m).length c, .int .i64 x, .int .i64 s', .slice a' (lim m').length c', .int .i64 x'] 64)).alloc (.cells #[.int .i64 t, .slice b (lim n).length d, .int .i64 y, .int .i64 t', .slice b' (lim n').length d', .int .i64 y'] 64)).alloc (.cells #[.int .i64 0, .slice none 0 0, .int .i64 0, .int .i64 0, .slice none 0 0, .int .i64 0] 64) = W0 := ⟨_, rfl⟩
  obtain ⟨p1, p2, p5, p3, p4⟩ := three_boxT w 64 64 64 #[.int .i64 s, .slice a (lim m).length c, .int .i64 x, .int .i64 s', .slice a' (lim m').length c', .int .i64 x'] #[.int .i64 t, .slice b (lim n).length d, .int .i64 y, .int .i64 t', .slice b' (lim n').length d', .int .i64 y'] #[.int .i64 0, .slice none 0 0, .int .i64 0, .int .i64 0, .slice none 0 0, .int .i64 0]
  rw [hW0] at p1 p2 p3 p4 p5
  have HW0 := Lib.hid hW0
  have P3 := Lib.hid p3
  have P4 := Lib.hid p4
  have SS := Lib.hid (show ∀ W, Below W0.heap.size W0 W → (W.cell? ⟨w.heap.size, 0, none⟩ = some (.int .i64 s) ∧ W.cell? ⟨w.heap.size, 1, none⟩ = some (.slice a (lim m).length c) ∧ W.cell? ⟨w.heap.size, 2, none⟩ = some (.int .i64 x) ∧ W.cell? ⟨w.heap.size, 3, none⟩ = some (.int .i64 s') ∧ W.cell? ⟨w.heap.size, 4, none⟩ = some (.slice a' (lim m').length c') ∧ W.cell? ⟨w.heap.size, 5, none⟩ = some (.int .i64 x') ∧ W.cell? ⟨w.heap.size + 1, 0, none⟩ = some (.int .i64 t) ∧ W.cell? ⟨w.heap.size + 1, 1, none⟩ = some (.slice b (lim n).length d) ∧ W.cell? ⟨w.heap.size + 1, 2, none⟩ = some (.int .i64 y) ∧ W.cell? ⟨w.heap.size + 1, 3, none⟩ = some (.int .i64 t') ∧ W.cell? ⟨w.heap.size + 1, 4, none⟩ = some (.slice b' (lim n').length d') ∧ W.cell? ⟨w.heap.size + 1, 5, none⟩ = some (.int .i64 y')) from fun W hW => ⟨(p1.below hW).cell 0, (p1.below hW).cell 1, (p1.below hW).cell 2, (p1.below hW).cell 3, (p1.below hW).cell 4, (p1.below hW).cell 5, (p2.below hW).cell 0, (p2.below hW).cell 1, (p2.below hW).cell 2, (p2.below hW).cell 3, (p2.below hW).cell 4, (p2.below hW).cell 5⟩)
  have SR := Lib.hid (show ∀ W, Below W0.heap.size W0 W → BoxAt W (w.heap.size + 1 + 1) 64 #[.int .i64 0, .slice none 0 0, .int .i64 0, .int .i64 0, .slice none 0 0, .int .i64 0] from fun W hW => p5.below hW)
  have hT : Below W0.heap.size W0 W0 := Below.refl _ _
  have hT' : Below W0.heap.size W0 W0.drew := hT.drew
  have IX := Lib.hid (show ∀ W, Below W0.heap.size W0 W → Ints W B a (lim m) ∧ Ints W B a' (lim m') ∧ Ints W B b (lim n) ∧ Ints W B b' (lim n') ∧ B ≤ W.heap.size from fun W hW => ⟨hx.below ((p3.mono hB).trans (hW.mono (by omega))), hx'.below ((p3.mono hB).trans (hW.mono (by omega))), hy.below ((p3.mono hB).trans (hW.mono (by omega))), hy'.below ((p3.mono hB).trans (hW.mono (by omega))), by have := hW.size; omega⟩)
  have ST := Lib.hid (show ∀ W u0 u1 u2 u3 u4 u5, Below W0.heap.size W0 W → (fun W : World => W.cell? ⟨w.heap.size, 0, none⟩ = some (.int .i64 s) ∧ W.cell? ⟨w.heap.size, 1, none⟩ = some (.slice a (lim m).length c) ∧ W.cell? ⟨w.heap.size, 2, none⟩ = some (.int .i64 x) ∧ W.cell? ⟨w.heap.size, 3, none⟩ = some (.int .i64 s') ∧ W.cell? ⟨w.heap.size, 4, none⟩ = some (.slice a' (lim m').length c') ∧ W.cell? ⟨w.heap.size, 5, none⟩ = some (.int .i64 x') ∧ W.cell? ⟨w.heap.size + 1, 0, none⟩ = some (.int .i64 t) ∧ W.cell? ⟨w.heap.size + 1, 1, none⟩ = some (.slice b (lim n).length d) ∧ W.cell? ⟨w.heap.size + 1, 2, none⟩ = some (.int .i64 y) ∧ W.cell? ⟨w.heap.size + 1, 3, none⟩ = some (.int .i64 t') ∧ W.cell? ⟨w.heap.size + 1, 4, none⟩ = some (.slice b' (lim n').length d') ∧ W.cell? ⟨w.heap.size + 1, 5, none⟩ = some (.int .i64 y')) ((((((W.setCell ⟨w.heap.size + 1 + 1, 0, none⟩ u0).setCell ⟨w.heap.size + 1 + 1, 1, none⟩ u1).setCell ⟨w.heap.size + 1 + 1, 2, none⟩ u2).setCell ⟨w.heap.size + 1 + 1, 3, none⟩ u3).setCell ⟨w.heap.size + 1 + 1, 4, none⟩ u4).setCell ⟨w.heap.size + 1 + 1, 5, none⟩ u5) from fun W u0 u1 u2 u3 u4 u5 hW => by
    have a1 := far6 (p1.below hW) (show w.heap.size ≠ w.heap.size + 1 + 1 by omega) u0 u1 u2 u3 u4 u5
    have a2 := far6 (p2.below hW) (show w.heap.size + 1 ≠ w.heap.size + 1 + 1 by omega) u0 u1 u2 u3 u4 u5
    exact ⟨a1.cell 0, a1.cell 1, a1.cell 2, a1.cell 3, a1.cell 4, a1.cell 5, a2.cell 0, a2.cell 1, a2.cell 2, a2.cell 3, a2.cell 4, a2.cell 5⟩)
  have HA1 := Lib.hid (show ∀ W, Below W0.heap.size W0 W → Calls Tryd.prog 169 #[.agg #[.int .i64 s, .slice a (lim m).length c, .int .i64 x], .agg #[.int .i64 t, .slice b (lim n).length d, .int .i64 y]] W fun e w' => ∃ a c, e = .returned (.agg #[.int .i64 p1', .slice a (lim pn).length c, .int .i64 p3']) ∧ (lim pn).length ≤ c ∧ Own w' W0.heap.size a (lim pn) ∧ Own w' W.heap.size a (lim pn) ∧ Below W.heap.size W w' ∧ Below W0.heap.size W0 w' from
    fun W hW => by
      have := sAdd3 s a m c x t b n d y W B B (IX.out W hW).2.2.2.2 (IX.out W hW).2.2.2.2 (IX.out W hW).1 (IX.out W hW).2.2.1 sm sn (by omega) (by omega) (by omega) (by omega) (by omega) (by omega) k1 k3
      rw [hP] at this
      exact this.mono fun e w' ⟨a, c, he, hc, ho, hb⟩ => ⟨a, c, he, hc, ho.mono hW.size, ho, hb, hW.trans (hb.mono hW.size)⟩)
  have HA2 := Lib.hid (show ∀ W, Below W0.heap.size W0 W → Calls Tryd.prog 169 #[.agg #[.int .i64 s', .slice a' (lim m').length c', .int .i64 x'], .agg #[.int .i64 t', .slice b' (lim n').length d', .int .i64 y']] W fun e w' => ∃ a c, e = .returned (.agg #[.int .i64 q1', .slice a (lim qn).length c, .int .i64 q3']) ∧ (lim qn).length ≤ c ∧ Own w' W0.heap.size a (lim qn) ∧ Own w' W.heap.size a (lim qn) ∧ Below W.heap.size W w' ∧ Below W0.heap.size W0 w' from
    fun W hW => by
      have := sAdd3 s' a' m' c' x' t' b' n' d' y' W B B (IX.out W hW).2.2.2.2 (IX.out W hW).2.2.2.2 (IX.out W hW).2.1 (IX.out W hW).2.2.2.1 sm' sn' (by omega) (by omega) (by omega) (by omega) (by omega) (by omega) k2 k4
      rw [hQ] at this
      exact this.mono fun e w' ⟨a, c, he, hc, ho, hb⟩ => ⟨a, c, he, hc, ho.mono hW.size, ho, hb, hW.trans (hb.mono hW.size)⟩)
  have lp := hP
  clear lp p1 p2 p3 p4 p5 hx hx' hy hy' hW0 hB IX sm sm' sn sn' hm hm' hn hn' e1 e2 e3 e4 e5 e6 e7 e8 hP hQ k1 k2 k3 k4
  obtain ⟨k1, k2, k3, k4, k5, k6, k7, k8, k9, k10, k11, k12⟩ := SS.out _ hT
  go_enter Tryd.func120, Tryd.ntmps120
  go_wp2_with fail
  rw [HW0.out]
  go_region_held3 (fun W => W.cell? ⟨w.heap.size, 0, none⟩ = some (.int .i64 s) ∧ W.cell? ⟨w.heap.size, 1, none⟩ = some (.slice a (lim m).length c) ∧ W.cell? ⟨w.heap.size, 2, none⟩ = some (.int .i64 x) ∧ W.cell? ⟨w.heap.size, 3, none⟩ = some (.int .i64 s') ∧ W.cell? ⟨w.heap.size, 4, none⟩ = some (.slice a' (lim m').length c') ∧ W.cell? ⟨w.heap.size, 5, none⟩ = some (.int .i64 x') ∧ W.cell? ⟨w.heap.size + 1, 0, none⟩ = some (.int .i64 t) ∧ W.cell? ⟨w.heap.size + 1, 1, none⟩ = some (.slice b (lim n).length d) ∧ W.cell? ⟨w.heap.size + 1, 2, none⟩ = some (.int .i64 y) ∧ W.cell? ⟨w.heap.size + 1, 3, none⟩ = some (.int .i64 t') ∧ W.cell? ⟨w.heap.size + 1, 4, none⟩ = some (.slice b' (lim n').length d') ∧ W.cell? ⟨w.heap.size + 1, 5, none⟩ = some (.int .i64 y'))
    (with_reducible first | exact SS.out _ (by assumption) | exact ST.out _ _ _ _ _ _ _ (by assumption))
    (first
    | (go_at_call 169; with_reducible refine (HA1.out _ (by assumption)).mono ?_; rintro e v1 ⟨y1, f1, rfl, hc1, ho1, ho1', hbb1, hb1⟩)
    | (go_at_call 169; with_reducible refine (HA2.out _ (by assumption)).mono ?_; rintro e v2 ⟨y2, f2, rfl, hc2, ho2, ho2', hbb2, hb2⟩; have hap := apart_of ho1 ho2'; have ho12 := Own.below ho1 hbb2; obtain ⟨z1, z2, z3, z4, z5, z6, z7, z8, z9, z10, z11, z12⟩ := (SR.out _ hb2).six12))
  all_goals
    have HBX := Lib.hid (SR.out _ hb2)
    go_wp2_with fail
    refine bodyPost_ret (v := .agg #[.int .i64 p1', .slice y1 (lim pn).length f1, .int .i64 p3', .int .i64 q1', .slice y2 (lim qn).length f2, .int .i64 q3']) (by simp [results, Tryd.results120, go_sem, *]) rfl ?_
    exact ⟨_, _, _, _, rfl, hc1, hc2, own_boxE6 (ho12.mono (by have := P4.out; omega)) HBX.out _ _ _ _ _ _, own_boxE6 (ho2.mono (by have := P4.out; omega)) HBX.out _ _ _ _ _ _, hap, Below.set6 (P3.out.trans (hb2.mono (by have := P4.out; omega))) (by omega) _ _ _ _ _ _⟩

set_option maxRecDepth 100000 in
set_option maxHeartbeats 8000000 in
theorem sAddExacts (s : Int) (a : Option Addr) (xs : List Int) (c : Nat) (x : Int) (s' : Int) (a' : Option Addr) (xs' : List Int) (c' : Nat) (x' : Int) (t : Int) (b : Option Addr) (ys : List Int) (d : Nat) (y : Int) (t' : Int) (b' : Option Addr) (ys' : List Int) (d' : Nat) (y' : Int) (w : World) (B : Nat) (hB : B ≤ w.heap.size) (hx : Ints w B a xs) (hx' : Ints w B a' xs') (hy : Ints w B b ys) (hy' : Ints w B b' ys') (hl : xs.length ≤ 9223372036854775807) (hl' : xs'.length ≤ 9223372036854775807) (hk : ys.length ≤ 9223372036854775807) (hk' : ys'.length ≤ 9223372036854775807) (kc : xs.length ≤ c) (kc' : xs'.length ≤ c') (kd : ys.length ≤ d) (kd' : ys'.length ≤ d') :
    Calls Tryd.prog 50 #[.agg #[.int .i64 s, .slice a xs.length c, .int .i64 x, .int .i64 s', .slice a' xs'.length c', .int .i64 x'], .agg #[.int .i64 t, .slice b ys.length d, .int .i64 y, .int .i64 t', .slice b' ys'.length d', .int .i64 y']] w (RetEC (exY adF s xs x s' xs' x' t ys y t' ys' y') w.heap.size w) := by
  obtain ⟨W0, hW0⟩ : ∃ W0 : World, ((w.alloc (.cells #[.int .i64 s, .slice a xs.length c, .int .i64 x, .int .i64 s', .slice a' xs'.length c', .int .i64 x'] 64)).alloc (.cells #[.int .i64 t, .slice b ys.length d, .int .i64 y, .int .i64 t', .slice b' ys'.length d', .int .i64 y'] 64)).alloc (.cells #[.int .i64 0, .slice none 0 0, .int .i64 0, .int .i64 0, .slice none 0 0, .int .i64 0] 64) = W0 := ⟨_, rfl⟩
  obtain ⟨p1, p2, p5, p3, p4⟩ := three_boxT w 64 64 64 #[.int .i64 s, .slice a xs.length c, .int .i64 x, .int .i64 s', .slice a' xs'.length c', .int .i64 x'] #[.int .i64 t, .slice b ys.length d, .int .i64 y, .int .i64 t', .slice b' ys'.length d', .int .i64 y'] #[.int .i64 0, .slice none 0 0, .int .i64 0, .int .i64 0, .slice none 0 0, .int .i64 0]
  rw [hW0] at p1 p2 p3 p4 p5
  have HW0 := Lib.hid hW0
  have P3 := Lib.hid p3
  have P4 := Lib.hid p4
  have SS := Lib.hid (show ∀ W, Below W0.heap.size W0 W → (W.cell? ⟨w.heap.size, 0, none⟩ = some (.int .i64 s) ∧ W.cell? ⟨w.heap.size, 1, none⟩ = some (.slice a xs.length c) ∧ W.cell? ⟨w.heap.size, 2, none⟩ = some (.int .i64 x) ∧ W.cell? ⟨w.heap.size, 3, none⟩ = some (.int .i64 s') ∧ W.cell? ⟨w.heap.size, 4, none⟩ = some (.slice a' xs'.length c') ∧ W.cell? ⟨w.heap.size, 5, none⟩ = some (.int .i64 x') ∧ W.cell? ⟨w.heap.size + 1, 0, none⟩ = some (.int .i64 t) ∧ W.cell? ⟨w.heap.size + 1, 1, none⟩ = some (.slice b ys.length d) ∧ W.cell? ⟨w.heap.size + 1, 2, none⟩ = some (.int .i64 y) ∧ W.cell? ⟨w.heap.size + 1, 3, none⟩ = some (.int .i64 t') ∧ W.cell? ⟨w.heap.size + 1, 4, none⟩ = some (.slice b' ys'.length d') ∧ W.cell? ⟨w.heap.size + 1, 5, none⟩ = some (.int .i64 y')) from fun W hW => ⟨(p1.below hW).cell 0, (p1.below hW).cell 1, (p1.below hW).cell 2, (p1.below hW).cell 3, (p1.below hW).cell 4, (p1.below hW).cell 5, (p2.below hW).cell 0, (p2.below hW).cell 1, (p2.below hW).cell 2, (p2.below hW).cell 3, (p2.below hW).cell 4, (p2.below hW).cell 5⟩)
  have SR := Lib.hid (show ∀ W, Below W0.heap.size W0 W → BoxAt W (w.heap.size + 1 + 1) 64 #[.int .i64 0, .slice none 0 0, .int .i64 0, .int .i64 0, .slice none 0 0, .int .i64 0] from fun W hW => p5.below hW)
  have hT : Below W0.heap.size W0 W0 := Below.refl _ _
  have IX := Lib.hid (show ∀ W, Below W0.heap.size W0 W → Ints W B a xs ∧ Ints W B a' xs' ∧ Ints W B b ys ∧ Ints W B b' ys' ∧ B ≤ W.heap.size from fun W hW => ⟨hx.below ((p3.mono hB).trans (hW.mono (by omega))), hx'.below ((p3.mono hB).trans (hW.mono (by omega))), hy.below ((p3.mono hB).trans (hW.mono (by omega))), hy'.below ((p3.mono hB).trans (hW.mono (by omega))), by have := hW.size; omega⟩)
  have HV1 := Lib.hid (show ∀ W, Below W0.heap.size W0 W → Calls Tryd.prog 118 #[.agg #[.int .i64 s, .slice a xs.length c, .int .i64 x, .int .i64 s', .slice a' xs'.length c', .int .i64 x']] W fun e w' => e = .returned (.bool (dyB s xs x && dyB s' xs' x')) ∧ Below W0.heap.size W0 w' from
    fun W hW => (sPairE s a xs c x s' a' xs' c' x' W B (IX.out W hW).2.2.2.2 hl hl' (IX.out W hW).1 (IX.out W hW).2.1).mono fun e w' ⟨he, hb⟩ => ⟨he, hW.trans (hb.mono hW.size)⟩)
  have HV2 := Lib.hid (show ∀ W, Below W0.heap.size W0 W → Calls Tryd.prog 118 #[.agg #[.int .i64 t, .slice b ys.length d, .int .i64 y, .int .i64 t', .slice b' ys'.length d', .int .i64 y']] W fun e w' => e = .returned (.bool (dyB t ys y && dyB t' ys' y')) ∧ Below W0.heap.size W0 w' from
    fun W hW => (sPairE t b ys d y t' b' ys' d' y' W B (IX.out W hW).2.2.2.2 hk hk' (IX.out W hW).2.2.1 (IX.out W hW).2.2.2.1).mono fun e w' ⟨he, hb⟩ => ⟨he, hW.trans (hb.mono hW.size)⟩)
  obtain ⟨k1, k2, k3, k4, k5, k6, k7, k8, k9, k10, k11, k12⟩ := SS.out _ hT
  cases h1 : dyB s xs x && dyB s' xs' x'
  · rw [exY_no (fun h => by rw [h.1] at h1; cases h1)]
    rw [h1] at HV1
    clear p1 p2 p3 p4 p5 hx hx' hy hy' hW0 hB hl hl' hk hk' IX kc kc' kd kd' h1
    go_enter Tryd.func50, Tryd.ntmps50
    go_wp2_with fail
    rw [HW0.out]
    refine (HV1.out _ hT).mono ?_
    rintro e w1 ⟨rfl, hb⟩
    clear k1 k2 k3 k4 k5 k6 k7 k8 k9 k10 k11 k12
    obtain ⟨k1, k2, k3, k4, k5, k6, k7, k8, k9, k10, k11, k12⟩ := SS.out _ hb
    obtain ⟨q1', q2', q3', q4', q5', q6', q7', q8', q9', q10', q11', q12'⟩ := (SR.out _ hb).six12
    clear k1 k2 k3 k4 k5 k6 k7 k8 k9 k10 k11 k12
    go_wp2_with fail
    refine bodyPost_ret (v := .tuple #[.agg #[.int .i64 0, .slice none 0 0, .int .i64 0, .int .i64 0, .slice none 0 0, .int .i64 0], .int .i64 1]) (by simp [results, Tryd.results50, go_sem, *]) rfl ?_
    exact retEC_zero (g := w.heap.size + 1 + 1) 1 P3.out P4.out hb (by omega) _ _ _ _ _ _
  · cases h2 : dyB t ys y && dyB t' ys' y'
    · rw [exY_no (fun h => by rw [h.2] at h2; cases h2)]
      rw [h1] at HV1
      rw [h2] at HV2
      clear p1 p2 p3 p4 p5 hx hx' hy hy' hW0 hB hl hl' hk hk' IX kc kc' kd kd' h1 h2
      go_enter Tryd.func50, Tryd.ntmps50
      go_wp2_with fail
      rw [HW0.out]
      refine (HV1.out _ hT).mono ?_
      rintro e w1 ⟨rfl, hb⟩
      clear k1 k2 k3 k4 k5 k6 k7 k8 k9 k10 k11 k12
      obtain ⟨k1, k2, k3, k4, k5, k6, k7, k8, k9, k10, k11, k12⟩ := SS.out _ hb
      go_wp2_with fail
      refine (HV2.out _ hb).mono ?_
      rintro e w2 ⟨rfl, hb2⟩
      clear k1 k2 k3 k4 k5 k6 k7 k8 k9 k10 k11 k12
      obtain ⟨k1, k2, k3, k4, k5, k6, k7, k8, k9, k10, k11, k12⟩ := SS.out _ hb2
      obtain ⟨q1', q2', q3', q4', q5', q6', q7', q8', q9', q10', q11', q12'⟩ := (SR.out _ hb2).six12
      clear k1 k2 k3 k4 k5 k6 k7 k8 k9 k10 k11 k12
      go_wp2_with fail
      refine bodyPost_ret (v := .tuple #[.agg #[.int .i64 0, .slice none 0 0, .int .i64 0, .int .i64 0, .slice none 0 0, .int .i64 0], .int .i64 1]) (by simp [results, Tryd.results50, go_sem, *]) rfl ?_
      exact retEC_zero (g := w.heap.size + 1 + 1) 1 P3.out P4.out hb2 (by omega) _ _ _ _ _ _
    · rw [exY_yes h1 h2]
      obtain ⟨g1, g2⟩ := both_yes h1
      obtain ⟨g3, g4⟩ := both_yes h2
      obtain ⟨m, rfl, hm, sm, e1, e2⟩ := isDy_of (dyB_iff.1 g1)
      obtain ⟨m', rfl, hm', sm', e3, e4⟩ := isDy_of (dyB_iff.1 g2)
      obtain ⟨n, rfl, hn, sn, e5, e6⟩ := isDy_of (dyB_iff.1 g3)
      obtain ⟨n', rfl, hn', sn', e7, e8⟩ := isDy_of (dyB_iff.1 g4)
      rw [h1] at HV1
      rw [h2] at HV2
      rw [zv_lim, zv_lim, zv_lim, zv_lim, adF]
      obtain ⟨p1', pn, p3', hP, sp, lp⟩ := addW_form (x := x) (y := y) sm sn (show (lim m).length ≤ 400 by omega) (show (lim n).length ≤ 400 by omega) e1 e2 e5 e6
      obtain ⟨q1', qn, q3', hQ, sq, lq⟩ := addW_form (x := x') (y := y') sm' sn' (show (lim m').length ≤ 400 by omega) (show (lim n').length ≤ 400 by omega) e3 e4 e7 e8
      rw [hP, hQ]
      obtain ⟨⟨r1, r2, r3, r4, r5, r6, rc⟩, hr⟩ : ∃ r : ExR, r = fitE (p1', lim pn, p3') (q1', lim qn, q3') := ⟨_, rfl⟩
      have HLE := Lib.hid (show ∀ (a : Option Addr) (c : Nat) (b : Option Addr) (d : Nat) W, Below W0.heap.size W0 W → (lim pn).length ≤ c → (lim qn).length ≤ d → Own W W0.heap.size a (lim pn) → Own W W0.heap.size b (lim qn) → Apart a b (lim pn) (lim qn) → Calls Tryd.prog 119 #[.agg #[.int .i64 p1', .slice a (lim pn).length c, .int .i64 p3', .int .i64 q1', .slice b (lim qn).length d, .int .i64 q3']] W fun e w' => ∃ a c b d, e = .returned (.tuple #[.agg #[.int .i64 r1, .slice a r2.length c, .int .i64 r3, .int .i64 r4, .slice b r5.length d, .int .i64 r6], .int .i64 rc]) ∧ r2.length ≤ c ∧ r5.length ≤ d ∧ Own w' W0.heap.size a r2 ∧ Own w' W0.heap.size b r5 ∧ Apart a b r2 r5 ∧ Below W0.heap.size W0 w' from
        fun a c b d W hW hc hd ho hp hap => by
          have := sFitE p1' (lim pn) p3' q1' (lim qn) q3' a b c d W W0.heap.size (by omega) (by omega) hc hd ho hp hap
          rw [← hr] at this
          exact this.mono fun e w' ⟨a, c, b, d, he, hc, hd, ho, hp, hap, hb⟩ => ⟨a, c, b, d, he, hc, hd, ho, hp, hap, hW.trans (hb.mono hW.size)⟩)
      rw [← hr]
      have HPL := Lib.hid (show ∀ W, Below W0.heap.size W0 W → Calls Tryd.prog 120 #[.agg #[.int .i64 s, .slice a (lim m).length c, .int .i64 x, .int .i64 s', .slice a' (lim m').length c', .int .i64 x'], .agg #[.int .i64 t, .slice b (lim n).length d, .int .i64 y, .int .i64 t', .slice b' (lim n').length d', .int .i64 y']] W fun e w' => ∃ a c b d, e = .returned (.agg #[.int .i64 p1', .slice a (lim pn).length c, .int .i64 p3', .int .i64 q1', .slice b (lim qn).length d, .int .i64 q3']) ∧ (lim pn).length ≤ c ∧ (lim qn).length ≤ d ∧ Own w' W0.heap.size a (lim pn) ∧ Own w' W0.heap.size b (lim qn) ∧ Apart a b (lim pn) (lim qn) ∧ Below W0.heap.size W0 w' from
        fun W hW => (sPlus3 s a m c x s' a' m' c' x' t b n d y t' b' n' d' y' p1' pn p3' q1' qn q3' W B (IX.out W hW).2.2.2.2 (IX.out W hW).1 (IX.out W hW).2.1 (IX.out W hW).2.2.1 (IX.out W hW).2.2.2.1 sm sm' sn sn' hm hm' hn hn' e1 e2 e3 e4 e5 e6 e7 e8 kc kc' kd kd' hP hQ).mono fun e w' ⟨a, c, b, d, he, hc, hd, ho, hp, hap, hb⟩ => ⟨a, c, b, d, he, hc, hd, ho.mono hW.size, hp.mono hW.size, hap, hW.trans (hb.mono hW.size)⟩)
      clear p1 p2 p3 p4 p5 hx hx' hy hy' hW0 hB hl hl' hk hk' IX g1 g2 g3 g4 h1 h2 hm hm' hn hn' sm sm' sn sn' e1 e2 e3 e4 e5 e6 e7 e8 hP hQ sp sq lp lq hr kc kc' kd kd'
      go_enter Tryd.func50, Tryd.ntmps50
      go_wp2_with fail
      rw [HW0.out]
      refine (HV1.out _ hT).mono ?_
      rintro e w1 ⟨rfl, hb⟩
      clear k1 k2 k3 k4 k5 k6 k7 k8 k9 k10 k11 k12
      obtain ⟨k1, k2, k3, k4, k5, k6, k7, k8, k9, k10, k11, k12⟩ := SS.out _ hb
      go_wp2_with fail
      refine (HV2.out _ hb).mono ?_
      rintro e w2 ⟨rfl, hb2⟩
      clear k1 k2 k3 k4 k5 k6 k7 k8 k9 k10 k11 k12
      obtain ⟨k1, k2, k3, k4, k5, k6, k7, k8, k9, k10, k11, k12⟩ := SS.out _ hb2
      go_wp2_with fail
      refine (HPL.out _ hb2).mono ?_
      rintro e w3 ⟨y1, f1, y2, f2, rfl, hc1, hc2, ho1, ho2, hap, hb3⟩
      clear k1 k2 k3 k4 k5 k6 k7 k8 k9 k10 k11 k12
      go_wp2_with fail
      refine (HLE.out _ _ _ _ _ hb3 hc1 hc2 ho1 ho2 hap).mono ?_
      rintro e w4 ⟨y3, f3, y4, f4, rfl, hc3, hc4, ho3, ho4, hap4, hb4⟩
      clear hc1 hc2 ho1 ho2 hb3
      obtain ⟨z1, z2, z3, z4, z5, z6, z7, z8, z9, z10, z11, z12⟩ := (SR.out _ hb4).six12
      have HBX := Lib.hid (SR.out _ hb4)
      have hsz : w.heap.size + 1 + 1 < w4.heap.size := by have := hb4.size; have := P4.out; omega
      go_wp2_with fail
      refine bodyPost_ret (v := .tuple #[.agg #[.int .i64 r1, .slice y3 r2.length f3, .int .i64 r3, .int .i64 r4, .slice y4 r5.length f4, .int .i64 r6], .int .i64 rc]) (by simp [results, Tryd.results50, go_sem, *]) rfl ?_
      exact (retEC_end (g := w.heap.size + 1 + 1) (r := ⟨r1, r2, r3, r4, r5, r6, rc⟩) P3.out P4.out hb4 (by omega) _ _ _ _ _ _ ⟨_, HBX.out⟩ (ho3.mono (by have := P4.out; omega)) (ho4.mono (by have := P4.out; omega)) hc3 hc4 hap4).alloc _
end Go.Proofs.YtebkpaonmeokgaaDoor
