/-
  Contracts of the laws' own helpers over exact complex numbers. Conditions: the limbs can be read. Contracts: tests and squares of exact complex numbers, by the program and by the model. Conditions: the limbs can be read; the library's table is as its initialiser lays it.
-/
import Derived.Test.YtfjfmlofhifkmaaDoorQa
import Derived.Test.YtfjfmlofhifkmaaDoorRa
import Derived.Test.YtfjfmlofhifkmaaDoorQh
import Derived.Deep.RegionHeld3
namespace Go.Proofs.YtfjfmlofhifkmaaDoor
set_option linter.unusedVariables false
open Go Go.RowKit

theorem BoxAt.six {w : World} {g : Nat} {t : TypeId} {a b c d e f : Value} (h : BoxAt w g t #[a, b, c, d, e, f]) : w.cell? ⟨g, 0, none⟩ = some a ∧ w.cell? ⟨g, 1, none⟩ = some b ∧ w.cell? ⟨g, 2, none⟩ = some c ∧ w.cell? ⟨g, 3, none⟩ = some d ∧ w.cell? ⟨g, 4, none⟩ = some e ∧ w.cell? ⟨g, 5, none⟩ = some f := ⟨h.cell 0, h.cell 1, h.cell 2, h.cell 3, h.cell 4, h.cell 5⟩
theorem BoxAt.six12 {w : World} {g : Nat} {t : TypeId} {a b c d e f : Value} (h : BoxAt w g t #[a, b, c, d, e, f]) : w.cell? ⟨g, 0, none⟩ = some a ∧ w.cell? ⟨g, 1, none⟩ = some b ∧ w.cell? ⟨g, 2, none⟩ = some c ∧ w.cell? ⟨g, 3, none⟩ = some d ∧ w.cell? ⟨g, 4, none⟩ = some e ∧ w.cell? ⟨g, 5, none⟩ = some f ∧
    w.frozen? ⟨g, 0, none⟩ = false ∧ w.frozen? ⟨g, 1, none⟩ = false ∧ w.frozen? ⟨g, 2, none⟩ = false ∧ w.frozen? ⟨g, 3, none⟩ = false ∧ w.frozen? ⟨g, 4, none⟩ = false ∧ w.frozen? ⟨g, 5, none⟩ = false :=
  ⟨h.cell 0, h.cell 1, h.cell 2, h.cell 3, h.cell 4, h.cell 5, h.frozen 0, h.frozen 1, h.frozen 2, h.frozen 3, h.frozen 4, h.frozen 5⟩
/-- Six cells are written. -/
def set6 (w : World) (g : Nat) (a b c d e f : Value) : World := (((((w.setCell ⟨g, 0, none⟩ a).setCell ⟨g, 1, none⟩ b).setCell ⟨g, 2, none⟩ c).setCell ⟨g, 3, none⟩ d).setCell ⟨g, 4, none⟩ e).setCell ⟨g, 5, none⟩ f
theorem Own.set6 {w : World} {lo : Nat} {u : Option Addr} {xs : List Int} {g : Nat} (h : Own w lo u xs) (hg : g < lo) (a b c d e f : Value) : Own ((((((w.setCell ⟨g, 0, none⟩ a).setCell ⟨g, 1, none⟩ b).setCell ⟨g, 2, none⟩ c).setCell ⟨g, 3, none⟩ d).setCell ⟨g, 4, none⟩ e).setCell ⟨g, 5, none⟩ f) lo u xs :=
  (((Own.set3 h hg a b c).setFar (by simpa using hg) _).setFar (by simpa using hg) _).setFar (by simpa using hg) _
theorem Below.set6 {w W : World} {B g : Nat} (h : Below B w W) (hg : B ≤ g) (a b c d e f : Value) : Below B w ((((((W.setCell ⟨g, 0, none⟩ a).setCell ⟨g, 1, none⟩ b).setCell ⟨g, 2, none⟩ c).setCell ⟨g, 3, none⟩ d).setCell ⟨g, 4, none⟩ e).setCell ⟨g, 5, none⟩ f) :=
  (((Below.set3 h hg a b c).setCell (by simpa using hg) _).setCell (by simpa using hg) _).setCell (by simpa using hg) _

set_option maxHeartbeats 400000 in
theorem szEx_ok (s : Int) (a : Option Addr) (n c : Nat) (x : Int) (s' : Int) (a' : Option Addr) (n' c' : Nat) (x' : Int) (left : Int) (w : World) (h : (n : Int) + (n' : Int) ≤ left) (h0 : left ≤ 1048576) :
    Calls Tryd.prog 42 #[.agg #[.int .i64 s, .slice a n c, .int .i64 x, .int .i64 s', .slice a' n' c', .int .i64 x'], .int .i64 left] w (RetB (.int .i64 (left - n - n')) w) := by
  have H := Lib.hid fun W => szDy_ok s a n c x left W (by omega) h0
  have H2 := Lib.hid fun W => szDy_ok s' a' n' c' x' (left - n) W (by omega) (by omega)
  have h2 : decide (left - (n : Int) < 0) = false := decide_eq_false (by omega)
  have h3 : decide (left - (n : Int) - (n' : Int) < 0) = false := decide_eq_false (by omega)
  have W0 := Lib.hid (one_box w 64 #[.int .i64 s, .slice a n c, .int .i64 x, .int .i64 s', .slice a' n' c', .int .i64 x'])
  obtain ⟨k1, k2, k3, k4, k5, k6⟩ := W0.out.1.six
  clear h h0
  go_enter Tryd.func42, Tryd.ntmps42
  go_wp2_with fail
  refine (H.out _).mono ?_
  rintro e w' ⟨rfl, hb⟩
  clear k1 k2 k3 k4 k5 k6
  obtain ⟨k1, k2, k3, k4, k5, k6⟩ := (W0.out.1.below hb).six
  have HB := Lib.hid (show Below w.heap.size w w' from W0.out.2.1.trans (hb.mono (by have := W0.out.2.2; omega)))
  clear hb
  go_wp2_with fail
  refine (H2.out _).mono ?_
  rintro e w2 ⟨rfl, hb⟩
  clear k1 k2 k3 k4 k5 k6
  have HB2 := Lib.hid (show Below w.heap.size w w2 from HB.out.trans (hb.mono HB.out.size))
  clear hb
  go_wp2_with fail
  go_ret
  exact ⟨rfl, HB2.out⟩
set_option maxHeartbeats 400000 in
theorem szEx_no (s : Int) (a : Option Addr) (n c : Nat) (x : Int) (s' : Int) (a' : Option Addr) (n' c' : Nat) (x' : Int) (left : Int) (w : World) (h : left < (n : Int) + (n' : Int)) (hn : n ≤ 9223372036854775807) (hn' : n' ≤ 9223372036854775807) (h0 : left ≤ 1048576) (h1 : 0 ≤ left) :
    Calls Tryd.prog 42 #[.agg #[.int .i64 s, .slice a n c, .int .i64 x, .int .i64 s', .slice a' n' c', .int .i64 x'], .int .i64 left] w (RetB (.int .i64 (-1)) w) := by
  have W0 := Lib.hid (one_box w 64 #[.int .i64 s, .slice a n c, .int .i64 x, .int .i64 s', .slice a' n' c', .int .i64 x'])
  obtain ⟨k1, k2, k3, k4, k5, k6⟩ := W0.out.1.six
  by_cases hf : (n : Int) ≤ left
  · have H := Lib.hid fun W => szDy_ok s a n c x left W hf h0
    have H2 := Lib.hid fun W => szDy_no s' a' n' c' x' (left - n) W (by omega) hn' (by omega) (by omega)
    have h2 : decide (left - (n : Int) < 0) = false := decide_eq_false (by omega)
    clear h h0 hn hn' h1 hf
    go_enter Tryd.func42, Tryd.ntmps42
    go_wp2_with fail
    refine (H.out _).mono ?_
    rintro e w' ⟨rfl, hb⟩
    clear k1 k2 k3 k4 k5 k6
    obtain ⟨k1, k2, k3, k4, k5, k6⟩ := (W0.out.1.below hb).six
    have HB := Lib.hid (show Below w.heap.size w w' from W0.out.2.1.trans (hb.mono (by have := W0.out.2.2; omega)))
    clear hb
    go_wp2_with fail
    refine (H2.out _).mono ?_
    rintro e w2 ⟨rfl, hb⟩
    clear k1 k2 k3 k4 k5 k6
    have HB2 := Lib.hid (show Below w.heap.size w w2 from HB.out.trans (hb.mono HB.out.size))
    clear hb
    go_wp2_with fail
    go_ret
    exact ⟨rfl, HB2.out⟩
  · have H := Lib.hid fun W => szDy_no s a n c x left W (by omega) hn h0 h1
    clear h h0 hn hn' h1 hf
    go_enter Tryd.func42, Tryd.ntmps42
    go_wp2_with fail
    refine (H.out _).mono ?_
    rintro e w' ⟨rfl, hb⟩
    clear k1 k2 k3 k4 k5 k6
    have HB := Lib.hid (show Below w.heap.size w w' from W0.out.2.1.trans (hb.mono (by have := W0.out.2.2; omega)))
    clear hb
    go_wp2_with fail
    go_ret
    exact ⟨rfl, HB.out⟩

/-- The call returned an exact complex number in new memory. -/
def RetE (s : Int) (xs : List Int) (x : Int) (s' : Int) (xs' : List Int) (x' : Int) (w : World) (e : Ending) (w' : World) : Prop :=
  ∃ a c a' c', e = .returned (.agg #[.int .i64 s, .slice a xs.length c, .int .i64 x, .int .i64 s', .slice a' xs'.length c', .int .i64 x']) ∧ xs.length ≤ c ∧ xs'.length ≤ c' ∧ Own w' w.heap.size a xs ∧ Own w' w.heap.size a' xs' ∧ Apart a a' xs xs' ∧ Below w.heap.size w w'
/-- Rows of two times lie apart. -/
theorem apart_of {w w' : World} {lo : Nat} {a a' : Option Addr} {xs xs' : List Int} (h : Own w lo a xs) (h' : Own w' w.heap.size a' xs') : Apart a a' xs xs' := by
  rcases h with h | ⟨g, e, hg, hr⟩
  · exact .inl h
  · rcases h' with h' | ⟨g', e', hg', hr'⟩
    · exact .inr (.inl h')
    · refine .inr (.inr fun hh => ?_)
      rw [e, e'] at hh
      simp at hh
      have := hr.lt
      omega

set_option maxHeartbeats 2000000 in
theorem toExact (s : Int) (a : Option Addr) (xs : List Int) (c : Nat) (x : Int) (s' : Int) (a' : Option Addr) (xs' : List Int) (c' : Nat) (x' : Int) (w : World) (B : Nat) (hB : B ≤ w.heap.size) (hl : xs.length ≤ 1048576) (hl' : xs'.length ≤ 1048576) (hx : Ints w B a xs) (hx' : Ints w B a' xs') :
    Calls Tryd.prog 44 #[.agg #[.int .i64 s, .slice a xs.length c, .int .i64 x, .int .i64 s', .slice a' xs'.length c', .int .i64 x']] w (RetE s xs x s' xs' x' w) := by
  obtain ⟨W0, hW0⟩ : ∃ W0 : World, ((w.alloc (.cells #[.int .i64 s, .slice a xs.length c, .int .i64 x, .int .i64 s', .slice a' xs'.length c', .int .i64 x'] 64)).alloc (.cells #[.int .i64 0, .slice none 0 0, .int .i64 0, .int .i64 0, .slice none 0 0, .int .i64 0] 70)).alloc (.cells #[.int .i64 0, .slice none 0 0, .int .i64 0, .int .i64 0, .slice none 0 0, .int .i64 0] 70) = W0 := ⟨_, rfl⟩
  obtain ⟨p1, p2, p5, p3, p4⟩ := three_boxT w 64 70 70 #[.int .i64 s, .slice a xs.length c, .int .i64 x, .int .i64 s', .slice a' xs'.length c', .int .i64 x'] #[.int .i64 0, .slice none 0 0, .int .i64 0, .int .i64 0, .slice none 0 0, .int .i64 0] #[.int .i64 0, .slice none 0 0, .int .i64 0, .int .i64 0, .slice none 0 0, .int .i64 0]
  rw [hW0] at p1 p2 p3 p4 p5
  have HW0 := Lib.hid hW0
  have P3 := Lib.hid p3
  have P4 := Lib.hid p4
  have P1 := Lib.hid (fun W (hW : Below W0.heap.size W0 W) => (p1.below hW).six)
  have P2 := Lib.hid (fun W (hW : Below W0.heap.size W0 W) => p2.below hW)
  have P5 := Lib.hid (fun W (hW : Below W0.heap.size W0 W) => p5.below hW)
  have hT : Below W0.heap.size W0 W0 := Below.refl _ _
  have H := Lib.hid (show ∀ W, Below W0.heap.size W0 W → Calls Tryd.prog 37 #[.agg #[.int .i64 s, .slice a xs.length c, .int .i64 x]] W fun e w' => ∃ a' c', e = .returned (.agg #[.int .i64 s, .slice a' xs.length c', .int .i64 x]) ∧ xs.length ≤ c' ∧ Own w' W0.heap.size a' xs ∧ Below W0.heap.size W0 w' from
    fun W hW => (toDyadic s a xs c x W B (by have := hW.size; omega) hl (hx.below ((p3.mono hB).trans (hW.mono (by omega))))).mono fun e w' ⟨a', c', he, hc, ho, hb⟩ => ⟨a', c', he, hc, ho.mono hW.size, hW.trans (hb.mono hW.size)⟩)
  have H2 := Lib.hid (show ∀ W, Below w.heap.size w W → Calls Tryd.prog 37 #[.agg #[.int .i64 s', .slice a' xs'.length c', .int .i64 x']] W fun e w' => ∃ a c', e = .returned (.agg #[.int .i64 s', .slice a xs'.length c', .int .i64 x']) ∧ xs'.length ≤ c' ∧ Own w' W.heap.size a xs' ∧ Below W.heap.size W w' from
    fun W hW => (toDyadic s' a' xs' c' x' W B (by have := hW.size; omega) hl' (hx'.below (hW.mono hB))).mono fun e w' ⟨a', c', he, hc, ho, hb⟩ => ⟨a', c', he, hc, ho, hb⟩)
  obtain ⟨k1, k2, k3, k4, k5, k6⟩ := P1.out _ hT
  have hbox1 := p1
  clear p1 p2 p3 p4 p5 hx hx' hl hl' hB hW0
  go_enter Tryd.func44, Tryd.ntmps44
  go_wp2_with fail
  rw [HW0.out]
  refine (H.out _ hT).mono ?_
  rintro e w1 ⟨a1, d1, rfl, hd1, hown, hb⟩
  have HO := Lib.hid hown
  have HB := Lib.hid hb
  have HC := Lib.hid hd1
  clear k1 k2 k3 k4 k5 k6
  obtain ⟨k1, k2, k3, k4, k5, k6⟩ := P1.out _ hb
  have hr := P5.out _ hb
  obtain ⟨r1, r2, r3, r4, r5, r6, r7, r8, r9, r10, r11, r12⟩ := hr.six12
  have hq := P2.out _ hb
  have hsz := hb.size
  have hsz0 := P4.out
  obtain ⟨V, hV⟩ : ∃ V : World, ((w1.setCell ⟨w.heap.size + 1 + 1, 0, none⟩ (.int .i64 s)).setCell ⟨w.heap.size + 1 + 1, 1, none⟩ (.slice a1 xs.length d1)).setCell ⟨w.heap.size + 1 + 1, 2, none⟩ (.int .i64 x) = V := ⟨_, rfl⟩
  have v1 := ((hr.set_ 0 (.int .i64 s)).set_ 1 (.slice a1 xs.length d1)).set_ 2 (.int .i64 x)
  have v2 := ((hq.far (p := ⟨w.heap.size + 1 + 1, 0, none⟩) (by simp) (.int .i64 s)).far (p := ⟨w.heap.size + 1 + 1, 1, none⟩) (by simp) (.slice a1 xs.length d1)).far (p := ⟨w.heap.size + 1 + 1, 2, none⟩) (by simp) (.int .i64 x)
  have v3 := Own.set3 hown (g := w.heap.size + 1 + 1) (by omega) (.int .i64 s) (.slice a1 xs.length d1) (.int .i64 x)
  have v4 := Below.set3 (P3.out.trans (hb.mono (by omega))) (g := w.heap.size + 1 + 1) (by omega) (.int .i64 s) (.slice a1 xs.length d1) (.int .i64 x)
  have v5 : V.heap.size = w1.heap.size := by rw [← hV]; simp [World.setCell]
  have v6 := ((P1.out _ hb))
  simp at v1
  rw [hV] at v1 v2 v3 v4
  have q0 : ∀ W, Below V.heap.size V W → (W.cell? ⟨w.heap.size, 0, none⟩ = V.cell? ⟨w.heap.size, 0, none⟩) := fun W hW => hW.cell (by show w.heap.size < _; omega)
  have p1V : BoxAt V w.heap.size 64 #[.int .i64 s, .slice a xs.length c, .int .i64 x, .int .i64 s', .slice a' xs'.length c', .int .i64 x'] := by
    have h := ((hbox1.below hb).far (p := ⟨w.heap.size + 1 + 1, 0, none⟩) (by simp; omega) (.int .i64 s)).far (p := ⟨w.heap.size + 1 + 1, 1, none⟩) (by simp; omega) (.slice a1 xs.length d1) |>.far (p := ⟨w.heap.size + 1 + 1, 2, none⟩) (by simp; omega) (.int .i64 x)
    rwa [hV] at h
  obtain ⟨m1, m2, m3, m4, m5, m6⟩ := p1V.six
  have HV := Lib.hid hV
  have HV4 := Lib.hid v4
  clear hown hb hd1 hq hr v6 q0 hV
  go_wp2_with fail
  rw [HV.out]
  refine (H2.out _ v4).mono ?_
  rintro e w2 ⟨a2, d2, rfl, hd2, ho2, hb2⟩
  have u1 := v1.below hb2
  have u2 := v2.below hb2
  have u3 := v3.below hb2
  have u4 := v4.trans (hb2.mono v4.size)
  have u5 := hb2.size
  have HU3 := Lib.hid u3
  have HU4 := Lib.hid u4
  have HO2 := Lib.hid ho2
  have HD2 := Lib.hid hd2
  have HAP := Lib.hid (show Apart a1 a2 xs xs' from apart_of v3 ho2)
  clear r1 r2 r3 r4 r5 r6 r7 r8 r9 r10 r11 r12 k1 k2 k3 k4 k5 k6 m1 m2 m3 m4 m5 m6 p1V v1 v2 v3 v4 ho2 hb2 hd2 u3 u4
  obtain ⟨r1, r2, r3, r4, r5, r6, r7, r8, r9, r10, r11, r12⟩ := u1.six12
  obtain ⟨q1, q2, q3, q4, q5, q6, q7, q8, q9, q10, q11, q12⟩ := u2.six12
  clear u1 u2
  go_wp2_with fail
  refine bodyPost_ret (v := .agg #[.int .i64 s, .slice a1 xs.length d1, .int .i64 x, .int .i64 s', .slice a2 xs'.length d2, .int .i64 x']) (by simp [results, Tryd.results44, go_sem, *]) rfl ⟨a1, d1, a2, d2, rfl, HC.out, HD2.out, ?_, ?_, HAP.out, ?_⟩
  · exact (Own.set6 (g := w.heap.size + 1) (((HU3.out.setFar (p := ⟨w.heap.size + 1 + 1, 3, none⟩) (by show w.heap.size + 1 + 1 < _; omega) _).setFar (p := ⟨w.heap.size + 1 + 1, 4, none⟩) (by show w.heap.size + 1 + 1 < _; omega) _).setFar (p := ⟨w.heap.size + 1 + 1, 5, none⟩) (by show w.heap.size + 1 + 1 < _; omega) _) (by omega) _ _ _ _ _ _).mono (by omega)
  · exact (Own.set6 (g := w.heap.size + 1) (((HO2.out.setFar (p := ⟨w.heap.size + 1 + 1, 3, none⟩) (by show w.heap.size + 1 + 1 < _; omega) _).setFar (p := ⟨w.heap.size + 1 + 1, 4, none⟩) (by show w.heap.size + 1 + 1 < _; omega) _).setFar (p := ⟨w.heap.size + 1 + 1, 5, none⟩) (by show w.heap.size + 1 + 1 < _; omega) _) (by omega) _ _ _ _ _ _).mono (by omega)
  · exact Below.set6 (g := w.heap.size + 1) (((HU4.out.setCell (p := ⟨w.heap.size + 1 + 1, 3, none⟩) (by show _ ≤ w.heap.size + 1 + 1; omega) _).setCell (p := ⟨w.heap.size + 1 + 1, 4, none⟩) (by show _ ≤ w.heap.size + 1 + 1; omega) _).setCell (p := ⟨w.heap.size + 1 + 1, 5, none⟩) (by show _ ≤ w.heap.size + 1 + 1; omega) _) (by omega) _ _ _ _ _ _

set_option maxHeartbeats 400000 in
theorem eqExact_yes (s : Int) (a b : Option Addr) (xs : List Int) (n c d : Nat) (x : Int) (s' : Int) (a' b' : Option Addr) (xs' : List Int) (n' c' d' : Nat) (x' : Int) (hn : n = xs.length) (hn' : n' = xs'.length) (w : World) (B B' C C' : Nat) (hB : B ≤ w.heap.size) (hB' : B' ≤ w.heap.size) (hC : C ≤ w.heap.size) (hC' : C' ≤ w.heap.size) (hx : Ints w B a xs) (hy : Ints w C b xs) (hx' : Ints w B' a' xs') (hy' : Ints w C' b' xs') (hl : n ≤ 9223372036854775807) (hl' : n' ≤ 9223372036854775807) :
    Calls Tryd.prog 47 #[.agg #[.int .i64 s, .slice a n c, .int .i64 x, .int .i64 s', .slice a' n' c', .int .i64 x'], .agg #[.int .i64 s, .slice b n d, .int .i64 x, .int .i64 s', .slice b' n' d', .int .i64 x']] w (RetB (.bool true) w) := by
  have H := Lib.hid fun W (hW : Below w.heap.size w W) => eqDyadic_yes s a b xs n c d x hn W B C (by have := hW.size; omega) (by have := hW.size; omega) (hx.below (hW.mono hB)) (hy.below (hW.mono hC)) hl
  have H2 := Lib.hid fun W (hW : Below w.heap.size w W) => eqDyadic_yes s' a' b' xs' n' c' d' x' hn' W B' C' (by have := hW.size; omega) (by have := hW.size; omega) (hx'.below (hW.mono hB')) (hy'.below (hW.mono hC')) hl'
  clear hx hy hl hn hx' hy' hl' hn' hB hB' hC hC'
  obtain ⟨p1, p2, p3, p4⟩ := two_boxT w 70 70 #[.int .i64 s, .slice a n c, .int .i64 x, .int .i64 s', .slice a' n' c', .int .i64 x'] #[.int .i64 s, .slice b n d, .int .i64 x, .int .i64 s', .slice b' n' d', .int .i64 x']
  have P1 := Lib.hid p1
  have P2 := Lib.hid p2
  have P3 := Lib.hid p3
  have P4 := Lib.hid p4
  clear p1 p2 p3 p4
  obtain ⟨k1, k2, k3, k4, k5, k6⟩ := P1.out.six
  obtain ⟨m1, m2, m3, m4, m5, m6⟩ := P2.out.six
  go_enter Tryd.func47, Tryd.ntmps47
  go_wp2_with fail
  refine (H.out _ P3.out).mono ?_
  rintro e w1 ⟨rfl, hb⟩
  clear k1 k2 k3 k4 k5 k6 m1 m2 m3 m4 m5 m6
  obtain ⟨k1, k2, k3, k4, k5, k6⟩ := (P1.out.below hb).six
  obtain ⟨m1, m2, m3, m4, m5, m6⟩ := (P2.out.below hb).six
  have HB := Lib.hid (show Below w.heap.size w w1 from P3.out.trans (hb.mono (by have := P4.out; omega)))
  clear hb
  go_wp2_with fail
  refine (H2.out _ HB.out).mono ?_
  rintro e w2 ⟨rfl, hb⟩
  clear k1 k2 k3 k4 k5 k6 m1 m2 m3 m4 m5 m6
  have HB2 := Lib.hid (show Below w.heap.size w w2 from HB.out.trans (hb.mono HB.out.size))
  clear hb
  go_wp2_with fail
  go_ret
  exact ⟨rfl, HB2.out⟩

/-- Two rows are marked. -/
def RetM2 (m : Int) (n n' : Nat) (a a' : Option Addr) (lo : Nat) (w : World) (e : Ending) (w' : World) : Prop :=
  e = .returned (.int .i64 (m + n + n')) ∧ Own w' lo a (marks m n) ∧ Own w' lo a' (marks (m + n) n') ∧ ∃ wm row row', w.grownBy wm row ∧ wm.grownBy w' row' ∧ (∀ g, row = some g → 0 < n ∧ a = some ⟨g, 0, none⟩) ∧ (∀ g, row' = some g → 0 < n' ∧ a' = some ⟨g, 0, none⟩)
theorem apart_symm {a a' : Option Addr} {xs xs' : List Int} (h : Apart a a' xs xs') : Apart a' a xs' xs := by
  rcases h with h | h | h
  · exact .inr (.inl h)
  · exact .inl h
  · exact .inr (.inr (Ne.symm h))
theorem own_grownA {w w' : World} {lo : Nat} {a a' : Option Addr} {xs ys zs : List Int} {n : Nat} {row : Option Nat} (h : Own w lo a' zs) (hz : zs.length = ys.length) (hg : w.grownBy w' row) (hap : Apart a' a ys xs) (hn : n = xs.length) (hrow : ∀ g, row = some g → 0 < n ∧ a = some ⟨g, 0, none⟩) : Own w' lo a' zs := by
  rcases h with h | ⟨g, e, hl, hr⟩
  · exact .inl h
  · by_cases hy : zs = []
    · exact .inl hy
    · refine .inr ⟨g, e, hl, hr.keep (hg.block g hr.lt (fun e2 => ?_))⟩
      obtain ⟨h1, h2⟩ := hrow g e2.symm
      rcases hap with h3 | h3 | h3
      · rw [h3] at hz; exact hy (List.eq_nil_of_length_eq_zero hz)
      · subst hn; rw [h3] at h1; simp at h1
      · exact h3 (by rw [h2, e])
theorem and_no {a b : Bool} (h : a = false) : (a && b) = false := by rw [h]; rfl

set_option maxHeartbeats 1000000 in
theorem iValidE (s : Int) (a : Option Addr) (xs : List Int) (c : Nat) (x : Int) (s' : Int) (a' : Option Addr) (xs' : List Int) (c' : Nat) (x' : Int) (w : World) (B : Nat) (hB : B ≤ w.heap.size) (hl : xs.length ≤ 9223372036854775807) (hl' : xs'.length ≤ 9223372036854775807) (hx : Ints w B a xs) (hx' : Ints w B a' xs') :
    Calls Tryd.prog 95 #[.agg #[.int .i64 s, .slice a xs.length c, .int .i64 x, .int .i64 s', .slice a' xs'.length c', .int .i64 x']] w (RetB (.bool (dyB s xs x && dyB s' xs' x')) w) := by
  have W0 := Lib.hid (one_box w 70 #[.int .i64 s, .slice a xs.length c, .int .i64 x, .int .i64 s', .slice a' xs'.length c', .int .i64 x'])
  have H1 := Lib.hid (show ∀ W, Below w.heap.size w W → Calls Tryd.prog 133 #[.agg #[.int .i64 s, .slice a xs.length c, .int .i64 x]] W (RetB (.bool (dyB s xs x)) W) from fun W hW => iIsDyadic s a xs c x W B (by have := hW.size; omega) hl (hx.below (hW.mono hB)))
  have H2 := Lib.hid (show ∀ W, Below w.heap.size w W → Calls Tryd.prog 133 #[.agg #[.int .i64 s', .slice a' xs'.length c', .int .i64 x']] W (RetB (.bool (dyB s' xs' x')) W) from fun W hW => iIsDyadic s' a' xs' c' x' W B (by have := hW.size; omega) hl' (hx'.below (hW.mono hB)))
  obtain ⟨k1, k2, k3, k4, k5, k6⟩ := W0.out.1.six
  clear hx hx' hl hl' hB
  cases h1 : dyB s xs x
  · rw [h1] at H1
    rw [and_no rfl]
    clear h1
    go_enter Tryd.func95, Tryd.ntmps95
    go_wp2_with fail
    refine (H1.out _ W0.out.2.1).mono ?_
    rintro e w1 ⟨rfl, hb⟩
    have HB := Lib.hid (show Below w.heap.size w w1 from W0.out.2.1.trans (hb.mono (by have := W0.out.2.2; omega)))
    clear hb k1 k2 k3 k4 k5 k6
    go_wp2_with fail
    go_ret
    exact ⟨rfl, HB.out⟩
  · rw [h1] at H1
    rw [Bool.true_and]
    clear h1
    obtain ⟨v, hv⟩ : ∃ v, v = dyB s' xs' x' := ⟨_, rfl⟩
    rw [← hv] at H2 ⊢
    clear hv
    go_enter Tryd.func95, Tryd.ntmps95
    go_wp2_with fail
    refine (H1.out _ W0.out.2.1).mono ?_
    rintro e w1 ⟨rfl, hb⟩
    have HB := Lib.hid (show Below w.heap.size w w1 from W0.out.2.1.trans (hb.mono (by have := W0.out.2.2; omega)))
    clear k1 k2 k3 k4 k5 k6
    obtain ⟨k1, k2, k3, k4, k5, k6⟩ := (W0.out.1.below hb).six
    clear hb
    go_wp2_with fail
    refine (H2.out _ HB.out).mono ?_
    rintro e w2 ⟨rfl, hb⟩
    have HB2 := Lib.hid (show Below w.heap.size w w2 from HB.out.trans (hb.mono HB.out.size))
    clear hb k1 k2 k3 k4 k5 k6
    go_wp2_with fail
    go_ret
    exact ⟨rfl, HB2.out⟩

set_option maxHeartbeats 1000000 in
theorem sPairE (s : Int) (a : Option Addr) (xs : List Int) (c : Nat) (x : Int) (s' : Int) (a' : Option Addr) (xs' : List Int) (c' : Nat) (x' : Int) (w : World) (B : Nat) (hB : B ≤ w.heap.size) (hl : xs.length ≤ 9223372036854775807) (hl' : xs'.length ≤ 9223372036854775807) (hx : Ints w B a xs) (hx' : Ints w B a' xs') :
    Calls Tryd.prog 93 #[.agg #[.int .i64 s, .slice a xs.length c, .int .i64 x, .int .i64 s', .slice a' xs'.length c', .int .i64 x']] w (RetB (.bool (dyB s xs x && dyB s' xs' x')) w) := by
  have W0 := Lib.hid (one_box w 70 #[.int .i64 s, .slice a xs.length c, .int .i64 x, .int .i64 s', .slice a' xs'.length c', .int .i64 x'])
  have H1 := Lib.hid (show ∀ W, Below w.heap.size w W → Calls Tryd.prog 87 #[.agg #[.int .i64 s, .slice a xs.length c, .int .i64 x]] W (RetB (.bool (dyB s xs x)) W) from fun W hW => sDy s a xs c x W B (by have := hW.size; omega) hl (hx.below (hW.mono hB)))
  have H2 := Lib.hid (show ∀ W, Below w.heap.size w W → Calls Tryd.prog 87 #[.agg #[.int .i64 s', .slice a' xs'.length c', .int .i64 x']] W (RetB (.bool (dyB s' xs' x')) W) from fun W hW => sDy s' a' xs' c' x' W B (by have := hW.size; omega) hl' (hx'.below (hW.mono hB)))
  obtain ⟨k1, k2, k3, k4, k5, k6⟩ := W0.out.1.six
  clear hx hx' hl hl' hB
  cases h1 : dyB s xs x
  · rw [h1] at H1
    rw [and_no rfl]
    clear h1
    go_enter Tryd.func93, Tryd.ntmps93
    go_wp2_with fail
    refine (H1.out _ W0.out.2.1).mono ?_
    rintro e w1 ⟨rfl, hb⟩
    have HB := Lib.hid (show Below w.heap.size w w1 from W0.out.2.1.trans (hb.mono (by have := W0.out.2.2; omega)))
    clear hb k1 k2 k3 k4 k5 k6
    go_wp2_with fail
    go_ret
    exact ⟨rfl, HB.out⟩
  · rw [h1] at H1
    rw [Bool.true_and]
    clear h1
    obtain ⟨v, hv⟩ : ∃ v, v = dyB s' xs' x' := ⟨_, rfl⟩
    rw [← hv] at H2 ⊢
    clear hv
    go_enter Tryd.func93, Tryd.ntmps93
    go_wp2_with fail
    refine (H1.out _ W0.out.2.1).mono ?_
    rintro e w1 ⟨rfl, hb⟩
    have HB := Lib.hid (show Below w.heap.size w w1 from W0.out.2.1.trans (hb.mono (by have := W0.out.2.2; omega)))
    clear k1 k2 k3 k4 k5 k6
    obtain ⟨k1, k2, k3, k4, k5, k6⟩ := (W0.out.1.below hb).six
    clear hb
    go_wp2_with fail
    refine (H2.out _ HB.out).mono ?_
    rintro e w2 ⟨rfl, hb⟩
    have HB2 := Lib.hid (show Below w.heap.size w w2 from HB.out.trans (hb.mono HB.out.size))
    clear hb k1 k2 k3 k4 k5 k6
    go_wp2_with fail
    go_ret
    exact ⟨rfl, HB2.out⟩

def zv (r : Int × List Int × Int) : Int := r.1 * (val (r.2.1.map Int.toNat) : Int)
/-- The sum of both parts' squares. -/
noncomputable def sqF (p q : Int × List Int × Int) : Int × List Int × Int × Int := @ite _ (dyB p.1 p.2.1 p.2.2 = true ∧ dyB q.1 q.2.1 q.2.2 = true) (Classical.propDecidable _) (fitY (addW (zv p) p.2.2 (zv q) q.2.2)) (0, [], 0, 3)
noncomputable def sqY (s : Int) (xs : List Int) (x : Int) (s' : Int) (xs' : List Int) (x' : Int) : Int × List Int × Int × Int :=
  @ite _ (dyB s xs x = true ∧ dyB s' xs' x' = true) (Classical.propDecidable _) (sqF (mulW (zv (s, xs, x)) x (zv (s, xs, x)) x) (mulW (zv (s', xs', x')) x' (zv (s', xs', x')) x')) (0, [], 0, 1)
theorem sqF_yes {p q : Int × List Int × Int} (h1 : dyB p.1 p.2.1 p.2.2 = true) (h2 : dyB q.1 q.2.1 q.2.2 = true) : sqF p q = fitY (addW (zv p) p.2.2 (zv q) q.2.2) := by unfold sqF; rw [if_pos ⟨h1, h2⟩]
theorem sqF_no {p q : Int × List Int × Int} (h : ¬ (dyB p.1 p.2.1 p.2.2 = true ∧ dyB q.1 q.2.1 q.2.2 = true)) : sqF p q = (0, [], 0, 3) := by unfold sqF; rw [if_neg h]
theorem sqF_len (p q : Int × List Int × Int) : (sqF p q).2.1.length ≤ 200 := by
  unfold sqF
  split
  · exact fitY_len _
  · simp
theorem sqY_yes {s : Int} {xs : List Int} {x : Int} {s' : Int} {xs' : List Int} {x' : Int} (h1 : dyB s xs x = true) (h2 : dyB s' xs' x' = true) :
    sqY s xs x s' xs' x' = sqF (mulW (zv (s, xs, x)) x (zv (s, xs, x)) x) (mulW (zv (s', xs', x')) x' (zv (s', xs', x')) x') := by unfold sqY; rw [if_pos ⟨h1, h2⟩]
theorem sqY_no {s : Int} {xs : List Int} {x : Int} {s' : Int} {xs' : List Int} {x' : Int} (h : ¬ (dyB s xs x = true ∧ dyB s' xs' x' = true)) : sqY s xs x s' xs' x' = (0, [], 0, 1) := by unfold sqY; rw [if_neg h]
theorem sqY_len (s : Int) (xs : List Int) (x : Int) (s' : Int) (xs' : List Int) (x' : Int) : (sqY s xs x s' xs' x').2.1.length ≤ 200 := by
  unfold sqY
  split
  · exact sqF_len _ _
  · simp
theorem zv_lim (s x : Int) (m : Nat) : zv (s, lim m, x) = s * (m : Int) := by unfold zv; simp only; rw [val_lim]
theorem both_no {a b : Bool} (h : ¬ (a = true ∧ b = true)) : (a && b) = false := by
  cases a <;> cases b <;> simp_all
/-- The form of a product. -/
theorem mulW_form {s x t y : Int} {m n : Nat} (hs : Sg s m) (ht : Sg t n) (hm : (lim m).length ≤ 200) (hn : (lim n).length ≤ 200) : ∃ r k z, mulW (s * (m : Int)) x (t * (n : Int)) y = (r, lim k, z) ∧ Sg r k ∧ (lim k).length ≤ 400 := by
  obtain ⟨r, k, z, h1, h2, h3, _⟩ := redZ_form (s * (m : Int) * (t * (n : Int))) (x + y)
  refine ⟨r, k, z, h1, h2, Nat.le_trans (lim_le_of_le h3) ?_⟩
  rw [Int.natAbs_mul, hs.abs, ht.abs]
  have := lim_mul_len m n
  omega
theorem dyB_exp {s x : Int} {xs : List Int} (h : dyB s xs x = true) : -5000 ≤ x ∧ x ≤ 5000 := ⟨(dyB_iff.1 h).2.1, (dyB_iff.1 h).2.2.1⟩
theorem dyB_len {s x : Int} {m : Nat} (h : dyB s (lim m) x = true) : (lim m).length ≤ 200 := by
  obtain ⟨n, e, h1, _⟩ := isDy_of (dyB_iff.1 h)
  rw [e]
  exact h1

theorem addW_form {s x t y : Int} {m n : Nat} (hs : Sg s m) (ht : Sg t n) (hm : (lim m).length ≤ 400) (hn : (lim n).length ≤ 400) (x1 : -5000 ≤ x) (x2 : x ≤ 5000) (y1 : -5000 ≤ y) (y2 : y ≤ 5000) : ∃ r k z, addW (s * (m : Int)) x (t * (n : Int)) y = (r, lim k, z) ∧ Sg r k ∧ (lim k).length ≤ 4000 := by
  obtain ⟨r, k, z, h1, h2, h3, _⟩ := redZ_form (shZ (s * (m : Int)) (x - min x y) + shZ (t * (n : Int)) (y - min x y)) (min x y)
  refine ⟨r, k, z, h1, h2, Nat.le_trans (lim_le_of_le h3) ?_⟩
  have a1 := shZ_up_len (z := s * (m : Int)) (k := x - min x y) (by omega)
  have a2 := shZ_up_len (z := t * (n : Int)) (k := y - min x y) (by omega)
  rw [hs.abs] at a1
  rw [ht.abs] at a2
  have a3 := Int.natAbs_add_le (shZ (s * (m : Int)) (x - min x y)) (shZ (t * (n : Int)) (y - min x y))
  have a4 := lim_add_len (shZ (s * (m : Int)) (x - min x y)).natAbs (shZ (t * (n : Int)) (y - min x y)).natAbs
  have a5 := lim_le_of_le a3
  omega

/-- A variable that holds an exact complex number of the call's own. -/
structure ResE (W0 W : World) (p : Value) (p1 : Int) (p2 : List Int) (p3 q1 : Int) (q2 : List Int) (q3 : Int) (hi : Nat) : Prop where
  ex : ∃ g a c b d, p = .pointer (some ⟨g, 0, none⟩) ∧ W0.heap.size ≤ g ∧ g < hi ∧ BoxAt W g 70 #[.int .i64 p1, .slice a p2.length c, .int .i64 p3, .int .i64 q1, .slice b q2.length d, .int .i64 q3] ∧ p2.length ≤ c ∧ q2.length ≤ d ∧ Own W W0.heap.size a p2 ∧ Own W W0.heap.size b q2
  bel : Below W0.heap.size W0 W
  size : hi ≤ W.heap.size
theorem ResE.mk1 {W0 W W' : World} {p1 p3 q1 q3 : Int} {p2 q2 : List Int} {a b : Option Addr} {c d : Nat} {lo lo' : Nat} (hb : Below W0.heap.size W0 W) (ho : Own W lo a p2) (hlo : W0.heap.size ≤ lo) (hc : p2.length ≤ c) (ho' : Own W lo' b q2) (hlo' : W0.heap.size ≤ lo') (hd : q2.length ≤ d) (hW : W' = W.alloc (.cells #[.int .i64 p1, .slice a p2.length c, .int .i64 p3, .int .i64 q1, .slice b q2.length d, .int .i64 q3] 70)) :
    ResE W0 W' (.pointer (some ⟨W.heap.size, 0, none⟩)) p1 p2 p3 q1 q2 q3 W'.heap.size := by
  subst hW
  exact ⟨⟨W.heap.size, a, c, b, d, rfl, hb.size, by simp, BoxAt.new _ _ _, hc, hd, (ho.mono hlo).alloc _, (ho'.mono hlo').alloc _⟩, hb.alloc hb.size _, Nat.le_refl _⟩
theorem own_boxE {w : World} {lo g : Nat} {a : Option Addr} {xs : List Int} {cs : Array Value} (h : Own w lo a xs) (hb : BoxAt w g 70 cs) (i : Nat) (u : Value) : Own (w.setCell ⟨g, i, none⟩ u) lo a xs := by
  rcases h with h | ⟨g', e, hg, hr⟩
  · exact .inl h
  · refine .inr ⟨g', e, hg, hr.far (p := ⟨g, i, none⟩) (fun hgg => ?_) u⟩
    obtain ⟨cur, hc, _⟩ := hr
    simp only at hgg
    subst hgg
    unfold BoxAt at hb
    rw [hb] at hc
    injection hc with hc
    injection hc with _ hc
    exact absurd hc (by decide)
theorem own_boxE6 {w : World} {lo g : Nat} {a : Option Addr} {xs : List Int} {cs : Array Value} (h : Own w lo a xs) (hb : BoxAt w g 70 cs) (u0 u1 u2 u3 u4 u5 : Value) :
    Own ((((((w.setCell ⟨g, 0, none⟩ u0).setCell ⟨g, 1, none⟩ u1).setCell ⟨g, 2, none⟩ u2).setCell ⟨g, 3, none⟩ u3).setCell ⟨g, 4, none⟩ u4).setCell ⟨g, 5, none⟩ u5) lo a xs := by
  have b1 := hb.set_ 0 u0
  have b2 := b1.set_ 1 u1
  have b3 := b2.set_ 2 u2
  have b4 := b3.set_ 3 u3
  have b5 := b4.set_ 4 u4
  exact own_boxE (own_boxE (own_boxE (own_boxE (own_boxE (own_boxE h hb 0 u0) b1 1 u1) b2 2 u2) b3 3 u3) b4 4 u4) b5 5 u5
theorem below_set6 {W0 W : World} {g : Nat} (h : Below W0.heap.size W0 W) (hg : W0.heap.size ≤ g) (a b c d e f : Value) : Below W0.heap.size W0 ((((((W.setCell ⟨g, 0, none⟩ a).setCell ⟨g, 1, none⟩ b).setCell ⟨g, 2, none⟩ c).setCell ⟨g, 3, none⟩ d).setCell ⟨g, 4, none⟩ e).setCell ⟨g, 5, none⟩ f) := Below.set6 h hg a b c d e f
theorem ResE.mk2 {W0 W : World} {g : Nat} {p1 p3 q1 q3 : Int} {p2 q2 : List Int} {a b : Option Addr} {c d : Nat} {lo lo' : Nat} {v0 v1 v2 v3 v4 v5 : Value} (hx : BoxAt W g 70 #[v0, v1, v2, v3, v4, v5]) (hg : W0.heap.size ≤ g) (hb : Below W0.heap.size W0 W) (ho : Own W lo a p2) (hlo : W0.heap.size ≤ lo) (hc : p2.length ≤ c) (ho' : Own W lo' b q2) (hlo' : W0.heap.size ≤ lo') (hd : q2.length ≤ d) :
    ResE W0 ((((((W.setCell ⟨g, 0, none⟩ (.int .i64 p1)).setCell ⟨g, 1, none⟩ (.slice a p2.length c)).setCell ⟨g, 2, none⟩ (.int .i64 p3)).setCell ⟨g, 3, none⟩ (.int .i64 q1)).setCell ⟨g, 4, none⟩ (.slice b q2.length d)).setCell ⟨g, 5, none⟩ (.int .i64 q3)) (.pointer (some ⟨g, 0, none⟩)) p1 p2 p3 q1 q2 q3 W.heap.size := by
  refine ⟨⟨g, a, c, b, d, rfl, hg, hx.lt, ?_, hc, hd, (own_boxE6 ho hx _ _ _ _ _ _).mono hlo, (own_boxE6 ho' hx _ _ _ _ _ _).mono hlo'⟩, below_set6 hb hg _ _ _ _ _ _, by simp [World.setCell]⟩
  have := (((((hx.set_ 0 (.int .i64 p1)).set_ 1 (.slice a p2.length c)).set_ 2 (.int .i64 p3)).set_ 3 (.int .i64 q1)).set_ 4 (.slice b q2.length d)).set_ 5 (.int .i64 q3)
  simpa using this

end Go.Proofs.YtfjfmlofhifkmaaDoor
