/-
  Contracts of the laws' own helpers over exact complex numbers. Conditions: the limbs can be read.
-/
import Derived.Test.YtpchcigpppdfiaaDoorQa
import Derived.Test.YtpchcigpppdfiaaDoorRa
namespace Go.Proofs.YtpchcigpppdfiaaDoor
set_option linter.unusedVariables false
open Go Go.RowKit

theorem BoxAt.six {w : World} {g : Nat} {t : TypeId} {a b c d e f : Value} (h : BoxAt w g t #[a, b, c, d, e, f]) : w.cell? ⟨g, 0, none⟩ = some a ∧ w.cell? ⟨g, 1, none⟩ = some b ∧ w.cell? ⟨g, 2, none⟩ = some c ∧ w.cell? ⟨g, 3, none⟩ = some d ∧ w.cell? ⟨g, 4, none⟩ = some e ∧ w.cell? ⟨g, 5, none⟩ = some f := ⟨h.cell 0, h.cell 1, h.cell 2, h.cell 3, h.cell 4, h.cell 5⟩
theorem BoxAt.six12 {w : World} {g : Nat} {t : TypeId} {a b c d e f : Value} (h : BoxAt w g t #[a, b, c, d, e, f]) : w.cell? ⟨g, 0, none⟩ = some a ∧ w.cell? ⟨g, 1, none⟩ = some b ∧ w.cell? ⟨g, 2, none⟩ = some c ∧ w.cell? ⟨g, 3, none⟩ = some d ∧ w.cell? ⟨g, 4, none⟩ = some e ∧ w.cell? ⟨g, 5, none⟩ = some f ∧
    w.frozen? ⟨g, 0, none⟩ = false ∧ w.frozen? ⟨g, 1, none⟩ = false ∧ w.frozen? ⟨g, 2, none⟩ = false ∧ w.frozen? ⟨g, 3, none⟩ = false ∧ w.frozen? ⟨g, 4, none⟩ = false ∧ w.frozen? ⟨g, 5, none⟩ = false :=
  ⟨h.cell 0, h.cell 1, h.cell 2, h.cell 3, h.cell 4, h.cell 5, h.frozen 0, h.frozen 1, h.frozen 2, h.frozen 3, h.frozen 4, h.frozen 5⟩
/-- Six cells are written. -/
def set6 (w : World) (g : Nat) (a b c d e f : Value) : World := (((((w.setCell ⟨g, 0, none⟩ a).setCell ⟨g, 1, none⟩ b).setCell ⟨g, 2, none⟩ c).setCell ⟨g, 3, none⟩ d).setCell ⟨g, 4, none⟩ e).setCell ⟨g, 5, none⟩ f
theorem Own.set6 {w : World} {lo : Nat} {u : Option Addr} {xs : List Int} {g : Nat} (h : Own w lo u xs) (hg : g < lo) (a b c d e f : Value) : Own ((((((w.setCell ⟨g, 0, none⟩ a).setCell ⟨g, 1, none⟩ b).setCell ⟨g, 2, none⟩ c).setCell ⟨g, 3, none⟩ d).setCell ⟨g, 4, none⟩ e).setCell ⟨g, 5, none⟩ f) lo u xs :=
  (((Own.set3 h hg a b c).setFar (by simpa using hg) _).setFar (by simpa using hg) _).setFar (by simpa using hg) _
theorem Below.set6 {w W : World} {B g : Nat} (h : Below B w W) (hg : B ≤ g) (a b c d e f : Value) : Below B w ((((((W.setCell ⟨g, 0, none⟩ a).setCell ⟨g, 1, none⟩ b).setCell ⟨g, 2, none⟩ c).setCell ⟨g, 3, none⟩ d).setCell ⟨g, 4, none⟩ e).setCell ⟨g, 5, none⟩ f) :=
  (((Below.set3 h hg a b c).setCell (by simpa using hg) _).setCell (by simpa using hg) _).setCell (by simpa using hg) _

set_option maxHeartbeats 400000 in
theorem szEx_ok (s : Int) (a : Option Addr) (n c : Nat) (x : Int) (s' : Int) (a' : Option Addr) (n' c' : Nat) (x' : Int) (left : Int) (w : World) (h : (n : Int) + (n' : Int) ≤ left) (h0 : left ≤ 1048576) :
    Calls Tryd.prog 22 #[.agg #[.int .i64 s, .slice a n c, .int .i64 x, .int .i64 s', .slice a' n' c', .int .i64 x'], .int .i64 left] w (RetB (.int .i64 (left - n - n')) w) := by
  have H := Lib.hid fun W => szDy_ok s a n c x left W (by omega) h0
  have H2 := Lib.hid fun W => szDy_ok s' a' n' c' x' (left - n) W (by omega) (by omega)
  have h2 : decide (left - (n : Int) < 0) = false := decide_eq_false (by omega)
  have h3 : decide (left - (n : Int) - (n' : Int) < 0) = false := decide_eq_false (by omega)
  have W0 := Lib.hid (one_box w 44 #[.int .i64 s, .slice a n c, .int .i64 x, .int .i64 s', .slice a' n' c', .int .i64 x'])
  obtain ⟨k1, k2, k3, k4, k5, k6⟩ := W0.out.1.six
  clear h h0
  go_enter Tryd.func22, Tryd.ntmps22
  go_wp2_with fail
  refine (H.out _).mono ?_
  rintro e w' ⟨rfl, hb⟩
  clear k1 k2 k3 k4 k5 k6
  obtain ⟨k1, k2, k3, k4, k5, k6⟩ := (W0.out.1.below hb).six
  have HB := Lib.hid (show Below w.heap.size w w' from W0.out.2.1.trans (hb.mono (by have := W0.out.2.2; omega)))
  clear hb
  go_wp2_with fail
  refine (H2.out _).mono ?_
  rintro e w2 ⟨rfl, hb⟩
  clear k1 k2 k3 k4 k5 k6
  have HB2 := Lib.hid (show Below w.heap.size w w2 from HB.out.trans (hb.mono HB.out.size))
  clear hb
  go_wp2_with fail
  go_ret
  exact ⟨rfl, HB2.out⟩
set_option maxHeartbeats 400000 in
theorem szEx_no (s : Int) (a : Option Addr) (n c : Nat) (x : Int) (s' : Int) (a' : Option Addr) (n' c' : Nat) (x' : Int) (left : Int) (w : World) (h : left < (n : Int) + (n' : Int)) (hn : n ≤ 9223372036854775807) (hn' : n' ≤ 9223372036854775807) (h0 : left ≤ 1048576) (h1 : 0 ≤ left) :
    Calls Tryd.prog 22 #[.agg #[.int .i64 s, .slice a n c, .int .i64 x, .int .i64 s', .slice a' n' c', .int .i64 x'], .int .i64 left] w (RetB (.int .i64 (-1)) w) := by
  have W0 := Lib.hid (one_box w 44 #[.int .i64 s, .slice a n c, .int .i64 x, .int .i64 s', .slice a' n' c', .int .i64 x'])
  obtain ⟨k1, k2, k3, k4, k5, k6⟩ := W0.out.1.six
  by_cases hf : (n : Int) ≤ left
  · have H := Lib.hid fun W => szDy_ok s a n c x left W hf h0
    have H2 := Lib.hid fun W => szDy_no s' a' n' c' x' (left - n) W (by omega) hn' (by omega) (by omega)
    have h2 : decide (left - (n : Int) < 0) = false := decide_eq_false (by omega)
    clear h h0 hn hn' h1 hf
    go_enter Tryd.func22, Tryd.ntmps22
    go_wp2_with fail
    refine (H.out _).mono ?_
    rintro e w' ⟨rfl, hb⟩
    clear k1 k2 k3 k4 k5 k6
    obtain ⟨k1, k2, k3, k4, k5, k6⟩ := (W0.out.1.below hb).six
    have HB := Lib.hid (show Below w.heap.size w w' from W0.out.2.1.trans (hb.mono (by have := W0.out.2.2; omega)))
    clear hb
    go_wp2_with fail
    refine (H2.out _).mono ?_
    rintro e w2 ⟨rfl, hb⟩
    clear k1 k2 k3 k4 k5 k6
    have HB2 := Lib.hid (show Below w.heap.size w w2 from HB.out.trans (hb.mono HB.out.size))
    clear hb
    go_wp2_with fail
    go_ret
    exact ⟨rfl, HB2.out⟩
  · have H := Lib.hid fun W => szDy_no s a n c x left W (by omega) hn h0 h1
    clear h h0 hn hn' h1 hf
    go_enter Tryd.func22, Tryd.ntmps22
    go_wp2_with fail
    refine (H.out _).mono ?_
    rintro e w' ⟨rfl, hb⟩
    clear k1 k2 k3 k4 k5 k6
    have HB := Lib.hid (show Below w.heap.size w w' from W0.out.2.1.trans (hb.mono (by have := W0.out.2.2; omega)))
    clear hb
    go_wp2_with fail
    go_ret
    exact ⟨rfl, HB.out⟩

/-- The call returned an exact complex number in new memory. -/
def RetE (s : Int) (xs : List Int) (x : Int) (s' : Int) (xs' : List Int) (x' : Int) (w : World) (e : Ending) (w' : World) : Prop :=
  ∃ a c a' c', e = .returned (.agg #[.int .i64 s, .slice a xs.length c, .int .i64 x, .int .i64 s', .slice a' xs'.length c', .int .i64 x']) ∧ xs.length ≤ c ∧ xs'.length ≤ c' ∧ Own w' w.heap.size a xs ∧ Own w' w.heap.size a' xs' ∧ Apart a a' xs xs' ∧ Below w.heap.size w w'
/-- Rows of two times lie apart. -/
theorem apart_of {w w' : World} {lo : Nat} {a a' : Option Addr} {xs xs' : List Int} (h : Own w lo a xs) (h' : Own w' w.heap.size a' xs') : Apart a a' xs xs' := by
  rcases h with h | ⟨g, e, hg, hr⟩
  · exact .inl h
  · rcases h' with h' | ⟨g', e', hg', hr'⟩
    · exact .inr (.inl h')
    · refine .inr (.inr fun hh => ?_)
      rw [e, e'] at hh
      simp at hh
      have := hr.lt
      omega

set_option maxHeartbeats 2000000 in
theorem toExact (s : Int) (a : Option Addr) (xs : List Int) (c : Nat) (x : Int) (s' : Int) (a' : Option Addr) (xs' : List Int) (c' : Nat) (x' : Int) (w : World) (B : Nat) (hB : B ≤ w.heap.size) (hl : xs.length ≤ 1048576) (hl' : xs'.length ≤ 1048576) (hx : Ints w B a xs) (hx' : Ints w B a' xs') :
    Calls Tryd.prog 24 #[.agg #[.int .i64 s, .slice a xs.length c, .int .i64 x, .int .i64 s', .slice a' xs'.length c', .int .i64 x']] w (RetE s xs x s' xs' x' w) := by
  obtain ⟨W0, hW0⟩ : ∃ W0 : World, ((w.alloc (.cells #[.int .i64 s, .slice a xs.length c, .int .i64 x, .int .i64 s', .slice a' xs'.length c', .int .i64 x'] 44)).alloc (.cells #[.int .i64 0, .slice none 0 0, .int .i64 0, .int .i64 0, .slice none 0 0, .int .i64 0] 49)).alloc (.cells #[.int .i64 0, .slice none 0 0, .int .i64 0, .int .i64 0, .slice none 0 0, .int .i64 0] 49) = W0 := ⟨_, rfl⟩
  obtain ⟨p1, p2, p5, p3, p4⟩ := three_boxT w 44 49 49 #[.int .i64 s, .slice a xs.length c, .int .i64 x, .int .i64 s', .slice a' xs'.length c', .int .i64 x'] #[.int .i64 0, .slice none 0 0, .int .i64 0, .int .i64 0, .slice none 0 0, .int .i64 0] #[.int .i64 0, .slice none 0 0, .int .i64 0, .int .i64 0, .slice none 0 0, .int .i64 0]
  rw [hW0] at p1 p2 p3 p4 p5
  have HW0 := Lib.hid hW0
  have P3 := Lib.hid p3
  have P4 := Lib.hid p4
  have P1 := Lib.hid (fun W (hW : Below W0.heap.size W0 W) => (p1.below hW).six)
  have P2 := Lib.hid (fun W (hW : Below W0.heap.size W0 W) => p2.below hW)
  have P5 := Lib.hid (fun W (hW : Below W0.heap.size W0 W) => p5.below hW)
  have hT : Below W0.heap.size W0 W0 := Below.refl _ _
  have H := Lib.hid (show ∀ W, Below W0.heap.size W0 W → Calls Tryd.prog 31 #[.agg #[.int .i64 s, .slice a xs.length c, .int .i64 x]] W fun e w' => ∃ a' c', e = .returned (.agg #[.int .i64 s, .slice a' xs.length c', .int .i64 x]) ∧ xs.length ≤ c' ∧ Own w' W0.heap.size a' xs ∧ Below W0.heap.size W0 w' from
    fun W hW => (toDyadic s a xs c x W B (by have := hW.size; omega) hl (hx.below ((p3.mono hB).trans (hW.mono (by omega))))).mono fun e w' ⟨a', c', he, hc, ho, hb⟩ => ⟨a', c', he, hc, ho.mono hW.size, hW.trans (hb.mono hW.size)⟩)
  have H2 := Lib.hid (show ∀ W, Below w.heap.size w W → Calls Tryd.prog 31 #[.agg #[.int .i64 s', .slice a' xs'.length c', .int .i64 x']] W fun e w' => ∃ a c', e = .returned (.agg #[.int .i64 s', .slice a xs'.length c', .int .i64 x']) ∧ xs'.length ≤ c' ∧ Own w' W.heap.size a xs' ∧ Below W.heap.size W w' from
    fun W hW => (toDyadic s' a' xs' c' x' W B (by have := hW.size; omega) hl' (hx'.below (hW.mono hB))).mono fun e w' ⟨a', c', he, hc, ho, hb⟩ => ⟨a', c', he, hc, ho, hb⟩)
  obtain ⟨k1, k2, k3, k4, k5, k6⟩ := P1.out _ hT
  have hbox1 := p1
  clear p1 p2 p3 p4 p5 hx hx' hl hl' hB hW0
  go_enter Tryd.func24, Tryd.ntmps24
  go_wp2_with fail
  rw [HW0.out]
  refine (H.out _ hT).mono ?_
  rintro e w1 ⟨a1, d1, rfl, hd1, hown, hb⟩
  have HO := Lib.hid hown
  have HB := Lib.hid hb
  have HC := Lib.hid hd1
  clear k1 k2 k3 k4 k5 k6
  obtain ⟨k1, k2, k3, k4, k5, k6⟩ := P1.out _ hb
  have hr := P5.out _ hb
  obtain ⟨r1, r2, r3, r4, r5, r6, r7, r8, r9, r10, r11, r12⟩ := hr.six12
  have hq := P2.out _ hb
  have hsz := hb.size
  have hsz0 := P4.out
  obtain ⟨V, hV⟩ : ∃ V : World, ((w1.setCell ⟨w.heap.size + 1 + 1, 0, none⟩ (.int .i64 s)).setCell ⟨w.heap.size + 1 + 1, 1, none⟩ (.slice a1 xs.length d1)).setCell ⟨w.heap.size + 1 + 1, 2, none⟩ (.int .i64 x) = V := ⟨_, rfl⟩
  have v1 := ((hr.set_ 0 (.int .i64 s)).set_ 1 (.slice a1 xs.length d1)).set_ 2 (.int .i64 x)
  have v2 := ((hq.far (p := ⟨w.heap.size + 1 + 1, 0, none⟩) (by simp) (.int .i64 s)).far (p := ⟨w.heap.size + 1 + 1, 1, none⟩) (by simp) (.slice a1 xs.length d1)).far (p := ⟨w.heap.size + 1 + 1, 2, none⟩) (by simp) (.int .i64 x)
  have v3 := Own.set3 hown (g := w.heap.size + 1 + 1) (by omega) (.int .i64 s) (.slice a1 xs.length d1) (.int .i64 x)
  have v4 := Below.set3 (P3.out.trans (hb.mono (by omega))) (g := w.heap.size + 1 + 1) (by omega) (.int .i64 s) (.slice a1 xs.length d1) (.int .i64 x)
  have v5 : V.heap.size = w1.heap.size := by rw [← hV]; simp [World.setCell]
  have v6 := ((P1.out _ hb))
  simp at v1
  rw [hV] at v1 v2 v3 v4
  have q0 : ∀ W, Below V.heap.size V W → (W.cell? ⟨w.heap.size, 0, none⟩ = V.cell? ⟨w.heap.size, 0, none⟩) := fun W hW => hW.cell (by show w.heap.size < _; omega)
  have p1V : BoxAt V w.heap.size 44 #[.int .i64 s, .slice a xs.length c, .int .i64 x, .int .i64 s', .slice a' xs'.length c', .int .i64 x'] := by
    have h := ((hbox1.below hb).far (p := ⟨w.heap.size + 1 + 1, 0, none⟩) (by simp; omega) (.int .i64 s)).far (p := ⟨w.heap.size + 1 + 1, 1, none⟩) (by simp; omega) (.slice a1 xs.length d1) |>.far (p := ⟨w.heap.size + 1 + 1, 2, none⟩) (by simp; omega) (.int .i64 x)
    rwa [hV] at h
  obtain ⟨m1, m2, m3, m4, m5, m6⟩ := p1V.six
  have HV := Lib.hid hV
  have HV4 := Lib.hid v4
  clear hown hb hd1 hq hr v6 q0 hV
  go_wp2_with fail
  rw [HV.out]
  refine (H2.out _ v4).mono ?_
  rintro e w2 ⟨a2, d2, rfl, hd2, ho2, hb2⟩
  have u1 := v1.below hb2
  have u2 := v2.below hb2
  have u3 := v3.below hb2
  have u4 := v4.trans (hb2.mono v4.size)
  have u5 := hb2.size
  have HU3 := Lib.hid u3
  have HU4 := Lib.hid u4
  have HO2 := Lib.hid ho2
  have HD2 := Lib.hid hd2
  have HAP := Lib.hid (show Apart a1 a2 xs xs' from apart_of v3 ho2)
  clear r1 r2 r3 r4 r5 r6 r7 r8 r9 r10 r11 r12 k1 k2 k3 k4 k5 k6 m1 m2 m3 m4 m5 m6 p1V v1 v2 v3 v4 ho2 hb2 hd2 u3 u4
  obtain ⟨r1, r2, r3, r4, r5, r6, r7, r8, r9, r10, r11, r12⟩ := u1.six12
  obtain ⟨q1, q2, q3, q4, q5, q6, q7, q8, q9, q10, q11, q12⟩ := u2.six12
  clear u1 u2
  go_wp2_with fail
  refine bodyPost_ret (v := .agg #[.int .i64 s, .slice a1 xs.length d1, .int .i64 x, .int .i64 s', .slice a2 xs'.length d2, .int .i64 x']) (by simp [results, Tryd.results24, go_sem, *]) rfl ⟨a1, d1, a2, d2, rfl, HC.out, HD2.out, ?_, ?_, HAP.out, ?_⟩
  · exact (Own.set6 (g := w.heap.size + 1) (((HU3.out.setFar (p := ⟨w.heap.size + 1 + 1, 3, none⟩) (by show w.heap.size + 1 + 1 < _; omega) _).setFar (p := ⟨w.heap.size + 1 + 1, 4, none⟩) (by show w.heap.size + 1 + 1 < _; omega) _).setFar (p := ⟨w.heap.size + 1 + 1, 5, none⟩) (by show w.heap.size + 1 + 1 < _; omega) _) (by omega) _ _ _ _ _ _).mono (by omega)
  · exact (Own.set6 (g := w.heap.size + 1) (((HO2.out.setFar (p := ⟨w.heap.size + 1 + 1, 3, none⟩) (by show w.heap.size + 1 + 1 < _; omega) _).setFar (p := ⟨w.heap.size + 1 + 1, 4, none⟩) (by show w.heap.size + 1 + 1 < _; omega) _).setFar (p := ⟨w.heap.size + 1 + 1, 5, none⟩) (by show w.heap.size + 1 + 1 < _; omega) _) (by omega) _ _ _ _ _ _).mono (by omega)
  · exact Below.set6 (g := w.heap.size + 1) (((HU4.out.setCell (p := ⟨w.heap.size + 1 + 1, 3, none⟩) (by show _ ≤ w.heap.size + 1 + 1; omega) _).setCell (p := ⟨w.heap.size + 1 + 1, 4, none⟩) (by show _ ≤ w.heap.size + 1 + 1; omega) _).setCell (p := ⟨w.heap.size + 1 + 1, 5, none⟩) (by show _ ≤ w.heap.size + 1 + 1; omega) _) (by omega) _ _ _ _ _ _

set_option maxHeartbeats 400000 in
theorem eqExact_yes (s : Int) (a b : Option Addr) (xs : List Int) (n c d : Nat) (x : Int) (s' : Int) (a' b' : Option Addr) (xs' : List Int) (n' c' d' : Nat) (x' : Int) (hn : n = xs.length) (hn' : n' = xs'.length) (w : World) (B B' C C' : Nat) (hB : B ≤ w.heap.size) (hB' : B' ≤ w.heap.size) (hC : C ≤ w.heap.size) (hC' : C' ≤ w.heap.size) (hx : Ints w B a xs) (hy : Ints w C b xs) (hx' : Ints w B' a' xs') (hy' : Ints w C' b' xs') (hl : n ≤ 9223372036854775807) (hl' : n' ≤ 9223372036854775807) :
    Calls Tryd.prog 26 #[.agg #[.int .i64 s, .slice a n c, .int .i64 x, .int .i64 s', .slice a' n' c', .int .i64 x'], .agg #[.int .i64 s, .slice b n d, .int .i64 x, .int .i64 s', .slice b' n' d', .int .i64 x']] w (RetB (.bool true) w) := by
  have H := Lib.hid fun W (hW : Below w.heap.size w W) => eqDyadic_yes s a b xs n c d x hn W B C (by have := hW.size; omega) (by have := hW.size; omega) (hx.below (hW.mono hB)) (hy.below (hW.mono hC)) hl
  have H2 := Lib.hid fun W (hW : Below w.heap.size w W) => eqDyadic_yes s' a' b' xs' n' c' d' x' hn' W B' C' (by have := hW.size; omega) (by have := hW.size; omega) (hx'.below (hW.mono hB')) (hy'.below (hW.mono hC')) hl'
  clear hx hy hl hn hx' hy' hl' hn' hB hB' hC hC'
  obtain ⟨p1, p2, p3, p4⟩ := two_boxT w 49 49 #[.int .i64 s, .slice a n c, .int .i64 x, .int .i64 s', .slice a' n' c', .int .i64 x'] #[.int .i64 s, .slice b n d, .int .i64 x, .int .i64 s', .slice b' n' d', .int .i64 x']
  have P1 := Lib.hid p1
  have P2 := Lib.hid p2
  have P3 := Lib.hid p3
  have P4 := Lib.hid p4
  clear p1 p2 p3 p4
  obtain ⟨k1, k2, k3, k4, k5, k6⟩ := P1.out.six
  obtain ⟨m1, m2, m3, m4, m5, m6⟩ := P2.out.six
  go_enter Tryd.func26, Tryd.ntmps26
  go_wp2_with fail
  refine (H.out _ P3.out).mono ?_
  rintro e w1 ⟨rfl, hb⟩
  clear k1 k2 k3 k4 k5 k6 m1 m2 m3 m4 m5 m6
  obtain ⟨k1, k2, k3, k4, k5, k6⟩ := (P1.out.below hb).six
  obtain ⟨m1, m2, m3, m4, m5, m6⟩ := (P2.out.below hb).six
  have HB := Lib.hid (show Below w.heap.size w w1 from P3.out.trans (hb.mono (by have := P4.out; omega)))
  clear hb
  go_wp2_with fail
  refine (H2.out _ HB.out).mono ?_
  rintro e w2 ⟨rfl, hb⟩
  clear k1 k2 k3 k4 k5 k6 m1 m2 m3 m4 m5 m6
  have HB2 := Lib.hid (show Below w.heap.size w w2 from HB.out.trans (hb.mono HB.out.size))
  clear hb
  go_wp2_with fail
  go_ret
  exact ⟨rfl, HB2.out⟩

/-- Two rows are marked. -/
def RetM2 (m : Int) (n n' : Nat) (a a' : Option Addr) (lo : Nat) (w : World) (e : Ending) (w' : World) : Prop :=
  e = .returned (.int .i64 (m + n + n')) ∧ Own w' lo a (marks m n) ∧ Own w' lo a' (marks (m + n) n') ∧ ∃ wm row row', w.grownBy wm row ∧ wm.grownBy w' row' ∧ (∀ g, row = some g → 0 < n ∧ a = some ⟨g, 0, none⟩) ∧ (∀ g, row' = some g → 0 < n' ∧ a' = some ⟨g, 0, none⟩)
theorem apart_symm {a a' : Option Addr} {xs xs' : List Int} (h : Apart a a' xs xs') : Apart a' a xs' xs := by
  rcases h with h | h | h
  · exact .inr (.inl h)
  · exact .inl h
  · exact .inr (.inr (Ne.symm h))
theorem own_grownA {w w' : World} {lo : Nat} {a a' : Option Addr} {xs ys zs : List Int} {n : Nat} {row : Option Nat} (h : Own w lo a' zs) (hz : zs.length = ys.length) (hg : w.grownBy w' row) (hap : Apart a' a ys xs) (hn : n = xs.length) (hrow : ∀ g, row = some g → 0 < n ∧ a = some ⟨g, 0, none⟩) : Own w' lo a' zs := by
  rcases h with h | ⟨g, e, hl, hr⟩
  · exact .inl h
  · by_cases hy : zs = []
    · exact .inl hy
    · refine .inr ⟨g, e, hl, hr.keep (hg.block g hr.lt (fun e2 => ?_))⟩
      obtain ⟨h1, h2⟩ := hrow g e2.symm
      rcases hap with h3 | h3 | h3
      · rw [h3] at hz; exact hy (List.eq_nil_of_length_eq_zero hz)
      · subst hn; rw [h3] at h1; simp at h1
      · exact h3 (by rw [h2, e])
set_option maxHeartbeats 400000 in
theorem markExact (s : Int) (a : Option Addr) (xs : List Int) (c : Nat) (x : Int) (s' : Int) (a' : Option Addr) (xs' : List Int) (c' : Nat) (x' : Int) (m : Int) (w : World) (lo : Nat) (hl : xs.length ≤ 2305843009213693951) (hl' : xs'.length ≤ 2305843009213693951) (hx : Own w lo a xs) (hx' : Own w lo a' xs') (hap : Apart a a' xs xs') (hm0 : 0 ≤ m) (hm : m ≤ 2305843009213693951) :
    Calls Tryd.prog 27 #[.agg #[.int .i64 s, .slice a xs.length c, .int .i64 x, .int .i64 s', .slice a' xs'.length c', .int .i64 x'], .int .i64 m] w (RetM2 m xs.length xs'.length a a' lo w) := by
  obtain ⟨W0, hW0⟩ : ∃ W0 : World, w.alloc (.cells #[.int .i64 s, .slice a xs.length c, .int .i64 x, .int .i64 s', .slice a' xs'.length c', .int .i64 x'] 49) = W0 := ⟨_, rfl⟩
  obtain ⟨p1, p2, p3⟩ := one_box w 49 #[.int .i64 s, .slice a xs.length c, .int .i64 x, .int .i64 s', .slice a' xs'.length c', .int .i64 x']
  have hx0 := hx.alloc (.cells #[.int .i64 s, .slice a xs.length c, .int .i64 x, .int .i64 s', .slice a' xs'.length c', .int .i64 x'] 49)
  have hx0' := hx'.alloc (.cells #[.int .i64 s, .slice a xs.length c, .int .i64 x, .int .i64 s', .slice a' xs'.length c', .int .i64 x'] 49)
  rw [hW0] at p1 p2 p3 hx0 hx0'
  have HW0 := Lib.hid hW0
  have hlt : lo ≤ w.heap.size ∨ True := .inr trivial
  have H := Lib.hid (markDyadic s a xs c x m W0 lo (by omega) hx0 hm0 (by omega))
  have H2 := Lib.hid (show ∀ W, Own W lo a' xs' → Calls Tryd.prog 70 #[.agg #[.int .i64 s', .slice a' xs'.length c', .int .i64 x'], .int .i64 (m + xs.length)] W (RetM (m + xs.length) xs'.length a' lo W) from fun W ho => markDyadic s' a' xs' c' x' (m + xs.length) W lo (by omega) ho (by omega) (by omega))
  have HX' := Lib.hid hx0'
  have HP1 := Lib.hid p1
  have HX := Lib.hid hx
  have HX2 := Lib.hid hx'
  have HAP := Lib.hid hap
  have HP2 := Lib.hid p2
  have HP3 := Lib.hid p3
  obtain ⟨k1, k2, k3, k4, k5, k6⟩ := p1.six
  clear hx0 hx0' p1 hx hx' hap hlt p2 p3 hW0
  go_enter Tryd.func27, Tryd.ntmps27
  go_wp2_with fail
  rw [HW0.out]
  refine H.out.mono ?_
  rintro e w1 ⟨rfl, h1, row, h2, h3⟩
  have hbox : BoxAt w1 w.heap.size 49 #[.int .i64 s, .slice a xs.length c, .int .i64 x, .int .i64 s', .slice a' xs'.length c', .int .i64 x'] := HP1.out.grown h2 (fun hr => by
    obtain ⟨h4, h5⟩ := h3 _ hr.symm
    rcases HX.out with h | ⟨g, e, hg, hrr⟩
    · rw [h] at h4; simp at h4
    · rw [h5] at e; simp at e; have := hrr.lt; omega)
  have ho' := own_grownA (a := a) (xs := xs) (ys := xs') HX'.out rfl h2 (apart_symm HAP.out) rfl h3
  have hgw : w.grownBy w1 row := ⟨h2.os.trans (by rw [← HW0.out]; rfl), h2.tape.trans (by rw [← HW0.out]; rfl), h2.output.trans (by rw [← HW0.out]; rfl), Nat.le_trans (by have := HP3.out; omega) h2.size, fun j hj hne => (h2.block j (by have := HP3.out; omega) hne).trans (by rw [← HW0.out]; exact Below.heap_alloc w _ j hj)⟩
  have G1 := Lib.hid hgw
  have G2 := Lib.hid h3
  have G3 := Lib.hid h1
  have G4 := Lib.hid ho'
  clear k1 k2 k3 k4 k5 k6
  obtain ⟨k1, k2, k3, k4, k5, k6⟩ := hbox.six
  clear h1 h2 h3 hbox ho' hgw
  go_wp2_with fail
  refine (H2.out _ G4.out).mono ?_
  rintro e w2 ⟨rfl, h1, row', h2, h3⟩
  have hf := own_grownA (a := a') (xs := xs') (ys := xs) G3.out (by rw [marks_length]) h2 HAP.out rfl h3
  have G5 := Lib.hid (show RetM2 m xs.length xs'.length a a' lo w (.returned (.int .i64 (m + xs.length + xs'.length))) w2 from ⟨rfl, hf, h1, w1, row, row', G1.out, h2, G2.out, h3⟩)
  clear k1 k2 k3 k4 k5 k6 h1 h2 h3 hf
  go_wp2_with fail
  go_ret
  exact G5.out
set_option maxHeartbeats 400000 in
theorem heldExact (s : Int) (a : Option Addr) (n c : Nat) (x : Int) (s' : Int) (a' : Option Addr) (n' c' : Nat) (x' : Int) (m : Int) (w : World) (B : Nat) (hB : B ≤ w.heap.size) (hl : n ≤ 2305843009213693951) (hl' : n' ≤ 2305843009213693951) (hx : Ints w B a (marks m n)) (hx' : Ints w B a' (marks (m + n) n')) (hm0 : 0 ≤ m) (hm : m ≤ 2305843009213693951) :
    Calls Tryd.prog 28 #[.agg #[.int .i64 s, .slice a n c, .int .i64 x, .int .i64 s', .slice a' n' c', .int .i64 x'], .int .i64 m] w (RetB (.int .i64 (m + n + n')) w) := by
  have H := Lib.hid fun W (hW : Below w.heap.size w W) => heldDyadic s a n c x m W B (by have := hW.size; omega) (by omega) (hx.below (hW.mono hB)) hm0 (by omega)
  have H2 := Lib.hid fun W (hW : Below w.heap.size w W) => heldDyadic s' a' n' c' x' (m + n) W B (by have := hW.size; omega) (by omega) (hx'.below (hW.mono hB)) (by omega) (by omega)
  have h2 : decide (m + (n : Int) < 0) = false := decide_eq_false (by omega)
  have h3 : decide (m + (n : Int) + (n' : Int) < 0) = false := decide_eq_false (by omega)
  have W0 := Lib.hid (one_box w 49 #[.int .i64 s, .slice a n c, .int .i64 x, .int .i64 s', .slice a' n' c', .int .i64 x'])
  obtain ⟨k1, k2, k3, k4, k5, k6⟩ := W0.out.1.six
  clear hx hx' hB hl hl' hm0 hm
  go_enter Tryd.func28, Tryd.ntmps28
  go_wp2_with fail
  refine (H.out _ W0.out.2.1).mono ?_
  rintro e w' ⟨rfl, hb⟩
  clear k1 k2 k3 k4 k5 k6
  obtain ⟨k1, k2, k3, k4, k5, k6⟩ := (W0.out.1.below hb).six
  have HB := Lib.hid (show Below w.heap.size w w' from W0.out.2.1.trans (hb.mono (by have := W0.out.2.2; omega)))
  clear hb
  go_wp2_with fail
  refine (H2.out _ HB.out).mono ?_
  rintro e w2 ⟨rfl, hb⟩
  clear k1 k2 k3 k4 k5 k6
  have HB2 := Lib.hid (show Below w.heap.size w w2 from HB.out.trans (hb.mono HB.out.size))
  clear hb
  go_wp2_with fail
  go_ret
  exact ⟨rfl, HB2.out⟩
end Go.Proofs.YtpchcigpppdfiaaDoor
