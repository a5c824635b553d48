/-
  Contracts: ParseDyadic of the program. Conditions: the text has at most 1048576 bytes.
-/
import Derived.Test.YtpchcigpppdfiabDp
import Derived.Test.YtpchcigpppdfiabDg
import Derived.Test.YtpchcigpppdfiabUj
import Derived.Test.YtpchcigpppdfiabOd
import Derived.Test.YtpchcigpppdfiabQm
namespace Go.Proofs.Ytpchcigpppdfiab
set_option linter.unusedVariables false
open Go Go.RowKit

/-- The exact number of two whole numbers that were read. -/
noncomputable def pdZ (A E : Int × List Int × Int) : Int × List Int × Int × Int :=
  @ite _ (A.2.2 = 0 ∧ E.2.2 = 0 ∧ (intR E.1 E.2.1).2 = 0 ∧ dyB A.1 A.2.1 (intR E.1 E.2.1).1 = true) (Classical.propDecidable _) (A.1, A.2.1, (intR E.1 E.2.1).1, 0) (0, [], 0, 6)
theorem pdZ_yes {A E : Int × List Int × Int} (h : A.2.2 = 0 ∧ E.2.2 = 0 ∧ (intR E.1 E.2.1).2 = 0 ∧ dyB A.1 A.2.1 (intR E.1 E.2.1).1 = true) : pdZ A E = (A.1, A.2.1, (intR E.1 E.2.1).1, 0) := by unfold pdZ; rw [if_pos h]
theorem pdZ_no {A E : Int × List Int × Int} (h : ¬ (A.2.2 = 0 ∧ E.2.2 = 0 ∧ (intR E.1 E.2.1).2 = 0 ∧ dyB A.1 A.2.1 (intR E.1 E.2.1).1 = true)) : pdZ A E = (0, [], 0, 6) := by unfold pdZ; rw [if_neg h]
theorem pdZ_len {A E : Int × List Int × Int} (h : A.2.1.length ≤ 200) : (pdZ A E).2.1.length ≤ 200 := by
  unfold pdZ
  split
  · exact h
  · simp
theorem prR_nil : prR (cutM []).1 (cutM []).2 = (0, [], 6) := by
  apply prR_no
  intro h
  have := dec_ne h.1
  simp [cutM] at this
theorem ne_code {c : Int} (h : c ≠ 0) : (c != 0) = true := by simp [h]

set_option maxRecDepth 100000 in
set_option maxHeartbeats 4000000 in
theorem iPDno (l : List UInt8) (hl : l.length ≤ 1048576) (hp : (112 : UInt8) ∉ l) (w : World) :
    Calls Try.prog 8 #[.string ⟨(l).toArray⟩] w (RetYC ((0, [], 0, 6)) w.heap.size w) := by
  obtain ⟨W0, hW0⟩ : ∃ W0 : World, w.alloc (.cells #[.int .i64 0, .slice none 0 0, .int .i64 0] 26) = W0 := ⟨_, rfl⟩
  obtain ⟨p2, p3, p4⟩ := one_box w 26 #[.int .i64 0, .slice none 0 0, .int .i64 0]
  rw [hW0] at p2 p3 p4
  have HW0 := Lib.hid hW0
  have P3 := Lib.hid p3
  have P4 := Lib.hid p4
  have SR := Lib.hid (show ∀ W, Below W0.heap.size W0 W → _ from fun W hW => (p2.below hW).tri6)
  have hT : Below W0.heap.size W0 W0 := Below.refl _ _
  have HC := Lib.hid (show Calls Try.prog 46 #[.string ⟨l.toArray⟩, .string ⟨#[112]⟩] W0 fun e w' => e = .returned (.tuple #[.string ⟨l.toArray⟩, .string ⟨([] : List UInt8).toArray⟩, .bool false]) ∧ Below W0.heap.size W0 w' from (cutNo l hp W0).mono fun e w' ⟨he, hw⟩ => ⟨he, hw ▸ Below.refl _ _⟩)
  obtain ⟨⟨s1, x1, c1⟩, hA⟩ : ∃ r, r = prR (cutM l).1 (cutM l).2 := ⟨_, rfl⟩
  obtain ⟨⟨s2, x2, c2⟩, hE⟩ : ∃ r, r = prR (cutM ([] : List UInt8)).1 (cutM ([] : List UInt8)).2 := ⟨_, rfl⟩
  have L1 := Lib.hid (show x1.length ≤ 9223372036854775807 from by have := prR_len (cutM l).1 (cutM l).2; rw [← hA] at this; simp only at this; omega)
  have L2 := Lib.hid (show x2.length ≤ 9223372036854775807 from by have := prR_len (cutM ([] : List UInt8)).1 (cutM ([] : List UInt8)).2; rw [← hE] at this; simp only at this; omega)
  have HP1 := Lib.hid (show ∀ W, Below W0.heap.size W0 W → Calls Try.prog 47 #[.string ⟨(l : List UInt8).toArray⟩] W fun e w' => ∃ a c, e = .returned (.tuple #[.agg #[.int .i64 s1, .slice a x1.length c], .int .i64 c1]) ∧ x1.length ≤ c ∧ Own w' W.heap.size a x1 ∧ Below W.heap.size W w' ∧ Below W0.heap.size W0 w' from
    fun W hW => by
      have := iParseWhole l hl W
      rw [← hA] at this
      exact this.mono fun e w' ⟨a, c, he, hc, ho, hb⟩ => ⟨a, c, he, hc, ho, hb, hW.trans (hb.mono hW.size)⟩)
  have HP2 := Lib.hid (show ∀ W, Below W0.heap.size W0 W → Calls Try.prog 47 #[.string ⟨(([] : List UInt8) : List UInt8).toArray⟩] W fun e w' => ∃ a c, e = .returned (.tuple #[.agg #[.int .i64 s2, .slice a x2.length c], .int .i64 c2]) ∧ x2.length ≤ c ∧ Own w' W.heap.size a x2 ∧ Below W.heap.size W w' ∧ Below W0.heap.size W0 w' from
    fun W hW => by
      have := iParseWhole ([] : List UInt8) (by simp) W
      rw [← hE] at this
      exact this.mono fun e w' ⟨a, c, he, hc, ho, hb⟩ => ⟨a, c, he, hc, ho, hb, hW.trans (hb.mono hW.size)⟩)
  rw [prR_nil] at hE
  obtain ⟨rfl, rfl, rfl⟩ : s2 = 0 ∧ x2 = [] ∧ c2 = 6 := by injection hE with h1 h2; injection h2 with h2 h3; exact ⟨h1, h2, h3⟩
  clear hE
  clear p2 p3 p4 hW0
  by_cases k1 : c1 = 0
  rotate_left
  · have hk1 := ne_code k1
    clear k1
    go_enter Try.func8, Try.ntmps8
    go_wp2_with fail
    rw [HW0.out]
    refine HC.out.mono ?_
    rintro e w1 ⟨rfl, hb⟩
    go_wp2_with fail
    refine (HP1.out _ hb).mono ?_
    rintro e w2 ⟨a1, f1, rfl, hc1, ho1, hbb2, hb2⟩
    have hsz2 : w.heap.size < w2.heap.size := by have := hb2.size; have := P4.out; omega
    obtain ⟨q1, q2, q3, q4, q5, q6⟩ := SR.out _ hb2
    go_wp2_with fail
    refine bodyPost_ret (v := .tuple #[.agg #[.int .i64 0, .slice none 0 0, .int .i64 0], .int .i64 6]) (by simp [results, Try.results8, go_sem, *]) rfl ?_
    exact (retYC_zero (g := w.heap.size) 6 P3.out P4.out hb2 (by omega) _ _ _).alloc _
  · subst k1
    go_enter Try.func8, Try.ntmps8
    go_wp2_with fail
    rw [HW0.out]
    refine HC.out.mono ?_
    rintro e w1 ⟨rfl, hb⟩
    go_wp2_with fail
    refine (HP1.out _ hb).mono ?_
    rintro e w2 ⟨a1, f1, rfl, hc1, ho1, hbb2, hb2⟩
    have hsz2 : w.heap.size < w2.heap.size := by have := hb2.size; have := P4.out; omega
    have hb2a : Below W0.heap.size W0 (w2.alloc (.cells #[.int .i64 s1, .slice a1 x1.length f1] 24)) := hb2.alloc hb2.size _
    have bx1 := BoxAt.new w2 24 #[.int .i64 s1, .slice a1 x1.length f1]
    have o1a := ho1.alloc (.cells #[.int .i64 s1, .slice a1 x1.length f1] 24)
    go_wp2_with fail
    refine (HP2.out _ hb2a).mono ?_
    rintro e w3 ⟨a2, f2, rfl, hc2, ho2, hbb3, hb3⟩
    have hsz3 : w.heap.size < w3.heap.size := by have := hb3.size; have := P4.out; omega
    obtain ⟨q1, q2, q3, q4, q5, q6⟩ := SR.out _ hb3
    go_wp2_with fail
    refine bodyPost_ret (v := .tuple #[.agg #[.int .i64 0, .slice none 0 0, .int .i64 0], .int .i64 6]) (by simp [results, Try.results8, go_sem, *]) rfl ?_
    exact (retYC_zero (g := w.heap.size) 6 P3.out P4.out hb3 (by omega) _ _ _).alloc _

set_option maxRecDepth 100000 in
set_option maxHeartbeats 4000000 in
theorem iPDyes (f b : List UInt8) (hl : f.length + (b.length + 1) ≤ 1048576) (hp : (112 : UInt8) ∉ f) (w : World) :
    Calls Try.prog 8 #[.string ⟨(f ++ 112 :: b).toArray⟩] w (RetYC (pdZ (prR (cutM f).1 (cutM f).2) (prR (cutM b).1 (cutM b).2)) w.heap.size w) := by
  obtain ⟨W0, hW0⟩ : ∃ W0 : World, w.alloc (.cells #[.int .i64 0, .slice none 0 0, .int .i64 0] 26) = W0 := ⟨_, rfl⟩
  obtain ⟨p2, p3, p4⟩ := one_box w 26 #[.int .i64 0, .slice none 0 0, .int .i64 0]
  rw [hW0] at p2 p3 p4
  have HW0 := Lib.hid hW0
  have P3 := Lib.hid p3
  have P4 := Lib.hid p4
  have SR := Lib.hid (show ∀ W, Below W0.heap.size W0 W → _ from fun W hW => (p2.below hW).tri6)
  have hT : Below W0.heap.size W0 W0 := Below.refl _ _
  have HC := Lib.hid (cutYes f b hp hl W0)
  obtain ⟨⟨s1, x1, c1⟩, hA⟩ : ∃ r, r = prR (cutM f).1 (cutM f).2 := ⟨_, rfl⟩
  obtain ⟨⟨s2, x2, c2⟩, hE⟩ : ∃ r, r = prR (cutM b).1 (cutM b).2 := ⟨_, rfl⟩
  have L1 := Lib.hid (show x1.length ≤ 9223372036854775807 from by have := prR_len (cutM f).1 (cutM f).2; rw [← hA] at this; simp only at this; omega)
  have L2 := Lib.hid (show x2.length ≤ 9223372036854775807 from by have := prR_len (cutM b).1 (cutM b).2; rw [← hE] at this; simp only at this; omega)
  have HP1 := Lib.hid (show ∀ W, Below W0.heap.size W0 W → Calls Try.prog 47 #[.string ⟨(f : List UInt8).toArray⟩] W fun e w' => ∃ a c, e = .returned (.tuple #[.agg #[.int .i64 s1, .slice a x1.length c], .int .i64 c1]) ∧ x1.length ≤ c ∧ Own w' W.heap.size a x1 ∧ Below W.heap.size W w' ∧ Below W0.heap.size W0 w' from
    fun W hW => by
      have := iParseWhole f (by omega) W
      rw [← hA] at this
      exact this.mono fun e w' ⟨a, c, he, hc, ho, hb⟩ => ⟨a, c, he, hc, ho, hb, hW.trans (hb.mono hW.size)⟩)
  have HP2 := Lib.hid (show ∀ W, Below W0.heap.size W0 W → Calls Try.prog 47 #[.string ⟨(b : List UInt8).toArray⟩] W fun e w' => ∃ a c, e = .returned (.tuple #[.agg #[.int .i64 s2, .slice a x2.length c], .int .i64 c2]) ∧ x2.length ≤ c ∧ Own w' W.heap.size a x2 ∧ Below W.heap.size W w' ∧ Below W0.heap.size W0 w' from
    fun W hW => by
      have := iParseWhole b (by omega) W
      rw [← hE] at this
      exact this.mono fun e w' ⟨a, c, he, hc, ho, hb⟩ => ⟨a, c, he, hc, ho, hb, hW.trans (hb.mono hW.size)⟩)
  rw [← hA, ← hE]
  clear p2 p3 p4 hW0
  by_cases k1 : c1 = 0
  rotate_left
  · have hk1 := ne_code k1
    rw [pdZ_no (fun h => k1 h.1)]
    clear k1
    go_enter Try.func8, Try.ntmps8
    go_wp2_with fail
    rw [HW0.out]
    refine HC.out.mono ?_
    rintro e w1 ⟨rfl, hb⟩
    go_wp2_with fail
    refine (HP1.out _ hb).mono ?_
    rintro e w2 ⟨a1, f1, rfl, hc1, ho1, hbb2, hb2⟩
    have hsz2 : w.heap.size < w2.heap.size := by have := hb2.size; have := P4.out; omega
    obtain ⟨q1, q2, q3, q4, q5, q6⟩ := SR.out _ hb2
    go_wp2_with fail
    refine bodyPost_ret (v := .tuple #[.agg #[.int .i64 0, .slice none 0 0, .int .i64 0], .int .i64 6]) (by simp [results, Try.results8, go_sem, *]) rfl ?_
    exact (retYC_zero (g := w.heap.size) 6 P3.out P4.out hb2 (by omega) _ _ _).alloc _
  · subst k1
    by_cases k2 : c2 = 0
    rotate_left
    · have hk2 := ne_code k2
      rw [pdZ_no (fun h => k2 h.2.1)]
      clear k2
      go_enter Try.func8, Try.ntmps8
      go_wp2_with fail
      rw [HW0.out]
      refine HC.out.mono ?_
      rintro e w1 ⟨rfl, hb⟩
      go_wp2_with fail
      refine (HP1.out _ hb).mono ?_
      rintro e w2 ⟨a1, f1, rfl, hc1, ho1, hbb2, hb2⟩
      have hsz2 : w.heap.size < w2.heap.size := by have := hb2.size; have := P4.out; omega
      have hb2a : Below W0.heap.size W0 (w2.alloc (.cells #[.int .i64 s1, .slice a1 x1.length f1] 24)) := hb2.alloc hb2.size _
      have bx1 := BoxAt.new w2 24 #[.int .i64 s1, .slice a1 x1.length f1]
      have o1a := ho1.alloc (.cells #[.int .i64 s1, .slice a1 x1.length f1] 24)
      go_wp2_with fail
      refine (HP2.out _ hb2a).mono ?_
      rintro e w3 ⟨a2, f2, rfl, hc2, ho2, hbb3, hb3⟩
      have hsz3 : w.heap.size < w3.heap.size := by have := hb3.size; have := P4.out; omega
      obtain ⟨q1, q2, q3, q4, q5, q6⟩ := SR.out _ hb3
      go_wp2_with fail
      refine bodyPost_ret (v := .tuple #[.agg #[.int .i64 0, .slice none 0 0, .int .i64 0], .int .i64 6]) (by simp [results, Try.results8, go_sem, *]) rfl ?_
      exact (retYC_zero (g := w.heap.size) 6 P3.out P4.out hb3 (by omega) _ _ _).alloc _
    · subst k2
      obtain ⟨⟨n3, c3⟩, h3⟩ : ∃ r, r = intR s2 x2 := ⟨_, rfl⟩
      have HI := Lib.hid (show ∀ (a : Option Addr) (c : Nat) W, Ints W W.heap.size a x2 → Calls Try.prog 48 #[.agg #[.int .i64 s2, .slice a x2.length c]] W fun e w' => e = .returned (.tuple #[.int .i64 n3, .int .i64 c3]) ∧ Below W.heap.size W w' from
        fun a c W ho => by
          have := iIntegerOf s2 a x2 c W W.heap.size (Nat.le_refl _) ho L2.out
          rw [← h3] at this
          exact this)
      have HY := Lib.hid (show ∀ (a : Option Addr) (c : Nat) W, Ints W W.heap.size a x1 → Calls Try.prog 49 #[.agg #[.int .i64 s1, .slice a x1.length c, .int .i64 n3]] W fun e w' => e = .returned (.bool (dyB s1 x1 n3)) ∧ Below W.heap.size W w' from
        fun a c W ho => iIsDyadic s1 a x1 c n3 W W.heap.size (Nat.le_refl _) L1.out ho)
      by_cases k3 : c3 = 0
      rotate_left
      · have hk3 := ne_code k3
        rw [pdZ_no (fun h => k3 (by have := h.2.2.1; simp only at this; rw [← h3] at this; exact this))]
        clear k3 h3
        go_enter Try.func8, Try.ntmps8
        go_wp2_with fail
        rw [HW0.out]
        refine HC.out.mono ?_
        rintro e w1 ⟨rfl, hb⟩
        go_wp2_with fail
        refine (HP1.out _ hb).mono ?_
        rintro e w2 ⟨a1, f1, rfl, hc1, ho1, hbb2, hb2⟩
        have hsz2 : w.heap.size < w2.heap.size := by have := hb2.size; have := P4.out; omega
        have hb2a : Below W0.heap.size W0 (w2.alloc (.cells #[.int .i64 s1, .slice a1 x1.length f1] 24)) := hb2.alloc hb2.size _
        have bx1 := BoxAt.new w2 24 #[.int .i64 s1, .slice a1 x1.length f1]
        have o1a := ho1.alloc (.cells #[.int .i64 s1, .slice a1 x1.length f1] 24)
        go_wp2_with fail
        refine (HP2.out _ hb2a).mono ?_
        rintro e w3 ⟨a2, f2, rfl, hc2, ho2, hbb3, hb3⟩
        have hsz3 : w.heap.size < w3.heap.size := by have := hb3.size; have := P4.out; omega
        have hb3a : Below W0.heap.size W0 (w3.alloc (.cells #[.int .i64 s2, .slice a2 x2.length f2] 24)) := hb3.alloc hb3.size _
        have bx1' := (bx1.below hbb3).alloc (.cells #[.int .i64 s2, .slice a2 x2.length f2] 24)
        have o1b := (o1a.below hbb3).alloc (.cells #[.int .i64 s2, .slice a2 x2.length f2] 24)
        have o2b := ho2.alloc (.cells #[.int .i64 s2, .slice a2 x2.length f2] 24)
        clear bx1 o1a
        go_wp2_with fail
        refine (HI.out _ _ _ o2b.ints).mono ?_
        rintro e w4 ⟨rfl, hbb4⟩
        have hb4 := hb3a.trans (hbb4.mono hb3a.size)
        have bx4 := bx1'.below hbb4
        have o4 := o1b.below hbb4
        have hsz4 : w.heap.size < w4.heap.size := by have := hb4.size; have := P4.out; omega
        obtain ⟨m1, m2, m3, m4⟩ := bx4.two
        obtain ⟨q1, q2, q3, q4, q5, q6⟩ := SR.out _ hb4
        go_wp2_with fail
        refine bodyPost_ret (v := .tuple #[.agg #[.int .i64 0, .slice none 0 0, .int .i64 0], .int .i64 6]) (by simp [results, Try.results8, go_sem, *]) rfl ?_
        exact (retYC_zero (g := w.heap.size) 6 P3.out P4.out hb4 (by omega) _ _ _).alloc _
      · subst k3
        cases hd : dyB s1 x1 n3
        · rw [pdZ_no (fun h => by have := h.2.2.2; simp only at this; rw [← h3] at this; simp only at this; rw [hd] at this; cases this)]
          rw [hd] at HY
          clear hd h3
          go_enter Try.func8, Try.ntmps8
          go_wp2_with fail
          rw [HW0.out]
          refine HC.out.mono ?_
          rintro e w1 ⟨rfl, hb⟩
          go_wp2_with fail
          refine (HP1.out _ hb).mono ?_
          rintro e w2 ⟨a1, f1, rfl, hc1, ho1, hbb2, hb2⟩
          have hsz2 : w.heap.size < w2.heap.size := by have := hb2.size; have := P4.out; omega
          have hb2a : Below W0.heap.size W0 (w2.alloc (.cells #[.int .i64 s1, .slice a1 x1.length f1] 24)) := hb2.alloc hb2.size _
          have bx1 := BoxAt.new w2 24 #[.int .i64 s1, .slice a1 x1.length f1]
          have o1a := ho1.alloc (.cells #[.int .i64 s1, .slice a1 x1.length f1] 24)
          go_wp2_with fail
          refine (HP2.out _ hb2a).mono ?_
          rintro e w3 ⟨a2, f2, rfl, hc2, ho2, hbb3, hb3⟩
          have hsz3 : w.heap.size < w3.heap.size := by have := hb3.size; have := P4.out; omega
          have hb3a : Below W0.heap.size W0 (w3.alloc (.cells #[.int .i64 s2, .slice a2 x2.length f2] 24)) := hb3.alloc hb3.size _
          have bx1' := (bx1.below hbb3).alloc (.cells #[.int .i64 s2, .slice a2 x2.length f2] 24)
          have o1b := (o1a.below hbb3).alloc (.cells #[.int .i64 s2, .slice a2 x2.length f2] 24)
          have o2b := ho2.alloc (.cells #[.int .i64 s2, .slice a2 x2.length f2] 24)
          clear bx1 o1a
          go_wp2_with fail
          refine (HI.out _ _ _ o2b.ints).mono ?_
          rintro e w4 ⟨rfl, hbb4⟩
          have hb4 := hb3a.trans (hbb4.mono hb3a.size)
          have bx4 := bx1'.below hbb4
          have o4 := o1b.below hbb4
          have hsz4 : w.heap.size < w4.heap.size := by have := hb4.size; have := P4.out; omega
          obtain ⟨m1, m2, m3, m4⟩ := bx4.two
          have hb4a : Below W0.heap.size W0 (w4.alloc (.cells #[.int .i64 s1, .slice a1 x1.length f1, .int .i64 n3] 26)) := hb4.alloc hb4.size _
          have bx5 := BoxAt.new w4 26 #[.int .i64 s1, .slice a1 x1.length f1, .int .i64 n3]
          have o5 := o4.alloc (.cells #[.int .i64 s1, .slice a1 x1.length f1, .int .i64 n3] 26)
          go_wp2_with fail
          refine (HY.out _ _ _ o5.ints).mono ?_
          rintro e w5 ⟨rfl, hbb5⟩
          have hb5 := hb4a.trans (hbb5.mono hb4a.size)
          obtain ⟨q1, q2, q3, q4, q5, q6⟩ := SR.out _ hb5
          go_wp2_with fail
          refine bodyPost_ret (v := .tuple #[.agg #[.int .i64 0, .slice none 0 0, .int .i64 0], .int .i64 6]) (by simp [results, Try.results8, go_sem, *]) rfl ?_
          exact retYC_zero (g := w.heap.size) 6 P3.out P4.out hb5 (by omega) _ _ _
        · rw [pdZ_yes ⟨rfl, rfl, by simp only; rw [← h3], by simp only; rw [← h3]; exact hd⟩]
          simp only
          rw [← h3]
          rw [hd] at HY
          clear hd h3
          go_enter Try.func8, Try.ntmps8
          go_wp2_with fail
          rw [HW0.out]
          refine HC.out.mono ?_
          rintro e w1 ⟨rfl, hb⟩
          go_wp2_with fail
          refine (HP1.out _ hb).mono ?_
          rintro e w2 ⟨a1, f1, rfl, hc1, ho1, hbb2, hb2⟩
          have hsz2 : w.heap.size < w2.heap.size := by have := hb2.size; have := P4.out; omega
          have hb2a : Below W0.heap.size W0 (w2.alloc (.cells #[.int .i64 s1, .slice a1 x1.length f1] 24)) := hb2.alloc hb2.size _
          have bx1 := BoxAt.new w2 24 #[.int .i64 s1, .slice a1 x1.length f1]
          have o1a := ho1.alloc (.cells #[.int .i64 s1, .slice a1 x1.length f1] 24)
          go_wp2_with fail
          refine (HP2.out _ hb2a).mono ?_
          rintro e w3 ⟨a2, f2, rfl, hc2, ho2, hbb3, hb3⟩
          have hsz3 : w.heap.size < w3.heap.size := by have := hb3.size; have := P4.out; omega
          have hb3a : Below W0.heap.size W0 (w3.alloc (.cells #[.int .i64 s2, .slice a2 x2.length f2] 24)) := hb3.alloc hb3.size _
          have bx1' := (bx1.below hbb3).alloc (.cells #[.int .i64 s2, .slice a2 x2.length f2] 24)
          have o1b := (o1a.below hbb3).alloc (.cells #[.int .i64 s2, .slice a2 x2.length f2] 24)
          have o2b := ho2.alloc (.cells #[.int .i64 s2, .slice a2 x2.length f2] 24)
          clear bx1 o1a
          go_wp2_with fail
          refine (HI.out _ _ _ o2b.ints).mono ?_
          rintro e w4 ⟨rfl, hbb4⟩
          have hb4 := hb3a.trans (hbb4.mono hb3a.size)
          have bx4 := bx1'.below hbb4
          have o4 := o1b.below hbb4
          have hsz4 : w.heap.size < w4.heap.size := by have := hb4.size; have := P4.out; omega
          obtain ⟨m1, m2, m3, m4⟩ := bx4.two
          have hb4a : Below W0.heap.size W0 (w4.alloc (.cells #[.int .i64 s1, .slice a1 x1.length f1, .int .i64 n3] 26)) := hb4.alloc hb4.size _
          have bx5 := BoxAt.new w4 26 #[.int .i64 s1, .slice a1 x1.length f1, .int .i64 n3]
          have o5 := o4.alloc (.cells #[.int .i64 s1, .slice a1 x1.length f1, .int .i64 n3] 26)
          go_wp2_with fail
          refine (HY.out _ _ _ o5.ints).mono ?_
          rintro e w5 ⟨rfl, hbb5⟩
          have hb5 := hb4a.trans (hbb5.mono hb4a.size)
          have bx6 := bx5.below hbb5
          have o6 := o5.below hbb5
          obtain ⟨r1, r2, r3⟩ := bx6.tri
          obtain ⟨q1, q2, q3, q4, q5, q6⟩ := SR.out _ hb5
          have HC5 := Lib.hid hc1
          have HO5 := Lib.hid (o6.mono (show W0.heap.size ≤ w1.heap.size from hb.size))
          clear bx6 o6 bx5 o5 bx4 o4 bx1' o1b o2b ho1 ho2 hc1 hc2
          go_wp2_with fail
          refine bodyPost_ret (v := .tuple #[.agg #[.int .i64 s1, .slice a1 x1.length f1, .int .i64 n3], .int .i64 0]) (by simp [results, Try.results8, go_sem, *]) rfl ?_
          exact retYC_end (g := w.heap.size) (r := (s1, x1, n3, 0)) P3.out P4.out hb5 (by omega) (by omega) _ _ _ HO5.out HC5.out
end Go.Proofs.Ytpchcigpppdfiab
