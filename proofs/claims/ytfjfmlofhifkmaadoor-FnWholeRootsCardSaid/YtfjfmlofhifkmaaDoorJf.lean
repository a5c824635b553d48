/-
  The walk of laws.FnWholeRoots. Conditions: the code's bytes can be read, the listed table is as its initialiser lays it.
-/
import Derived.Test.YtfjfmlofhifkmaaDoorJb
import Derived.Test.YtfjfmlofhifkmaaDoorWr
import Derived.Test.YtfjfmlofhifkmaaDoorWp
import Derived.Test.YtfjfmlofhifkmaaDoorVi
import Derived.Test.YtfjfmlofhifkmaaDoorHb
import Derived.Deep.DeepCutAuto
namespace Go.Proofs.YtfjfmlofhifkmaaDoor
set_option linter.unusedVariables false
open Go Go.RowKit

theorem big_len {n : Nat} (h : n ≤ 1000) : n ≤ 9223372036854775807 := by omega
theorem len200 {n : Nat} (h : n ≤ 200) : n ≤ 9223372036854775807 := by omega
theorem ne_zero_code {c : Int} (h : c ≠ 0) : (c == 0) = false := by simpa using h
set_option maxRecDepth 100000 in
set_option maxHeartbeats 16000000 in
theorem roots_walk (a : Option Addr) (len cap : Nat) (w : World) (hlen : len ≤ 9223372036854775807) (hcode : Code8 w.heap.size a len w) (hTab : Tab w) :
    Calls Tryd.prog 3 #[.slice a len cap] w (LawDone w) := by
  by_cases hbig : (len : Int) ≤ 4096
  rotate_left
  · have HBG := Lib.hid (bigYes a len cap (by omega))
    clear hlen hcode hbig hTab
    go_enter Tryd.func3, Tryd.ntmps3
    go_wp2_with (go_at_call 9; refine (HBG.out _).mono ?_; rintro e w' ⟨rfl, rfl⟩)
    go_ret
    exact ⟨rfl, Below.refl _ _⟩
  · have HL := Lib.hid hlen
    have HC := Lib.hid hcode
    have HT := Lib.hid hTab
    have HBG := Lib.hid (bigNo a len cap hbig)
    clear hlen hcode hbig hTab
    obtain ⟨W0, hW0⟩ : ∃ W0 : World, (w.alloc (.cells #[.int .i64 1] 2)).alloc (.cells #[.int .i64 1, .slice (some ⟨w.heap.size, 0, none⟩) 1 1] 26) = W0 := ⟨_, rfl⟩
    have U := Lib.hid (show Below w.heap.size w W0 by rw [← hW0]; exact ((Below.refl _ w).alloc (Nat.le_refl _) _).alloc (by simp) _)
    have TB := Lib.hid (HT.out.below U.out)
    have B_u := Lib.hid (show BoxAt W0 (w.heap.size + 1) 26 #[.int .i64 1, .slice (some ⟨w.heap.size, 0, none⟩) 1 1] by rw [← hW0]; have := BoxAt.new (w.alloc (.cells #[.int .i64 1] 2)) 26 #[.int .i64 1, .slice (some ⟨w.heap.size, 0, none⟩) 1 1]; simpa using this)
    have O_u := Lib.hid (show Own W0 w.heap.size (some ⟨w.heap.size, 0, none⟩) [1] by
      rw [← hW0]
      refine (Own.row (g := w.heap.size) ⟨#[.int .i64 1], BoxAt.new w _ _, fun i hi => ?_⟩ (Nat.le_refl _)).alloc _
      have h0 : i = 0 := by simp at hi; omega
      subst h0
      rfl)
    have L_u := Lib.hid (show ([1] : List Int).length ≤ 9223372036854775807 by decide)
    go_enter Tryd.func3, Tryd.ntmps3
    go_wp2_with (go_at_call 9; refine (HBG.out _).mono ?_; rintro e w' ⟨rfl, rfl⟩)
    clear hW0 HT
    refine (drawRoot a len cap W0 HL.out (HC.out.below U.out U.out.size)).mono ?_
    rintro e wr ⟨s1, xs1, a1, c1, rfl, hx, hc, ho, hb⟩
    have L_a := Lib.hid (big_len hx)
    obtain ⟨W1, hW1⟩ : ∃ W : World, (wr).alloc (.cells #[.int .i64 s1, .slice a1 xs1.length c1] 26) = W := ⟨_, rfl⟩
    have st := Lib.hid (show Below W0.heap.size W0 W1 by rw [← hW1]; exact hb.alloc hb.size _)
    replace B_u := Lib.hid (B_u.out.below st.out)
    replace O_u := Lib.hid (O_u.out.below st.out)
    replace U := Lib.hid (U.out.trans (st.out.mono U.out.size))
    replace TB := Lib.hid (TB.out.below st.out)
    have B_a := Lib.hid (show BoxAt W1 (wr.heap.size) 26 #[.int .i64 s1, .slice a1 xs1.length c1] by rw [← hW1]; exact BoxAt.new _ _ _)
    have O_a := Lib.hid (show Own W1 _ a1 xs1 by rw [← hW1]; exact ho.alloc _)
    clear st hb ho hx hc
    obtain ⟨⟨r1, l1, rc⟩, hr⟩ : ∃ r, r = rootR s1 xs1 := ⟨_, rfl⟩
    have HR := Lib.hid hr
    have L_r := Lib.hid (show l1.length ≤ 9223372036854775807 by have := rootR_len s1 xs1; rw [← hr] at this; exact len200 this)
    clear hr
    obtain ⟨k3a, k3b, k3c, k3d⟩ := B_a.out.two
    go_wp2_with fail
    clear hW1
    refine (Calls.mono (show Calls Tryd.prog 11 #[.agg #[.int .i64 s1, .slice a1 xs1.length c1]] W1 (RetWC (r1, l1, rc) W1.heap.size W1) from by
      have := iRootOfWhole s1 a1 xs1 c1 W1 W1.heap.size (Nat.le_refl _) O_a.out.ints L_a.out
      rwa [← HR.out] at this) ?_)
    rintro e w2 ⟨a2, c2, rfl, hc, ho, hb⟩
    clear k3a k3b k3c k3d
    obtain ⟨W4, hW4⟩ : ∃ W : World, (w2).alloc (.cells #[.int .i64 r1, .slice a2 l1.length c2] 26) = W := ⟨_, rfl⟩
    have st := Lib.hid (show Below W1.heap.size W1 W4 by rw [← hW4]; exact hb.alloc hb.size _)
    replace B_u := Lib.hid (B_u.out.below st.out)
    replace O_u := Lib.hid (O_u.out.below st.out)
    replace B_a := Lib.hid (B_a.out.below st.out)
    replace O_a := Lib.hid (O_a.out.below st.out)
    replace U := Lib.hid (U.out.trans (st.out.mono U.out.size))
    replace TB := Lib.hid (TB.out.below st.out)
    have B_r := Lib.hid (show BoxAt W4 (w2.heap.size) 26 #[.int .i64 r1, .slice a2 l1.length c2] by rw [← hW4]; exact BoxAt.new _ _ _)
    have O_r := Lib.hid (show Own W4 _ a2 l1 by rw [← hW4]; exact ho.alloc _)
    clear st hb ho hc
    obtain ⟨k6a, k6b, k6c, k6d⟩ := B_a.out.two
    have L_t := L_r
    go_wp2_with fail
    clear hW4
    refine (Calls.mono (show Calls Tryd.prog 12 #[.agg #[.int .i64 s1, .slice a1 xs1.length c1]] W4 (RetWC (r1, l1, rc) W4.heap.size W4) from by
      have := sRootOfWhole s1 a1 xs1 c1 W4 W4.heap.size (Nat.le_refl _) O_a.out.ints L_a.out
      rwa [← HR.out] at this) ?_)
    rintro e w5 ⟨a5, c5, rfl, hc, ho, hb⟩
    clear k6a k6b k6c k6d
    obtain ⟨W7, hW7⟩ : ∃ W : World, (w5).alloc (.cells #[.int .i64 r1, .slice a5 l1.length c5] 26) = W := ⟨_, rfl⟩
    have st := Lib.hid (show Below W4.heap.size W4 W7 by rw [← hW7]; exact hb.alloc hb.size _)
    replace B_u := Lib.hid (B_u.out.below st.out)
    replace O_u := Lib.hid (O_u.out.below st.out)
    replace B_a := Lib.hid (B_a.out.below st.out)
    replace O_a := Lib.hid (O_a.out.below st.out)
    replace B_r := Lib.hid (B_r.out.below st.out)
    replace O_r := Lib.hid (O_r.out.below st.out)
    replace U := Lib.hid (U.out.trans (st.out.mono U.out.size))
    replace TB := Lib.hid (TB.out.below st.out)
    have B_t := Lib.hid (show BoxAt W7 (w5.heap.size) 26 #[.int .i64 r1, .slice a5 l1.length c5] by rw [← hW7]; exact BoxAt.new _ _ _)
    have O_t := Lib.hid (show Own W7 _ a5 l1 by rw [← hW7]; exact ho.alloc _)
    clear st hb ho hc
    have hq : (rc != rc) = false := by simp
    obtain ⟨k9a, k9b, k9c, k9d⟩ := B_r.out.two
    obtain ⟨k10a, k10b, k10c, k10d⟩ := B_t.out.two
    go_wp2_with fail
    clear hW7
    refine (Calls.mono (show Calls Tryd.prog 13 #[.agg #[.int .i64 r1, .slice a2 l1.length c2], .agg #[.int .i64 r1, .slice a5 l1.length c5]] W7 (RetB (.bool true) W7) from by
      have := whole5_same r1 a2 a5 l1 c2 c5 W7 W7.heap.size W7.heap.size (Nat.le_refl _) (Nat.le_refl _) O_r.out.ints O_t.out.ints L_r.out
      exact this) ?_)
    rintro e w8 ⟨rfl, hb⟩
    clear k9a k9b k9c k9d k10a k10b k10c k10d
    replace B_u := Lib.hid (B_u.out.below hb)
    replace O_u := Lib.hid (O_u.out.below hb)
    replace B_a := Lib.hid (B_a.out.below hb)
    replace O_a := Lib.hid (O_a.out.below hb)
    replace B_r := Lib.hid (B_r.out.below hb)
    replace O_r := Lib.hid (O_r.out.below hb)
    replace B_t := Lib.hid (B_t.out.below hb)
    replace O_t := Lib.hid (O_t.out.below hb)
    replace U := Lib.hid (U.out.trans (hb.mono U.out.size))
    replace TB := Lib.hid (TB.out.below hb)
    clear hb
    clear B_t O_t
    go_upto_if 76 with fail
    clear hq
    go_cut [] (fun W => Below w8.heap.size w8 W)
    case first =>
      by_cases hz : rc = 0
      · subst hz
        have CC := Lib.hid (Below.refl w8.heap.size w8)
        obtain ⟨q1, ql, v, n1, nl, f1, f2, f3, f4, f5⟩ := root_facts HR.out
        have F1 := Lib.hid f1
        have F2 := Lib.hid f2
        have hv1 : decide (0 < v) = false := decide_eq_false f3
        have F4 := Lib.hid f4
        have F5 := Lib.hid f5
        have L_q := Lib.hid (show ql.length ≤ 9223372036854775807 by have h := binR_len (fun x y => x * y) r1 l1 r1 l1; rw [f1] at h; exact len200 h)
        have L_n := Lib.hid (show nl.length ≤ 9223372036854775807 by have h := binR_len (fun x y => x + y) r1 l1 1 [1]; rw [f4] at h; exact len200 h)
        clear f1 f2 f3 f4 f5
        obtain ⟨k12a, k12b, k12c, k12d⟩ := B_r.out.two
        go_wp2_with fail
        refine (Calls.mono (show Calls Tryd.prog 14 #[.agg #[.int .i64 r1, .slice a2 l1.length c2], .agg #[.int .i64 r1, .slice a2 l1.length c2]] w8 (RetWC (q1, ql, 0) w8.heap.size w8) from by
          have := iMultiplyWholes r1 r1 a2 a2 l1 l1 c2 c2 w8 w8.heap.size w8.heap.size (Nat.le_refl _) (Nat.le_refl _) O_r.out.ints O_r.out.ints L_r.out L_r.out
          rwa [F1.out] at this) ?_)
        rintro e w11 ⟨a11, c11, rfl, hc, ho, hb⟩
        clear k12a k12b k12c k12d
        obtain ⟨W13, hW13⟩ : ∃ W : World, (w11).alloc (.cells #[.int .i64 q1, .slice a11 ql.length c11] 26) = W := ⟨_, rfl⟩
        have st := Lib.hid (show Below w8.heap.size w8 W13 by rw [← hW13]; exact hb.alloc hb.size _)
        replace B_u := Lib.hid (B_u.out.below st.out)
        replace O_u := Lib.hid (O_u.out.below st.out)
        replace B_a := Lib.hid (B_a.out.below st.out)
        replace O_a := Lib.hid (O_a.out.below st.out)
        replace B_r := Lib.hid (B_r.out.below st.out)
        replace O_r := Lib.hid (O_r.out.below st.out)
        replace U := Lib.hid (U.out.trans (st.out.mono U.out.size))
        replace TB := Lib.hid (TB.out.below st.out)
        replace CC := Lib.hid (CC.out.trans (st.out.mono CC.out.size))
        have B_q := Lib.hid (show BoxAt W13 (w11.heap.size) 26 #[.int .i64 q1, .slice a11 ql.length c11] by rw [← hW13]; exact BoxAt.new _ _ _)
        have O_q := Lib.hid (show Own W13 _ a11 ql by rw [← hW13]; exact ho.alloc _)
        clear st hb ho hc
        obtain ⟨k15a, k15b, k15c, k15d⟩ := B_q.out.two
        obtain ⟨k16a, k16b, k16c, k16d⟩ := B_a.out.two
        go_wp2_with fail
        clear hW13
        refine (Calls.mono (show Calls Tryd.prog 15 #[.agg #[.int .i64 q1, .slice a11 ql.length c11], .agg #[.int .i64 s1, .slice a1 xs1.length c1]] W13 (RetB (.tuple #[.int .i64 v, .int .i64 0]) W13) from by
          have := iCompareWholes q1 s1 a11 a1 ql xs1 c11 c1 W13 W13.heap.size W13.heap.size (Nat.le_refl _) (Nat.le_refl _) O_q.out.ints O_a.out.ints L_q.out L_a.out
          rwa [F2.out] at this) ?_)
        rintro e w14 ⟨rfl, hb⟩
        clear k15a k15b k15c k15d k16a k16b k16c k16d
        replace B_u := Lib.hid (B_u.out.below hb)
        replace O_u := Lib.hid (O_u.out.below hb)
        replace B_a := Lib.hid (B_a.out.below hb)
        replace O_a := Lib.hid (O_a.out.below hb)
        replace B_r := Lib.hid (B_r.out.below hb)
        replace O_r := Lib.hid (O_r.out.below hb)
        replace B_q := Lib.hid (B_q.out.below hb)
        replace O_q := Lib.hid (O_q.out.below hb)
        replace U := Lib.hid (U.out.trans (hb.mono U.out.size))
        replace TB := Lib.hid (TB.out.below hb)
        replace CC := Lib.hid (CC.out.trans (hb.mono CC.out.size))
        clear hb
        clear B_q O_q
        obtain ⟨k18a, k18b, k18c, k18d⟩ := B_r.out.two
        obtain ⟨k19a, k19b, k19c, k19d⟩ := B_u.out.two
        go_wp2_with fail
        refine (Calls.mono (show Calls Tryd.prog 16 #[.agg #[.int .i64 r1, .slice a2 l1.length c2], .agg #[.int .i64 1, .slice (some ⟨w.heap.size, 0, none⟩) 1 1]] w14 (RetWC (n1, nl, 0) w14.heap.size w14) from by
          have := iAddWholes r1 1 a2 (some ⟨w.heap.size, 0, none⟩) l1 [1] c2 1 w14 w14.heap.size w14.heap.size (Nat.le_refl _) (Nat.le_refl _) O_r.out.ints O_u.out.ints L_r.out L_u.out
          rwa [F4.out] at this) ?_)
        rintro e w17 ⟨a17, c17, rfl, hc, ho, hb⟩
        clear k18a k18b k18c k18d k19a k19b k19c k19d
        obtain ⟨W20, hW20⟩ : ∃ W : World, (w17).alloc (.cells #[.int .i64 n1, .slice a17 nl.length c17] 26) = W := ⟨_, rfl⟩
        have st := Lib.hid (show Below w14.heap.size w14 W20 by rw [← hW20]; exact hb.alloc hb.size _)
        replace B_u := Lib.hid (B_u.out.below st.out)
        replace O_u := Lib.hid (O_u.out.below st.out)
        replace B_a := Lib.hid (B_a.out.below st.out)
        replace O_a := Lib.hid (O_a.out.below st.out)
        replace B_r := Lib.hid (B_r.out.below st.out)
        replace O_r := Lib.hid (O_r.out.below st.out)
        replace U := Lib.hid (U.out.trans (st.out.mono U.out.size))
        replace TB := Lib.hid (TB.out.below st.out)
        replace CC := Lib.hid (CC.out.trans (st.out.mono CC.out.size))
        have B_n := Lib.hid (show BoxAt W20 (w17.heap.size) 26 #[.int .i64 n1, .slice a17 nl.length c17] by rw [← hW20]; exact BoxAt.new _ _ _)
        have O_n := Lib.hid (show Own W20 _ a17 nl by rw [← hW20]; exact ho.alloc _)
        clear st hb ho hc
        obtain ⟨⟨p1, pl, pc⟩, hp⟩ : ∃ r, r = binR (fun x y => x * y) n1 nl n1 nl := ⟨_, rfl⟩
        have HP := Lib.hid hp
        have L_p := Lib.hid (show pl.length ≤ 9223372036854775807 by have h := binR_len (fun x y => x * y) n1 nl n1 nl; rw [← hp] at h; exact len200 h)
        clear hp
        obtain ⟨k22a, k22b, k22c, k22d⟩ := B_n.out.two
        go_wp2_with fail
        clear hW20
        refine (Calls.mono (show Calls Tryd.prog 14 #[.agg #[.int .i64 n1, .slice a17 nl.length c17], .agg #[.int .i64 n1, .slice a17 nl.length c17]] W20 (RetWC (p1, pl, pc) W20.heap.size W20) from by
          have := iMultiplyWholes n1 n1 a17 a17 nl nl c17 c17 W20 W20.heap.size W20.heap.size (Nat.le_refl _) (Nat.le_refl _) O_n.out.ints O_n.out.ints L_n.out L_n.out
          rwa [← HP.out] at this) ?_)
        rintro e w21 ⟨a21, c21, rfl, hc, ho, hb⟩
        clear k22a k22b k22c k22d
        obtain ⟨W23, hW23⟩ : ∃ W : World, (w21).alloc (.cells #[.int .i64 p1, .slice a21 pl.length c21] 26) = W := ⟨_, rfl⟩
        have st := Lib.hid (show Below W20.heap.size W20 W23 by rw [← hW23]; exact hb.alloc hb.size _)
        replace B_u := Lib.hid (B_u.out.below st.out)
        replace O_u := Lib.hid (O_u.out.below st.out)
        replace B_a := Lib.hid (B_a.out.below st.out)
        replace O_a := Lib.hid (O_a.out.below st.out)
        replace B_r := Lib.hid (B_r.out.below st.out)
        replace O_r := Lib.hid (O_r.out.below st.out)
        replace B_n := Lib.hid (B_n.out.below st.out)
        replace O_n := Lib.hid (O_n.out.below st.out)
        replace U := Lib.hid (U.out.trans (st.out.mono U.out.size))
        replace TB := Lib.hid (TB.out.below st.out)
        replace CC := Lib.hid (CC.out.trans (st.out.mono CC.out.size))
        have B_p := Lib.hid (show BoxAt W23 (w21.heap.size) 26 #[.int .i64 p1, .slice a21 pl.length c21] by rw [← hW23]; exact BoxAt.new _ _ _)
        have O_p := Lib.hid (show Own W23 _ a21 pl by rw [← hW23]; exact ho.alloc _)
        clear st hb ho hc
        by_cases hz : pc = 0
        · subst hz
          have F6 := Lib.hid (F5.out _ _ HP.out.symm)
          obtain ⟨k25a, k25b, k25c, k25d⟩ := B_p.out.two
          obtain ⟨k26a, k26b, k26c, k26d⟩ := B_a.out.two
          go_wp2_with fail
          clear hW23
          refine (Calls.mono (show Calls Tryd.prog 15 #[.agg #[.int .i64 p1, .slice a21 pl.length c21], .agg #[.int .i64 s1, .slice a1 xs1.length c1]] W23 (RetB (.tuple #[.int .i64 1, .int .i64 0]) W23) from by
            have := iCompareWholes p1 s1 a21 a1 pl xs1 c21 c1 W23 W23.heap.size W23.heap.size (Nat.le_refl _) (Nat.le_refl _) O_p.out.ints O_a.out.ints L_p.out L_a.out
            rwa [F6.out] at this) ?_)
          rintro e w24 ⟨rfl, hb⟩
          clear k25a k25b k25c k25d k26a k26b k26c k26d
          replace B_u := Lib.hid (B_u.out.below hb)
          replace O_u := Lib.hid (O_u.out.below hb)
          replace B_a := Lib.hid (B_a.out.below hb)
          replace O_a := Lib.hid (O_a.out.below hb)
          replace B_r := Lib.hid (B_r.out.below hb)
          replace O_r := Lib.hid (O_r.out.below hb)
          replace B_n := Lib.hid (B_n.out.below hb)
          replace O_n := Lib.hid (O_n.out.below hb)
          replace B_p := Lib.hid (B_p.out.below hb)
          replace O_p := Lib.hid (O_p.out.below hb)
          replace U := Lib.hid (U.out.trans (hb.mono U.out.size))
          replace TB := Lib.hid (TB.out.below hb)
          replace CC := Lib.hid (CC.out.trans (hb.mono CC.out.size))
          clear hb
          go_wp2_with fail
          go_meet
          exact CC.out
        · have h0 := ne_zero_code hz
          clear hz
          go_wp2_with fail
          go_meet
          exact CC.out
      · have h0 := ne_zero_code hz
        clear hz
        go_wp2_with fail
        go_meet
        exact Below.refl _ _
    case rest => as_aux_lemma =>
      clear B_a O_a
      clear B_r O_r
      clear HR L_a L_r L_t
      replace B_u := Lib.hid (B_u.out.below hcut)
      replace O_u := Lib.hid (O_u.out.below hcut)
      replace U := Lib.hid (U.out.trans (hcut.mono U.out.size))
      replace TB := Lib.hid (TB.out.below hcut)
      clear hcut
      go_wp2_with fail
      refine (drawCommon a len cap wc HL.out (HC.out.below U.out U.out.size)).mono ?_
      rintro e wd ⟨s2, xs2, a2, c2, s3, xs3, a3, c3, rfl, hx, hc, hx', hc', ho, ho', hb⟩
      have L_b := Lib.hid (big_len hx)
      have L_c := Lib.hid (big_len hx')
      have HCB := Lib.hid hc
      have HCC := Lib.hid hc'
      obtain ⟨W27, hW27⟩ : ∃ W : World, ((wd).alloc (.cells #[.int .i64 s2, .slice a2 xs2.length c2] 26)).alloc (.cells #[.int .i64 s3, .slice a3 xs3.length c3] 26) = W := ⟨_, rfl⟩
      have st := Lib.hid (show Below wc.heap.size wc W27 by rw [← hW27]; exact (hb.alloc hb.size _).alloc (by have := hb.size; simp; omega) _)
      replace B_u := Lib.hid (B_u.out.below st.out)
      replace O_u := Lib.hid (O_u.out.below st.out)
      replace U := Lib.hid (U.out.trans (st.out.mono U.out.size))
      replace TB := Lib.hid (TB.out.below st.out)
      have B_b := Lib.hid (show BoxAt W27 (wd.heap.size) 26 #[.int .i64 s2, .slice a2 xs2.length c2] by rw [← hW27]; exact (BoxAt.new _ _ _).alloc _)
      have O_b := Lib.hid (show Own W27 _ a2 xs2 by rw [← hW27]; exact (ho.alloc _).alloc _)
      have B_c := Lib.hid (show BoxAt W27 (wd.heap.size + 1) 26 #[.int .i64 s3, .slice a3 xs3.length c3] by rw [← hW27]; have := BoxAt.new ((wd).alloc (.cells #[.int .i64 s2, .slice a2 xs2.length c2] 26)) 26 #[.int .i64 s3, .slice a3 xs3.length c3]; simpa using this)
      have O_c := Lib.hid (show Own W27 _ a3 xs3 by rw [← hW27]; exact (ho'.alloc _).alloc _)
      clear st hb ho ho' hx hc hx' hc'
      obtain ⟨⟨d1, l2, dc⟩, hr⟩ : ∃ r, r = binR gcdZ s2 xs2 s3 xs3 := ⟨_, rfl⟩
      have HR := Lib.hid hr
      have L_d := Lib.hid (show l2.length ≤ 9223372036854775807 by have h := binR_len gcdZ s2 xs2 s3 xs3; rw [← hr] at h; exact len200 h)
      have L_dd := L_d
      clear hr
      obtain ⟨k29a, k29b, k29c, k29d⟩ := B_b.out.two
      obtain ⟨k30a, k30b, k30c, k30d⟩ := B_c.out.two
      go_wp2_with fail
      clear hW27
      refine (Calls.mono (show Calls Tryd.prog 18 #[.agg #[.int .i64 s2, .slice a2 xs2.length c2], .agg #[.int .i64 s3, .slice a3 xs3.length c3]] W27 (RetWC (d1, l2, dc) W27.heap.size W27) from by
        have := iCommonOfWholes s2 s3 a2 a3 xs2 xs3 c2 c3 W27 W27.heap.size W27.heap.size (Nat.le_refl _) (Nat.le_refl _) O_b.out.ints O_c.out.ints L_b.out L_c.out
        rwa [← HR.out] at this) ?_)
      rintro e w28 ⟨a28, c28, rfl, hc, ho, hb⟩
      clear k29a k29b k29c k29d k30a k30b k30c k30d
      obtain ⟨W31, hW31⟩ : ∃ W : World, (w28).alloc (.cells #[.int .i64 d1, .slice a28 l2.length c28] 26) = W := ⟨_, rfl⟩
      have st := Lib.hid (show Below W27.heap.size W27 W31 by rw [← hW31]; exact hb.alloc hb.size _)
      replace B_u := Lib.hid (B_u.out.below st.out)
      replace O_u := Lib.hid (O_u.out.below st.out)
      replace B_b := Lib.hid (B_b.out.below st.out)
      replace O_b := Lib.hid (O_b.out.below st.out)
      replace B_c := Lib.hid (B_c.out.below st.out)
      replace O_c := Lib.hid (O_c.out.below st.out)
      replace U := Lib.hid (U.out.trans (st.out.mono U.out.size))
      replace TB := Lib.hid (TB.out.below st.out)
      have B_d := Lib.hid (show BoxAt W31 (w28.heap.size) 26 #[.int .i64 d1, .slice a28 l2.length c28] by rw [← hW31]; exact BoxAt.new _ _ _)
      have O_d := Lib.hid (show Own W31 _ a28 l2 by rw [← hW31]; exact ho.alloc _)
      clear st hb ho hc
      obtain ⟨k33a, k33b, k33c, k33d⟩ := B_b.out.two
      obtain ⟨k34a, k34b, k34c, k34d⟩ := B_c.out.two
      go_wp2_with fail
      clear hW31
      refine (Calls.mono (show Calls Tryd.prog 19 #[.agg #[.int .i64 s2, .slice a2 xs2.length c2], .agg #[.int .i64 s3, .slice a3 xs3.length c3]] W31 (RetWC (d1, l2, dc) W31.heap.size W31) from by
        have := sCommonOfWholes s2 s3 a2 a3 xs2 xs3 c2 c3 W31 W31.heap.size W31.heap.size (Nat.le_refl _) (Nat.le_refl _) O_b.out.ints O_c.out.ints L_b.out L_c.out HCB.out HCC.out
        rwa [← HR.out] at this) ?_)
      rintro e w32 ⟨a32, c32, rfl, hc, ho, hb⟩
      clear k33a k33b k33c k33d k34a k34b k34c k34d
      obtain ⟨W35, hW35⟩ : ∃ W : World, (w32).alloc (.cells #[.int .i64 d1, .slice a32 l2.length c32] 26) = W := ⟨_, rfl⟩
      have st := Lib.hid (show Below W31.heap.size W31 W35 by rw [← hW35]; exact hb.alloc hb.size _)
      replace B_u := Lib.hid (B_u.out.below st.out)
      replace O_u := Lib.hid (O_u.out.below st.out)
      replace B_b := Lib.hid (B_b.out.below st.out)
      replace O_b := Lib.hid (O_b.out.below st.out)
      replace B_c := Lib.hid (B_c.out.below st.out)
      replace O_c := Lib.hid (O_c.out.below st.out)
      replace B_d := Lib.hid (B_d.out.below st.out)
      replace O_d := Lib.hid (O_d.out.below st.out)
      replace U := Lib.hid (U.out.trans (st.out.mono U.out.size))
      replace TB := Lib.hid (TB.out.below st.out)
      have B_dd := Lib.hid (show BoxAt W35 (w32.heap.size) 26 #[.int .i64 d1, .slice a32 l2.length c32] by rw [← hW35]; exact BoxAt.new _ _ _)
      have O_dd := Lib.hid (show Own W35 _ a32 l2 by rw [← hW35]; exact ho.alloc _)
      clear st hb ho hc
      have hq : (dc != dc) = false := by simp
      obtain ⟨k37a, k37b, k37c, k37d⟩ := B_d.out.two
      obtain ⟨k38a, k38b, k38c, k38d⟩ := B_dd.out.two
      go_wp2_with fail
      clear hW35
      refine (Calls.mono (show Calls Tryd.prog 13 #[.agg #[.int .i64 d1, .slice a28 l2.length c28], .agg #[.int .i64 d1, .slice a32 l2.length c32]] W35 (RetB (.bool true) W35) from by
        have := whole5_same d1 a28 a32 l2 c28 c32 W35 W35.heap.size W35.heap.size (Nat.le_refl _) (Nat.le_refl _) O_d.out.ints O_dd.out.ints L_d.out
        exact this) ?_)
      rintro e w36 ⟨rfl, hb⟩
      clear k37a k37b k37c k37d k38a k38b k38c k38d
      replace B_u := Lib.hid (B_u.out.below hb)
      replace O_u := Lib.hid (O_u.out.below hb)
      replace B_b := Lib.hid (B_b.out.below hb)
      replace O_b := Lib.hid (O_b.out.below hb)
      replace B_c := Lib.hid (B_c.out.below hb)
      replace O_c := Lib.hid (O_c.out.below hb)
      replace B_d := Lib.hid (B_d.out.below hb)
      replace O_d := Lib.hid (O_d.out.below hb)
      replace B_dd := Lib.hid (B_dd.out.below hb)
      replace O_dd := Lib.hid (O_dd.out.below hb)
      replace U := Lib.hid (U.out.trans (hb.mono U.out.size))
      replace TB := Lib.hid (TB.out.below hb)
      clear hb
      clear B_dd O_dd
      obtain ⟨bb, hbb⟩ : ∃ bb : Bool, bb = (dc == 0 && !(d1 == 0)) := ⟨_, rfl⟩
      have HBB := Lib.hid hbb
      clear hbb
      go_upto_region 25 with fail
      clear hq
      go_cut [161] (fun u W => u = .bool bb ∧ Below w36.heap.size w36 W)
      case first =>
        obtain ⟨k39a, k39b, k39c, k39d⟩ := B_d.out.two
        by_cases hz : dc = 0
        · subst hz
          by_cases hd : d1 = 0
          · subst hd
            go_wp2_with fail
            go_meet
            exact ⟨by rw [HBB.out]; simp, Below.refl _ _⟩
          · have h0 : (d1 != 0) = true := by simpa using hd
            have hbb : bb = true := by rw [HBB.out]; simpa using hd
            subst hbb
            clear hd
            go_wp2_with fail
            go_meet
            exact ⟨rfl, Below.refl _ _⟩
        · have h0 := ne_zero_code hz
          have hbb : bb = false := by rw [HBB.out, h0]; rfl
          subst hbb
          clear hz
          go_wp2_with fail
          go_meet
          exact ⟨rfl, Below.refl _ _⟩
      case rest => as_aux_lemma =>
        obtain ⟨hu, hcut⟩ := hcut
        subst hu
        replace B_u := Lib.hid (B_u.out.below hcut)
        replace O_u := Lib.hid (O_u.out.below hcut)
        replace B_b := Lib.hid (B_b.out.below hcut)
        replace O_b := Lib.hid (O_b.out.below hcut)
        replace B_c := Lib.hid (B_c.out.below hcut)
        replace O_c := Lib.hid (O_c.out.below hcut)
        replace B_d := Lib.hid (B_d.out.below hcut)
        replace O_d := Lib.hid (O_d.out.below hcut)
        replace U := Lib.hid (U.out.trans (hcut.mono U.out.size))
        replace TB := Lib.hid (TB.out.below hcut)
        clear hcut
        go_upto_if 161 with fail
        obtain ⟨wx, hwx⟩ : ∃ W : World, W = wc := ⟨_, rfl⟩
        subst hwx
        go_cut [] (fun W => Below wx.heap.size wx W)
        case first =>
          cases bb
          · go_wp2_with fail
            go_meet
            exact Below.refl _ _
          · have h1 : dc = 0 ∧ d1 ≠ 0 := by have := HBB.out; simpa using this
            obtain ⟨hz, hd⟩ := h1
            subst hz
            have CC := Lib.hid (Below.refl wx.heap.size wx)
            obtain ⟨x1, xl, y1, yl, f1, f2, f3⟩ := common_facts HR.out hd
            obtain ⟨zl, hzl⟩ : ∃ z : List Int, z = [] := ⟨_, rfl⟩
            obtain ⟨ul, hul⟩ : ∃ z : List Int, z = [1] := ⟨_, rfl⟩
            rw [← hzl] at f1 f2
            rw [← hul] at f3
            have L_x := Lib.hid (show xl.length ≤ 9223372036854775807 by have h := (divR_len s2 xs2 d1 l2).1; rw [f1] at h; exact len200 h)
            have L_y := Lib.hid (show yl.length ≤ 9223372036854775807 by have h := (divR_len s3 xs3 d1 l2).1; rw [f2] at h; exact len200 h)
            have F1 := Lib.hid f1
            have F2 := Lib.hid f2
            have F3 := Lib.hid f3
            have HUL := Lib.hid hul
            clear f1 f2 f3 hd hzl hul
            obtain ⟨k41a, k41b, k41c, k41d⟩ := B_b.out.two
            obtain ⟨k42a, k42b, k42c, k42d⟩ := B_d.out.two
            go_wp2_with fail
            refine (Calls.mono (show Calls Tryd.prog 20 #[.agg #[.int .i64 s2, .slice a2 xs2.length c2], .agg #[.int .i64 d1, .slice a28 l2.length c28]] wx (fun e w' => ∃ a c a' c', e = .returned (.tuple #[.agg #[.int .i64 x1, .slice a xl.length c], .agg #[.int .i64 0, .slice a' zl.length c'], .int .i64 0]) ∧ Own w' wx.heap.size a xl ∧ Own w' wx.heap.size a' zl ∧ Below wx.heap.size wx w') from by
              have := iDivideWholes s2 d1 a2 a28 xs2 l2 c2 c28 wx wx.heap.size wx.heap.size (Nat.le_refl _) (Nat.le_refl _) O_b.out.ints O_d.out.ints L_b.out L_d.out
              rw [F1.out] at this
              exact this.mono fun e w' ⟨a, c, a', c', he, _, _, ho, hp, _, hb⟩ => ⟨a, c, a', c', he, ho, hp, hb⟩) ?_)
            rintro e w40 ⟨a40, c40, a40', c40', rfl, ho, ho', hb⟩
            clear k41a k41b k41c k41d k42a k42b k42c k42d
            obtain ⟨W43, hW43⟩ : ∃ W : World, ((w40).alloc (.cells #[.int .i64 x1, .slice a40 xl.length c40] 26)).alloc (.cells #[.int .i64 0, .slice a40' zl.length c40'] 26) = W := ⟨_, rfl⟩
            have st := Lib.hid (show Below wx.heap.size wx W43 by rw [← hW43]; exact (hb.alloc hb.size _).alloc (by have := hb.size; simp; omega) _)
            replace B_u := Lib.hid (B_u.out.below st.out)
            replace O_u := Lib.hid (O_u.out.below st.out)
            replace B_b := Lib.hid (B_b.out.below st.out)
            replace O_b := Lib.hid (O_b.out.below st.out)
            replace B_c := Lib.hid (B_c.out.below st.out)
            replace O_c := Lib.hid (O_c.out.below st.out)
            replace B_d := Lib.hid (B_d.out.below st.out)
            replace O_d := Lib.hid (O_d.out.below st.out)
            replace U := Lib.hid (U.out.trans (st.out.mono U.out.size))
            replace TB := Lib.hid (TB.out.below st.out)
            replace CC := Lib.hid (CC.out.trans (st.out.mono CC.out.size))
            have B_x := Lib.hid (show BoxAt W43 (w40.heap.size) 26 #[.int .i64 x1, .slice a40 xl.length c40] by rw [← hW43]; exact (BoxAt.new _ _ _).alloc _)
            have O_x := Lib.hid (show Own W43 _ a40 xl by rw [← hW43]; exact (ho.alloc _).alloc _)
            have B_xr := Lib.hid (show BoxAt W43 (w40.heap.size + 1) 26 #[.int .i64 0, .slice a40' zl.length c40'] by rw [← hW43]; have := BoxAt.new ((w40).alloc (.cells #[.int .i64 x1, .slice a40 xl.length c40] 26)) 26 #[.int .i64 0, .slice a40' zl.length c40']; simpa using this)
            have O_xr := Lib.hid (show Own W43 _ a40' zl by rw [← hW43]; exact (ho'.alloc _).alloc _)
            clear st hb ho ho' 
            obtain ⟨k45a, k45b, k45c, k45d⟩ := B_c.out.two
            obtain ⟨k46a, k46b, k46c, k46d⟩ := B_d.out.two
            go_wp2_with fail
            clear hW43
            refine (Calls.mono (show Calls Tryd.prog 20 #[.agg #[.int .i64 s3, .slice a3 xs3.length c3], .agg #[.int .i64 d1, .slice a28 l2.length c28]] W43 (fun e w' => ∃ a c a' c', e = .returned (.tuple #[.agg #[.int .i64 y1, .slice a yl.length c], .agg #[.int .i64 0, .slice a' zl.length c'], .int .i64 0]) ∧ Own w' W43.heap.size a yl ∧ Own w' W43.heap.size a' zl ∧ Below W43.heap.size W43 w') from by
              have := iDivideWholes s3 d1 a3 a28 xs3 l2 c3 c28 W43 W43.heap.size W43.heap.size (Nat.le_refl _) (Nat.le_refl _) O_c.out.ints O_d.out.ints L_c.out L_d.out
              rw [F2.out] at this
              exact this.mono fun e w' ⟨a, c, a', c', he, _, _, ho, hp, _, hb⟩ => ⟨a, c, a', c', he, ho, hp, hb⟩) ?_)
            rintro e w44 ⟨a44, c44, a44', c44', rfl, ho, ho', hb⟩
            clear k45a k45b k45c k45d k46a k46b k46c k46d
            obtain ⟨W47, hW47⟩ : ∃ W : World, ((w44).alloc (.cells #[.int .i64 y1, .slice a44 yl.length c44] 26)).alloc (.cells #[.int .i64 0, .slice a44' zl.length c44'] 26) = W := ⟨_, rfl⟩
            have st := Lib.hid (show Below W43.heap.size W43 W47 by rw [← hW47]; exact (hb.alloc hb.size _).alloc (by have := hb.size; simp; omega) _)
            replace B_u := Lib.hid (B_u.out.below st.out)
            replace O_u := Lib.hid (O_u.out.below st.out)
            replace B_b := Lib.hid (B_b.out.below st.out)
            replace O_b := Lib.hid (O_b.out.below st.out)
            replace B_c := Lib.hid (B_c.out.below st.out)
            replace O_c := Lib.hid (O_c.out.below st.out)
            replace B_d := Lib.hid (B_d.out.below st.out)
            replace O_d := Lib.hid (O_d.out.below st.out)
            replace B_x := Lib.hid (B_x.out.below st.out)
            replace O_x := Lib.hid (O_x.out.below st.out)
            replace B_xr := Lib.hid (B_xr.out.below st.out)
            replace O_xr := Lib.hid (O_xr.out.below st.out)
            replace U := Lib.hid (U.out.trans (st.out.mono U.out.size))
            replace TB := Lib.hid (TB.out.below st.out)
            replace CC := Lib.hid (CC.out.trans (st.out.mono CC.out.size))
            have B_y := Lib.hid (show BoxAt W47 (w44.heap.size) 26 #[.int .i64 y1, .slice a44 yl.length c44] by rw [← hW47]; exact (BoxAt.new _ _ _).alloc _)
            have O_y := Lib.hid (show Own W47 _ a44 yl by rw [← hW47]; exact (ho.alloc _).alloc _)
            have B_yr := Lib.hid (show BoxAt W47 (w44.heap.size + 1) 26 #[.int .i64 0, .slice a44' zl.length c44'] by rw [← hW47]; have := BoxAt.new ((w44).alloc (.cells #[.int .i64 y1, .slice a44 yl.length c44] 26)) 26 #[.int .i64 0, .slice a44' zl.length c44']; simpa using this)
            have O_yr := Lib.hid (show Own W47 _ a44' zl by rw [← hW47]; exact (ho'.alloc _).alloc _)
            clear st hb ho ho' 
            obtain ⟨k49a, k49b, k49c, k49d⟩ := B_x.out.two
            obtain ⟨k50a, k50b, k50c, k50d⟩ := B_y.out.two
            go_wp2_with fail
            clear hW47
            refine (Calls.mono (show Calls Tryd.prog 18 #[.agg #[.int .i64 x1, .slice a40 xl.length c40], .agg #[.int .i64 y1, .slice a44 yl.length c44]] W47 (RetWC (1, ul, 0) W47.heap.size W47) from by
              have := iCommonOfWholes x1 y1 a40 a44 xl yl c40 c44 W47 W47.heap.size W47.heap.size (Nat.le_refl _) (Nat.le_refl _) O_x.out.ints O_y.out.ints L_x.out L_y.out
              rwa [F3.out] at this) ?_)
            rintro e w48 ⟨a48, c48, rfl, hc, ho, hb⟩
            clear k49a k49b k49c k49d k50a k50b k50c k50d
            obtain ⟨W51, hW51⟩ : ∃ W : World, (w48).alloc (.cells #[.int .i64 1, .slice a48 ul.length c48] 26) = W := ⟨_, rfl⟩
            have st := Lib.hid (show Below W47.heap.size W47 W51 by rw [← hW51]; exact hb.alloc hb.size _)
            replace B_u := Lib.hid (B_u.out.below st.out)
            replace O_u := Lib.hid (O_u.out.below st.out)
            replace B_b := Lib.hid (B_b.out.below st.out)
            replace O_b := Lib.hid (O_b.out.below st.out)
            replace B_c := Lib.hid (B_c.out.below st.out)
            replace O_c := Lib.hid (O_c.out.below st.out)
            replace B_d := Lib.hid (B_d.out.below st.out)
            replace O_d := Lib.hid (O_d.out.below st.out)
            replace B_x := Lib.hid (B_x.out.below st.out)
            replace O_x := Lib.hid (O_x.out.below st.out)
            replace B_xr := Lib.hid (B_xr.out.below st.out)
            replace O_xr := Lib.hid (O_xr.out.below st.out)
            replace B_y := Lib.hid (B_y.out.below st.out)
            replace O_y := Lib.hid (O_y.out.below st.out)
            replace B_yr := Lib.hid (B_yr.out.below st.out)
            replace O_yr := Lib.hid (O_yr.out.below st.out)
            replace U := Lib.hid (U.out.trans (st.out.mono U.out.size))
            replace TB := Lib.hid (TB.out.below st.out)
            replace CC := Lib.hid (CC.out.trans (st.out.mono CC.out.size))
            have B_e := Lib.hid (show BoxAt W51 (w48.heap.size) 26 #[.int .i64 1, .slice a48 ul.length c48] by rw [← hW51]; exact BoxAt.new _ _ _)
            have O_e := Lib.hid (show Own W51 _ a48 ul by rw [← hW51]; exact ho.alloc _)
            clear st hb ho hc
            obtain ⟨k52a, k52b, k52c, k52d⟩ := B_xr.out.two
            obtain ⟨k53a, k53b, k53c, k53d⟩ := B_yr.out.two
            obtain ⟨k55a, k55b, k55c, k55d⟩ := B_e.out.two
            obtain ⟨k56a, k56b, k56c, k56d⟩ := B_u.out.two
            go_wp2_with fail
            clear hW51
            refine (Calls.mono (show Calls Tryd.prog 13 #[.agg #[.int .i64 1, .slice a48 ul.length c48], .agg #[.int .i64 1, .slice (some ⟨w.heap.size, 0, none⟩) 1 1]] W51 (RetB (.bool true) W51) from by
              have h := O_e.out
              rw [HUL.out] at h ⊢
              exact whole5_same 1 a48 (some ⟨w.heap.size, 0, none⟩) [1] c48 1 W51 W51.heap.size W51.heap.size (Nat.le_refl _) (Nat.le_refl _) h.ints O_u.out.ints L_u.out) ?_)
            rintro e w54 ⟨rfl, hb⟩
            clear k52a k52b k52c k52d k53a k53b k53c k53d k55a k55b k55c k55d k56a k56b k56c k56d
            replace B_u := Lib.hid (B_u.out.below hb)
            replace O_u := Lib.hid (O_u.out.below hb)
            replace B_b := Lib.hid (B_b.out.below hb)
            replace O_b := Lib.hid (O_b.out.below hb)
            replace B_c := Lib.hid (B_c.out.below hb)
            replace O_c := Lib.hid (O_c.out.below hb)
            replace B_d := Lib.hid (B_d.out.below hb)
            replace O_d := Lib.hid (O_d.out.below hb)
            replace B_x := Lib.hid (B_x.out.below hb)
            replace O_x := Lib.hid (O_x.out.below hb)
            replace B_xr := Lib.hid (B_xr.out.below hb)
            replace O_xr := Lib.hid (O_xr.out.below hb)
            replace B_y := Lib.hid (B_y.out.below hb)
            replace O_y := Lib.hid (O_y.out.below hb)
            replace B_yr := Lib.hid (B_yr.out.below hb)
            replace O_yr := Lib.hid (O_yr.out.below hb)
            replace B_e := Lib.hid (B_e.out.below hb)
            replace O_e := Lib.hid (O_e.out.below hb)
            replace U := Lib.hid (U.out.trans (hb.mono U.out.size))
            replace TB := Lib.hid (TB.out.below hb)
            replace CC := Lib.hid (CC.out.trans (hb.mono CC.out.size))
            clear hb
            go_wp2_with fail
            go_meet
            exact CC.out
        case rest => as_aux_lemma =>
          clear B_b O_b
          clear B_c O_c
          clear B_d O_d
          clear B_u O_u
          clear HR HBB L_b L_c L_d L_dd HCB HCC
          replace U := Lib.hid (U.out.trans (hcut.mono U.out.size))
          replace TB := Lib.hid (TB.out.below hcut)
          clear hcut
          go_wp2_with fail
          refine (drawShift a len cap wc HL.out (HC.out.below U.out U.out.size)).mono ?_
          rintro e we ⟨s4, xs4, a4, c4, k4, rfl, hx, hc, ho, hn, hb⟩
          have L_f := Lib.hid (big_len hx)
          have L_bk := L_f
          obtain ⟨W57, hW57⟩ : ∃ W : World, (we).alloc (.cells #[.int .i64 s4, .slice a4 xs4.length c4] 26) = W := ⟨_, rfl⟩
          have st := Lib.hid (show Below wc.heap.size wc W57 by rw [← hW57]; exact hb.alloc hb.size _)
          replace U := Lib.hid (U.out.trans (st.out.mono U.out.size))
          replace TB := Lib.hid (TB.out.below st.out)
          have B_f := Lib.hid (show BoxAt W57 (we.heap.size) 26 #[.int .i64 s4, .slice a4 xs4.length c4] by rw [← hW57]; exact BoxAt.new _ _ _)
          have O_f := Lib.hid (show Own W57 _ a4 xs4 by rw [← hW57]; exact ho.alloc _)
          clear st hb ho hx hc hn
          obtain ⟨⟨f1, l4, fc⟩, hr⟩ : ∃ r, r = shR s4 xs4 k4 := ⟨_, rfl⟩
          have HR := Lib.hid hr
          have L_g := Lib.hid (show l4.length ≤ 9223372036854775807 by have h := shR_len s4 xs4 k4; rw [← hr] at h; exact len200 h)
          have L_gg := L_g
          clear hr
          obtain ⟨k59a, k59b, k59c, k59d⟩ := B_f.out.two
          go_wp2_with fail
          clear hW57
          refine (Calls.mono (show Calls Tryd.prog 22 #[.agg #[.int .i64 s4, .slice a4 xs4.length c4], .int .i64 k4] W57 (RetWC (f1, l4, fc) W57.heap.size W57) from by
            have := iShiftWhole s4 a4 xs4 c4 k4 W57 W57.heap.size (Nat.le_refl _) O_f.out.ints L_f.out TB.out
            rwa [← HR.out] at this) ?_)
          rintro e w58 ⟨a58, c58, rfl, hc, ho, hb⟩
          clear k59a k59b k59c k59d
          obtain ⟨W60, hW60⟩ : ∃ W : World, (w58).alloc (.cells #[.int .i64 f1, .slice a58 l4.length c58] 26) = W := ⟨_, rfl⟩
          have st := Lib.hid (show Below W57.heap.size W57 W60 by rw [← hW60]; exact hb.alloc hb.size _)
          replace B_f := Lib.hid (B_f.out.below st.out)
          replace O_f := Lib.hid (O_f.out.below st.out)
          replace U := Lib.hid (U.out.trans (st.out.mono U.out.size))
          replace TB := Lib.hid (TB.out.below st.out)
          have B_g := Lib.hid (show BoxAt W60 (w58.heap.size) 26 #[.int .i64 f1, .slice a58 l4.length c58] by rw [← hW60]; exact BoxAt.new _ _ _)
          have O_g := Lib.hid (show Own W60 _ a58 l4 by rw [← hW60]; exact ho.alloc _)
          clear st hb ho hc
          obtain ⟨k62a, k62b, k62c, k62d⟩ := B_f.out.two
          go_wp2_with fail
          clear hW60
          refine (Calls.mono (show Calls Tryd.prog 23 #[.agg #[.int .i64 s4, .slice a4 xs4.length c4], .int .i64 k4] W60 (RetWC (f1, l4, fc) W60.heap.size W60) from by
            have := sShiftWhole s4 a4 xs4 c4 k4 W60 W60.heap.size (Nat.le_refl _) O_f.out.ints L_f.out
            rwa [← HR.out] at this) ?_)
          rintro e w61 ⟨a61, c61, rfl, hc, ho, hb⟩
          clear k62a k62b k62c k62d
          obtain ⟨W63, hW63⟩ : ∃ W : World, (w61).alloc (.cells #[.int .i64 f1, .slice a61 l4.length c61] 26) = W := ⟨_, rfl⟩
          have st := Lib.hid (show Below W60.heap.size W60 W63 by rw [← hW63]; exact hb.alloc hb.size _)
          replace B_f := Lib.hid (B_f.out.below st.out)
          replace O_f := Lib.hid (O_f.out.below st.out)
          replace B_g := Lib.hid (B_g.out.below st.out)
          replace O_g := Lib.hid (O_g.out.below st.out)
          replace U := Lib.hid (U.out.trans (st.out.mono U.out.size))
          replace TB := Lib.hid (TB.out.below st.out)
          have B_gg := Lib.hid (show BoxAt W63 (w61.heap.size) 26 #[.int .i64 f1, .slice a61 l4.length c61] by rw [← hW63]; exact BoxAt.new _ _ _)
          have O_gg := Lib.hid (show Own W63 _ a61 l4 by rw [← hW63]; exact ho.alloc _)
          clear st hb ho hc
          have hq : (fc != fc) = false := by simp
          obtain ⟨k65a, k65b, k65c, k65d⟩ := B_g.out.two
          obtain ⟨k66a, k66b, k66c, k66d⟩ := B_gg.out.two
          go_wp2_with fail
          clear hW63
          refine (Calls.mono (show Calls Tryd.prog 13 #[.agg #[.int .i64 f1, .slice a58 l4.length c58], .agg #[.int .i64 f1, .slice a61 l4.length c61]] W63 (RetB (.bool true) W63) from by
            have := whole5_same f1 a58 a61 l4 c58 c61 W63 W63.heap.size W63.heap.size (Nat.le_refl _) (Nat.le_refl _) O_g.out.ints O_gg.out.ints L_g.out
            exact this) ?_)
          rintro e w64 ⟨rfl, hb⟩
          clear k65a k65b k65c k65d k66a k66b k66c k66d
          replace B_f := Lib.hid (B_f.out.below hb)
          replace O_f := Lib.hid (O_f.out.below hb)
          replace B_g := Lib.hid (B_g.out.below hb)
          replace O_g := Lib.hid (O_g.out.below hb)
          replace B_gg := Lib.hid (B_gg.out.below hb)
          replace O_gg := Lib.hid (O_gg.out.below hb)
          replace U := Lib.hid (U.out.trans (hb.mono U.out.size))
          replace TB := Lib.hid (TB.out.below hb)
          clear hb
          clear B_gg O_gg
          obtain ⟨bb, hbb⟩ : ∃ bb : Bool, bb = (fc == 0 && decide (0 ≤ k4)) := ⟨_, rfl⟩
          have HBB := Lib.hid hbb
          clear hbb
          go_upto_region 36 with fail
          clear hq
          go_cut [239] (fun u W => u = .bool bb ∧ Below w64.heap.size w64 W)
          case first =>
            by_cases hz : fc = 0
            · subst hz
              by_cases hk : 0 ≤ k4
              · have hbb : bb = true := by rw [HBB.out]; simpa using hk
                subst hbb
                go_wp2_with fail
                go_meet
                exact ⟨rfl, Below.refl _ _⟩
              · have hbb : bb = false := by rw [HBB.out]; simpa using hk
                subst hbb
                go_wp2_with fail
                go_meet
                exact ⟨rfl, Below.refl _ _⟩
            · have h0 := ne_zero_code hz
              have hbb : bb = false := by rw [HBB.out, h0]; rfl
              subst hbb
              clear hz
              go_wp2_with fail
              go_meet
              exact ⟨rfl, Below.refl _ _⟩
          case rest => as_aux_lemma =>
            obtain ⟨hu, hcut⟩ := hcut
            subst hu
            replace B_f := Lib.hid (B_f.out.below hcut)
            replace O_f := Lib.hid (O_f.out.below hcut)
            replace B_g := Lib.hid (B_g.out.below hcut)
            replace O_g := Lib.hid (O_g.out.below hcut)
            replace U := Lib.hid (U.out.trans (hcut.mono U.out.size))
            replace TB := Lib.hid (TB.out.below hcut)
            clear hcut
            go_upto_if 239 with fail
            obtain ⟨wy, hwy⟩ : ∃ W : World, W = wc := ⟨_, rfl⟩
            subst hwy
            go_cut [] (fun W => Below wy.heap.size wy W)
            case first =>
              cases bb
              · go_wp2_with fail
                go_meet
                exact Below.refl _ _
              · have h1 : fc = 0 ∧ 0 ≤ k4 := by have := HBB.out; simpa using this
                obtain ⟨hz, hk⟩ := h1
                subst hz
                have CC := Lib.hid (Below.refl wy.heap.size wy)
                obtain ⟨g1, n1, n0, g2, g3, n5, n6, hk5, g4⟩ := shift_facts HR.out hk
                have F1 := Lib.hid g1
                have F2 := Lib.hid g2
                have F3 := Lib.hid g3
                have F4 := Lib.hid g4
                clear g1 g2 g3 g4
                obtain ⟨k68a, k68b, k68c, k68d⟩ := B_g.out.two
                go_wp2_with fail
                refine (Calls.mono (show Calls Tryd.prog 22 #[.agg #[.int .i64 f1, .slice a58 l4.length c58], .int .i64 (-k4)] wy (RetWC (s4, xs4, 0) wy.heap.size wy) from by
                  have := iShiftWhole f1 a58 l4 c58 (-k4) wy wy.heap.size (Nat.le_refl _) O_g.out.ints L_g.out TB.out
                  rwa [F1.out] at this) ?_)
                rintro e w67 ⟨a67, c67, rfl, hc, ho, hb⟩
                clear k68a k68b k68c k68d
                obtain ⟨W69, hW69⟩ : ∃ W : World, (w67).alloc (.cells #[.int .i64 s4, .slice a67 xs4.length c67] 26) = W := ⟨_, rfl⟩
                have st := Lib.hid (show Below wy.heap.size wy W69 by rw [← hW69]; exact hb.alloc hb.size _)
                replace B_f := Lib.hid (B_f.out.below st.out)
                replace O_f := Lib.hid (O_f.out.below st.out)
                replace B_g := Lib.hid (B_g.out.below st.out)
                replace O_g := Lib.hid (O_g.out.below st.out)
                replace U := Lib.hid (U.out.trans (st.out.mono U.out.size))
                replace TB := Lib.hid (TB.out.below st.out)
                replace CC := Lib.hid (CC.out.trans (st.out.mono CC.out.size))
                have B_bk := Lib.hid (show BoxAt W69 (w67.heap.size) 26 #[.int .i64 s4, .slice a67 xs4.length c67] by rw [← hW69]; exact BoxAt.new _ _ _)
                have O_bk := Lib.hid (show Own W69 _ a67 xs4 by rw [← hW69]; exact ho.alloc _)
                clear st hb ho hc
                obtain ⟨k71a, k71b, k71c, k71d⟩ := B_g.out.two
                go_wp2_with fail
                clear hW69
                refine (Calls.mono (show Calls Tryd.prog 24 #[.agg #[.int .i64 f1, .slice a58 l4.length c58]] W69 (RetB (.tuple #[.int .i64 n1, .int .i64 0]) W69) from by
                  have := iLengthOfWhole f1 a58 l4 c58 W69 W69.heap.size (Nat.le_refl _) O_g.out.ints L_g.out
                  rwa [F2.out] at this) ?_)
                rintro e w70 ⟨rfl, hb⟩
                clear k71a k71b k71c k71d
                replace B_f := Lib.hid (B_f.out.below hb)
                replace O_f := Lib.hid (O_f.out.below hb)
                replace B_g := Lib.hid (B_g.out.below hb)
                replace O_g := Lib.hid (O_g.out.below hb)
                replace B_bk := Lib.hid (B_bk.out.below hb)
                replace O_bk := Lib.hid (O_bk.out.below hb)
                replace U := Lib.hid (U.out.trans (hb.mono U.out.size))
                replace TB := Lib.hid (TB.out.below hb)
                replace CC := Lib.hid (CC.out.trans (hb.mono CC.out.size))
                clear hb
                obtain ⟨k73a, k73b, k73c, k73d⟩ := B_f.out.two
                go_wp2_with fail
                refine (Calls.mono (show Calls Tryd.prog 24 #[.agg #[.int .i64 s4, .slice a4 xs4.length c4]] w70 (RetB (.tuple #[.int .i64 n0, .int .i64 0]) w70) from by
                  have := iLengthOfWhole s4 a4 xs4 c4 w70 w70.heap.size (Nat.le_refl _) O_f.out.ints L_f.out
                  rwa [F3.out] at this) ?_)
                rintro e w72 ⟨rfl, hb⟩
                clear k73a k73b k73c k73d
                replace B_f := Lib.hid (B_f.out.below hb)
                replace O_f := Lib.hid (O_f.out.below hb)
                replace B_g := Lib.hid (B_g.out.below hb)
                replace O_g := Lib.hid (O_g.out.below hb)
                replace B_bk := Lib.hid (B_bk.out.below hb)
                replace O_bk := Lib.hid (O_bk.out.below hb)
                replace U := Lib.hid (U.out.trans (hb.mono U.out.size))
                replace TB := Lib.hid (TB.out.below hb)
                replace CC := Lib.hid (CC.out.trans (hb.mono CC.out.size))
                clear hb
                obtain ⟨k75a, k75b, k75c, k75d⟩ := B_bk.out.two
                obtain ⟨k76a, k76b, k76c, k76d⟩ := B_f.out.two
                go_wp2_with fail
                refine (Calls.mono (show Calls Tryd.prog 13 #[.agg #[.int .i64 s4, .slice a67 xs4.length c67], .agg #[.int .i64 s4, .slice a4 xs4.length c4]] w72 (RetB (.bool true) w72) from by
                  have := whole5_same s4 a67 a4 xs4 c67 c4 w72 w72.heap.size w72.heap.size (Nat.le_refl _) (Nat.le_refl _) O_bk.out.ints O_f.out.ints L_bk.out
                  exact this) ?_)
                rintro e w74 ⟨rfl, hb⟩
                clear k75a k75b k75c k75d k76a k76b k76c k76d
                replace B_f := Lib.hid (B_f.out.below hb)
                replace O_f := Lib.hid (O_f.out.below hb)
                replace B_g := Lib.hid (B_g.out.below hb)
                replace O_g := Lib.hid (O_g.out.below hb)
                replace B_bk := Lib.hid (B_bk.out.below hb)
                replace O_bk := Lib.hid (O_bk.out.below hb)
                replace U := Lib.hid (U.out.trans (hb.mono U.out.size))
                replace TB := Lib.hid (TB.out.below hb)
                replace CC := Lib.hid (CC.out.trans (hb.mono CC.out.size))
                clear hb
                obtain ⟨k77a, k77b, k77c, k77d⟩ := B_f.out.two
                by_cases hs : s4 = 0
                · subst hs
                  go_wp2_with fail
                  go_meet
                  exact CC.out
                · have h0 : (s4 != 0) = true := by simpa using hs
                  have hw : IntKind.i64.wrap (n0 + k4) = n1 := by rw [F4.out hs]; exact IntWalk.i64_in _ (by omega)
                  have hq : (n1 != n1) = false := by simp
                  clear hs n5 n6 hk hk5
                  go_wp2_with fail
                  go_meet
                  exact CC.out
            case rest => as_aux_lemma =>
              clear B_f O_f
              clear B_g O_g
              clear HR HBB L_f L_bk L_g L_gg
              replace U := Lib.hid (U.out.trans (hcut.mono U.out.size))
              replace TB := Lib.hid (TB.out.below hcut)
              clear hcut
              go_wp2_with fail
              refine (drawTwos a len cap wc HL.out (HC.out.below U.out U.out.size)).mono ?_
              rintro e wg ⟨s5, xs5, a5, c5, rfl, hx, hc, ho, hb⟩
              have L_h := Lib.hid (big_len hx)
              obtain ⟨W78, hW78⟩ : ∃ W : World, (wg).alloc (.cells #[.int .i64 s5, .slice a5 xs5.length c5] 26) = W := ⟨_, rfl⟩
              have st := Lib.hid (show Below wc.heap.size wc W78 by rw [← hW78]; exact hb.alloc hb.size _)
              replace U := Lib.hid (U.out.trans (st.out.mono U.out.size))
              replace TB := Lib.hid (TB.out.below st.out)
              have B_h := Lib.hid (show BoxAt W78 (wg.heap.size) 26 #[.int .i64 s5, .slice a5 xs5.length c5] by rw [← hW78]; exact BoxAt.new _ _ _)
              have O_h := Lib.hid (show Own W78 _ a5 xs5 by rw [← hW78]; exact ho.alloc _)
              clear st hb ho hx hc
              obtain ⟨⟨tv, tc⟩, hr⟩ : ∃ r, r = twR s5 xs5 := ⟨_, rfl⟩
              have HR := Lib.hid hr
              clear hr
              obtain ⟨k80a, k80b, k80c, k80d⟩ := B_h.out.two
              go_wp2_with fail
              clear hW78
              refine (Calls.mono (show Calls Tryd.prog 26 #[.agg #[.int .i64 s5, .slice a5 xs5.length c5]] W78 (RetB (.tuple #[.int .i64 tv, .int .i64 tc]) W78) from by
                have := iTwosIn s5 a5 xs5 c5 W78 W78.heap.size (Nat.le_refl _) O_h.out.ints L_h.out TB.out
                rwa [← HR.out] at this) ?_)
              rintro e w79 ⟨rfl, hb⟩
              clear k80a k80b k80c k80d
              replace B_h := Lib.hid (B_h.out.below hb)
              replace O_h := Lib.hid (O_h.out.below hb)
              replace U := Lib.hid (U.out.trans (hb.mono U.out.size))
              replace TB := Lib.hid (TB.out.below hb)
              clear hb
              obtain ⟨k82a, k82b, k82c, k82d⟩ := B_h.out.two
              go_wp2_with fail
              refine (Calls.mono (show Calls Tryd.prog 27 #[.agg #[.int .i64 s5, .slice a5 xs5.length c5]] w79 (RetB (.tuple #[.int .i64 tv, .int .i64 tc]) w79) from by
                have := sTwosIn s5 a5 xs5 c5 w79 w79.heap.size (Nat.le_refl _) O_h.out.ints L_h.out
                rwa [← HR.out] at this) ?_)
              rintro e w81 ⟨rfl, hb⟩
              clear k82a k82b k82c k82d
              replace B_h := Lib.hid (B_h.out.below hb)
              replace O_h := Lib.hid (O_h.out.below hb)
              replace U := Lib.hid (U.out.trans (hb.mono U.out.size))
              replace TB := Lib.hid (TB.out.below hb)
              clear hb
              have hq1 : (tv == tv) = true := by simp
              have hq2 : (tc == tc) = true := by simp
              go_wp2_with fail
              go_ret
              exact ⟨rfl, U.out⟩
end Go.Proofs.YtfjfmlofhifkmaaDoor
