/-
  The walk of laws.FnExactParts. Conditions: the code's bytes can be read, the listed table is as its initialiser lays it.
-/
import Derived.Test.YtnnbfoemmgddeaaGreatDoorGt
import Derived.Test.YtnnbfoemmgddeaaGreatDoorGs
import Derived.Test.YtnnbfoemmgddeaaGreatDoorEc
import Derived.Deep.DeepCutAuto
namespace Go.Proofs.YtnnbfoemmgddeaaGreatDoor
set_option linter.unusedVariables false
open Go Go.RowKit

theorem exOf_code (x y : Nat) : ∃ s l e s' l' e' q, exOf x y = ⟨s, l, e, s', l', e', q⟩ ∧ l.length ≤ 9223372036854775807 ∧ l'.length ≤ 9223372036854775807 ∧ ((q = 0 ∧ (isF .f64 x = true ∧ isF .f64 y = true) ∧ dyF x = (s, l, e, 0) ∧ dyF y = (s', l', e', 0)) ∨ q = 1) := by
  cases h : (isF .f64 x && isF .f64 y)
  · refine ⟨0, [], 0, 0, [], 0, 1, ?_, by simp, by simp, .inr rfl⟩
    unfold exOf
    rw [if_neg (by rw [h]; decide)]
    rfl
  · have hx : isF .f64 x = true ∧ isF .f64 y = true := by simpa using h
    obtain ⟨s, l, e, c, h1, h2, h3⟩ := dyF_code x
    obtain ⟨s', l', e', c', g1, g2, g3⟩ := dyF_code y
    have hc : c = 0 := by rcases h3 with h3 | h3 <;> first | exact h3.1 | (rw [hx.1] at h3; simp at h3)
    have hc' : c' = 0 := by rcases g3 with g3 | g3 <;> first | exact g3.1 | (rw [hx.2] at g3; simp at g3)
    subst hc hc'
    refine ⟨s, l, e, s', l', e', 0, ?_, h2, g2, .inl ⟨rfl, hx, h1, g1⟩⟩
    unfold exOf
    rw [if_pos h, h1, g1]
theorem fitE_len (p q : Int × List Int × Int) : (fitE p q).l1.length ≤ 9223372036854775807 ∧ (fitE p q).l2.length ≤ 9223372036854775807 := by
  by_cases h : dyB p.1 p.2.1 p.2.2 = true ∧ dyB q.1 q.2.1 q.2.2 = true
  · rw [fitE_yes h.1 h.2]
    obtain ⟨m, e1, h1, _⟩ := isDy_of (dyB_iff.1 h.1)
    obtain ⟨n, e2, h2, _⟩ := isDy_of (dyB_iff.1 h.2)
    simp only
    rw [e1, e2]
    omega
  · rw [fitE_no h]
    exact ⟨by simp [exZ], by simp [exZ]⟩
theorem exMu_len (s : Int) (xs : List Int) (x : Int) (s' : Int) (xs' : List Int) (x' : Int) (t : Int) (ys : List Int) (y : Int) (t' : Int) (ys' : List Int) (y' : Int) : (exY muF s xs x s' xs' x' t ys y t' ys' y').l1.length ≤ 9223372036854775807 ∧ (exY muF s xs x s' xs' x' t ys y t' ys' y').l2.length ≤ 9223372036854775807 := by
  unfold exY
  split
  · unfold muF muG
    split
    · exact fitE_len _ _
    · exact ⟨by simp [exZ], by simp [exZ]⟩
  · exact ⟨by simp [exZ], by simp [exZ]⟩
theorem len1000 {n : Nat} (h : n ≤ 1000) : n ≤ 9223372036854775807 := by omega
theorem len200' {n : Nat} (h : n ≤ 200) : n ≤ 9223372036854775807 := by omega
set_option maxRecDepth 100000 in
set_option maxHeartbeats 16000000 in
theorem parts_walk (a : Option Addr) (len cap : Nat) (w : World) (hlen : len ≤ 9223372036854775807) (hcode : Code8 w.heap.size a len w) (hTab : Tab w) :
    Calls Tryz.prog 3 #[.slice a len cap] w (LawDone w) := by
  by_cases hbig : (len : Int) ≤ 4096
  rotate_left
  · have HBG := Lib.hid (bigYes a len cap (by omega))
    clear hlen hcode hbig hTab
    go_enter Tryz.func3, Tryz.ntmps3
    go_wp2_with (go_at_call 7; refine (HBG.out _).mono ?_; rintro e w' ⟨rfl, rfl⟩)
    go_ret
    exact ⟨rfl, Below.refl _ _⟩
  · have HL := Lib.hid hlen
    have HC := Lib.hid hcode
    have TB := Lib.hid hTab
    have HBG := Lib.hid (bigNo a len cap hbig)
    clear hlen hcode hbig hTab
    have U := Lib.hid (Below.refl w.heap.size w)
    go_enter Tryz.func3, Tryz.ntmps3
    go_wp2_with (go_at_call 7; refine (HBG.out _).mono ?_; rintro e w' ⟨rfl, rfl⟩)
    refine (drawA a len cap w HL.out (HC.out.below U.out U.out.size)).mono ?_
    rintro e wr ⟨x3, y3, x4, y4, ⟨hx3, hy3⟩, ⟨hx4, hy4⟩, rfl, hb⟩
    have X3 := Lib.hid hx3
    have Y3 := Lib.hid hy3
    have X4 := Lib.hid hx4
    have Y4 := Lib.hid hy4
    clear hx3 hy3 hx4 hy4
    replace U := Lib.hid (U.out.trans (hb.mono U.out.size))
    replace TB := Lib.hid (TB.out.below hb)
    clear hb
    obtain ⟨s1, l1, z1, t1, m1, f1, q1, hr, hl, hl', hq⟩ := exOf_code x3 y3
    have HR1 := Lib.hid hr
    have L_ea := Lib.hid hl
    have L_eb := Lib.hid hl'
    have HQ1 := Lib.hid hq
    clear hr hl hl' hq
    obtain ⟨s2, l2, z2, t2, m2, f2, q2, hr, hl, hl', hq⟩ := exOf_code x4 y4
    have HR2 := Lib.hid hr
    have L_fa := Lib.hid hl
    have L_fb := Lib.hid hl'
    have HQ2 := Lib.hid hq
    clear hr hl hl' hq
    obtain ⟨⟨v1, v2, cd⟩, hadd⟩ : ∃ r, addR x3 y3 x4 y4 = r := ⟨_, rfl⟩
    have HADD := Lib.hid hadd
    clear hadd
    go_wp2_with fail
    refine (Calls.mono (show Calls Tryz.prog 9 #[.complex .f64 x3 y3] wr (RetE6C ⟨s1, l1, z1, t1, m1, f1, q1⟩ wr) from by
      have := iExactOf x3 y3 X3.out Y3.out wr TB.out
      rwa [HR1.out] at this) ?_)
    rintro e w1 ⟨a1, c1, b1, d1, rfl, ho, ho', hb⟩
    obtain ⟨W2, hW2⟩ : ∃ W : World, (w1).alloc (.cells #[.int .i64 s1, .slice a1 l1.length c1, .int .i64 z1, .int .i64 t1, .slice b1 m1.length d1, .int .i64 f1] 33) = W := ⟨_, rfl⟩
    have st := Lib.hid (show Below wr.heap.size wr W2 by rw [← hW2]; exact hb.alloc hb.size _)
    replace U := Lib.hid (U.out.trans (st.out.mono U.out.size))
    replace TB := Lib.hid (TB.out.below st.out)
    have B_e := Lib.hid (show BoxAt W2 (w1.heap.size) 33 #[.int .i64 s1, .slice a1 l1.length c1, .int .i64 z1, .int .i64 t1, .slice b1 m1.length d1, .int .i64 f1] by rw [← hW2]; exact BoxAt.new _ _ _)
    have O_ea := Lib.hid (show Own W2 _ a1 l1 by rw [← hW2]; exact (ho).alloc _)
    have O_eb := Lib.hid (show Own W2 _ b1 m1 by rw [← hW2]; exact (ho').alloc _)
    clear st hb
    clear ho ho'
    go_wp2_with fail
    clear hW2
    refine (Calls.mono (show Calls Tryz.prog 9 #[.complex .f64 x4 y4] W2 (RetE6C ⟨s2, l2, z2, t2, m2, f2, q2⟩ W2) from by
      have := iExactOf x4 y4 X4.out Y4.out W2 TB.out
      rwa [HR2.out] at this) ?_)
    rintro e w3 ⟨a3, c3, b3, d3, rfl, ho, ho', hb⟩
    obtain ⟨W4, hW4⟩ : ∃ W : World, (w3).alloc (.cells #[.int .i64 s2, .slice a3 l2.length c3, .int .i64 z2, .int .i64 t2, .slice b3 m2.length d3, .int .i64 f2] 33) = W := ⟨_, rfl⟩
    have st := Lib.hid (show Below W2.heap.size W2 W4 by rw [← hW4]; exact hb.alloc hb.size _)
    replace B_e := Lib.hid (B_e.out.below st.out)
    replace O_ea := Lib.hid (O_ea.out.below st.out)
    replace O_eb := Lib.hid (O_eb.out.below st.out)
    replace U := Lib.hid (U.out.trans (st.out.mono U.out.size))
    replace TB := Lib.hid (TB.out.below st.out)
    have B_f := Lib.hid (show BoxAt W4 (w3.heap.size) 33 #[.int .i64 s2, .slice a3 l2.length c3, .int .i64 z2, .int .i64 t2, .slice b3 m2.length d3, .int .i64 f2] by rw [← hW4]; exact BoxAt.new _ _ _)
    have O_fa := Lib.hid (show Own W4 _ a3 l2 by rw [← hW4]; exact (ho).alloc _)
    have O_fb := Lib.hid (show Own W4 _ b3 m2 by rw [← hW4]; exact (ho').alloc _)
    clear st hb
    clear ho ho'
    go_wp2_with fail
    clear hW4
    refine (Calls.mono (show Calls Tryz.prog 10 #[.complex .f64 x3 y3, .complex .f64 x4 y4] W4 (RetB (.tuple #[.complex .f64 v1 v2, .int .i64 cd]) W4) from by
      have := iAdd x3 y3 x4 y4 W4
      rw [HADD.out] at this
      exact this.mono fun e w' ⟨n, he, hw⟩ => ⟨he, by subst hw; exact below_drewN (Below.refl _ _) n⟩) ?_)
    rintro e w5 ⟨rfl, hb⟩
    replace B_e := Lib.hid (B_e.out.below hb)
    replace O_ea := Lib.hid (O_ea.out.below hb)
    replace O_eb := Lib.hid (O_eb.out.below hb)
    replace B_f := Lib.hid (B_f.out.below hb)
    replace O_fa := Lib.hid (O_fa.out.below hb)
    replace O_fb := Lib.hid (O_fb.out.below hb)
    replace U := Lib.hid (U.out.trans (hb.mono U.out.size))
    replace TB := Lib.hid (TB.out.below hb)
    clear hb
    obtain ⟨bb, hbb⟩ : ∃ bb : Bool, bb = (q1 == 0 && q2 == 0) := ⟨_, rfl⟩
    have HBB := Lib.hid hbb
    clear hbb
    go_upto_region 7 with fail
    go_cut [64] (fun u W => u = .bool bb ∧ Below w5.heap.size w5 W)
    case first =>
      rcases HQ1.out with ⟨rfl, _, _, _⟩ | rfl
      · rcases HQ2.out with ⟨rfl, _, _, _⟩ | rfl
        · have h0 : bb = true := by rw [HBB.out]; rfl
          subst h0
          go_wp2_with fail
          go_meet
          exact ⟨rfl, Below.refl _ _⟩
        · have h0 : bb = false := by rw [HBB.out]; rfl
          subst h0
          go_wp2_with fail
          go_meet
          exact ⟨rfl, Below.refl _ _⟩
      · have h0 : bb = false := by rw [HBB.out]; rfl
        subst h0
        go_wp2_with fail
        go_meet
        exact ⟨rfl, Below.refl _ _⟩
    case rest =>
      obtain ⟨hu, hcut⟩ := hcut
      subst hu
      replace B_e := Lib.hid (B_e.out.below hcut)
      replace O_ea := Lib.hid (O_ea.out.below hcut)
      replace O_eb := Lib.hid (O_eb.out.below hcut)
      replace B_f := Lib.hid (B_f.out.below hcut)
      replace O_fa := Lib.hid (O_fa.out.below hcut)
      replace O_fb := Lib.hid (O_fb.out.below hcut)
      replace U := Lib.hid (U.out.trans (hcut.mono U.out.size))
      replace TB := Lib.hid (TB.out.below hcut)
      clear hcut
      go_upto_if 64 with fail
      obtain ⟨wy, hwy⟩ : ∃ W : World, W = wc := ⟨_, rfl⟩
      subst hwy
      go_cut [] (fun W => Below wy.heap.size wy W)
      case first =>
        cases bb
        · go_wp2_with fail
          go_meet
          exact Below.refl _ _
        rcases HQ1.out with ⟨rfl, hf1, hd1, hd1'⟩ | rfl
        rotate_left
        · have h := HBB.out
          simp at h
        rcases HQ2.out with ⟨rfl, hf2, hd2, hd2'⟩ | rfl
        rotate_left
        · have h := HBB.out
          simp at h
        have CC := Lib.hid (Below.refl wy.heap.size wy)
        obtain ⟨p1, p2, p3, g1, g2, g3, hex, hlp, hlq, za, zb, va, vb, code, hnb, hadd, hcase⟩ := add_parts X3.out Y3.out X4.out Y4.out hf1.1 hf1.2 hf2.1 hf2.2 hd1 hd1' hd2 hd2'
        rw [HADD.out] at hadd
        simp only [Prod.mk.injEq] at hadd
        obtain ⟨rfl, rfl, rfl⟩ := hadd
        have HEX := Lib.hid hex
        have L_ba := Lib.hid hlp
        have L_bb := Lib.hid hlq
        have HNB := Lib.hid hnb
        have HCA := Lib.hid hcase
        clear hex hlp hlq hnb hcase hf1 hd1 hd1' hf2 hd2 hd2'
        obtain ⟨k7a, k7b, k7c, k7d, k7e, k7f⟩ := B_e.out.six
        obtain ⟨k8a, k8b, k8c, k8d, k8e, k8f⟩ := B_f.out.six
        go_wp2_with fail
        refine (Calls.mono (show Calls Tryz.prog 11 #[.agg #[.int .i64 s1, .slice a1 l1.length c1, .int .i64 z1, .int .i64 t1, .slice b1 m1.length d1, .int .i64 f1], .agg #[.int .i64 s2, .slice a3 l2.length c3, .int .i64 z2, .int .i64 t2, .slice b3 m2.length d3, .int .i64 f2]] wy (RetEP ⟨p1, p2, p3, g1, g2, g3, 0⟩ wy.heap.size wy) from by
          have := iAddExacts s1 a1 l1 c1 z1 t1 b1 m1 d1 f1 s2 a3 l2 c3 z2 t2 b3 m2 d3 f2 wy wy.heap.size (Nat.le_refl _) O_ea.out.ints O_eb.out.ints O_fa.out.ints O_fb.out.ints L_ea.out L_eb.out L_fa.out L_fb.out TB.out
          rwa [HEX.out] at this) ?_)
        rintro e w6 ⟨a6, c6, b6, d6, rfl, _, _, ho, ho', _, hb⟩
        clear k7a k7b k7c k7d k7e k7f k8a k8b k8c k8d k8e k8f
        obtain ⟨W9, hW9⟩ : ∃ W : World, (w6).alloc (.cells #[.int .i64 p1, .slice a6 p2.length c6, .int .i64 p3, .int .i64 g1, .slice b6 g2.length d6, .int .i64 g3] 33) = W := ⟨_, rfl⟩
        have st := Lib.hid (show Below wy.heap.size wy W9 by rw [← hW9]; exact hb.alloc hb.size _)
        replace B_e := Lib.hid (B_e.out.below st.out)
        replace O_ea := Lib.hid (O_ea.out.below st.out)
        replace O_eb := Lib.hid (O_eb.out.below st.out)
        replace B_f := Lib.hid (B_f.out.below st.out)
        replace O_fa := Lib.hid (O_fa.out.below st.out)
        replace O_fb := Lib.hid (O_fb.out.below st.out)
        replace U := Lib.hid (U.out.trans (st.out.mono U.out.size))
        replace TB := Lib.hid (TB.out.below st.out)
        replace CC := Lib.hid (CC.out.trans (st.out.mono CC.out.size))
        have B_b := Lib.hid (show BoxAt W9 (w6.heap.size) 33 #[.int .i64 p1, .slice a6 p2.length c6, .int .i64 p3, .int .i64 g1, .slice b6 g2.length d6, .int .i64 g3] by rw [← hW9]; exact BoxAt.new _ _ _)
        have O_ba := Lib.hid (show Own W9 _ a6 p2 by rw [← hW9]; exact (ho).alloc _)
        have O_bb := Lib.hid (show Own W9 _ b6 g2 by rw [← hW9]; exact (ho').alloc _)
        clear st hb
        clear ho ho'
        obtain ⟨k11a, k11b, k11c, k11d, k11e, k11f⟩ := B_b.out.six
        go_wp2_with fail
        clear hW9
        refine (Calls.mono (show Calls Tryz.prog 12 #[.agg #[.int .i64 p1, .slice a6 p2.length c6, .int .i64 p3, .int .i64 g1, .slice b6 g2.length d6, .int .i64 g3]] W9 (RetB (.tuple #[.complex .f64 za zb, .int .i64 cd]) W9) from by
          have := iNumberOf p1 a6 p2 c6 p3 g1 b6 g2 d6 g3 W9 W9.heap.size (Nat.le_refl _) O_ba.out.ints O_bb.out.ints L_ba.out L_bb.out TB.out
          rwa [HNB.out] at this) ?_)
        rintro e w10 ⟨rfl, hb⟩
        clear k11a k11b k11c k11d k11e k11f
        replace B_e := Lib.hid (B_e.out.below hb)
        replace O_ea := Lib.hid (O_ea.out.below hb)
        replace O_eb := Lib.hid (O_eb.out.below hb)
        replace B_f := Lib.hid (B_f.out.below hb)
        replace O_fa := Lib.hid (O_fa.out.below hb)
        replace O_fb := Lib.hid (O_fb.out.below hb)
        replace B_b := Lib.hid (B_b.out.below hb)
        replace O_ba := Lib.hid (O_ba.out.below hb)
        replace O_bb := Lib.hid (O_bb.out.below hb)
        replace U := Lib.hid (U.out.trans (hb.mono U.out.size))
        replace TB := Lib.hid (TB.out.below hb)
        replace CC := Lib.hid (CC.out.trans (hb.mono CC.out.size))
        clear hb
        rcases HCA.out with ⟨rfl, o1, o2⟩ | rfl
        · go_wp2_with fail
          go_meet
          exact CC.out
        · go_wp2_with fail
          go_meet
          exact CC.out
      case rest =>
        clear B_e O_ea O_eb
        clear B_f O_fa O_fb
        clear HBB HR1 HR2 L_ea L_eb L_fa L_fb HQ1 HQ2 HADD X3 Y3 X4 Y4
        replace U := Lib.hid (U.out.trans (hcut.mono U.out.size))
        replace TB := Lib.hid (TB.out.below hcut)
        clear hcut
        go_wp2_with fail
        refine (drawMu a len cap wc HL.out (HC.out.below U.out U.out.size)).mono ?_
        rintro e wd ⟨s3, l3, x3, c3, z3, t3, m3, y3, d3, f3, s4, l4, x4, c4, z4, t4, m4, y4, d4, f4, rfl, P3, P4, hb⟩
        have L_ga := Lib.hid (len1000 P3.l1)
        have L_gb := Lib.hid (len1000 P3.l2)
        have L_ha := Lib.hid (len1000 P4.l1)
        have L_hb := Lib.hid (len1000 P4.l2)
        have K_ga := Lib.hid P3.c1
        have K_gb := Lib.hid P3.c2
        have K_ha := Lib.hid P4.c1
        have K_hb := Lib.hid P4.c2
        obtain ⟨W12, hW12⟩ : ∃ W : World, ((wd).alloc (.cells #[.int .i64 s3, .slice x3 l3.length c3, .int .i64 z3, .int .i64 t3, .slice y3 m3.length d3, .int .i64 f3] 33)).alloc (.cells #[.int .i64 s4, .slice x4 l4.length c4, .int .i64 z4, .int .i64 t4, .slice y4 m4.length d4, .int .i64 f4] 33) = W := ⟨_, rfl⟩
        have st := Lib.hid (show Below wc.heap.size wc W12 by rw [← hW12]; exact (hb.alloc hb.size _).alloc (by have := hb.size; simp; omega) _)
        replace U := Lib.hid (U.out.trans (st.out.mono U.out.size))
        replace TB := Lib.hid (TB.out.below st.out)
        have B_g := Lib.hid (show BoxAt W12 (wd.heap.size) 33 #[.int .i64 s3, .slice x3 l3.length c3, .int .i64 z3, .int .i64 t3, .slice y3 m3.length d3, .int .i64 f3] by rw [← hW12]; exact (BoxAt.new _ _ _).alloc _)
        have O_ga := Lib.hid (show Own W12 _ x3 l3 by rw [← hW12]; exact ((P3.o1).alloc _).alloc _)
        have O_gb := Lib.hid (show Own W12 _ y3 m3 by rw [← hW12]; exact ((P3.o2).alloc _).alloc _)
        have B_h := Lib.hid (show BoxAt W12 (wd.heap.size + 1) 33 #[.int .i64 s4, .slice x4 l4.length c4, .int .i64 z4, .int .i64 t4, .slice y4 m4.length d4, .int .i64 f4] by rw [← hW12]; have := BoxAt.new ((wd).alloc (.cells #[.int .i64 s3, .slice x3 l3.length c3, .int .i64 z3, .int .i64 t3, .slice y3 m3.length d3, .int .i64 f3] 33)) 33 #[.int .i64 s4, .slice x4 l4.length c4, .int .i64 z4, .int .i64 t4, .slice y4 m4.length d4, .int .i64 f4]; simpa using this)
        have O_ha := Lib.hid (show Own W12 _ x4 l4 by rw [← hW12]; exact ((P4.o1).alloc _).alloc _)
        have O_hb := Lib.hid (show Own W12 _ y4 m4 by rw [← hW12]; exact ((P4.o2).alloc _).alloc _)
        clear st hb
        clear P3 P4
        obtain ⟨⟨p1, p2, p3, g1, g2, g3, pc⟩, hr⟩ : ∃ r, exY muF s3 l3 z3 t3 m3 f3 s4 l4 z4 t4 m4 f4 = r := ⟨_, rfl⟩
        have HR := Lib.hid hr
        have hlen := exMu_len s3 l3 z3 t3 m3 f3 s4 l4 z4 t4 m4 f4
        rw [hr] at hlen
        have L_pa := Lib.hid hlen.1
        have L_pb := Lib.hid hlen.2
        have L_qa := L_pa
        have L_qb := L_pb
        have L_ta := L_pa
        have L_tb := L_pb
        clear hr hlen
        obtain ⟨k14a, k14b, k14c, k14d, k14e, k14f⟩ := B_g.out.six
        obtain ⟨k15a, k15b, k15c, k15d, k15e, k15f⟩ := B_h.out.six
        go_wp2_with fail
        clear hW12
        refine (Calls.mono (show Calls Tryz.prog 14 #[.agg #[.int .i64 s3, .slice x3 l3.length c3, .int .i64 z3, .int .i64 t3, .slice y3 m3.length d3, .int .i64 f3], .agg #[.int .i64 s4, .slice x4 l4.length c4, .int .i64 z4, .int .i64 t4, .slice y4 m4.length d4, .int .i64 f4]] W12 (RetEP ⟨p1, p2, p3, g1, g2, g3, pc⟩ W12.heap.size W12) from by
          have := iMultiplyExacts s3 x3 l3 c3 z3 t3 y3 m3 d3 f3 s4 x4 l4 c4 z4 t4 y4 m4 d4 f4 W12 W12.heap.size (Nat.le_refl _) O_ga.out.ints O_gb.out.ints O_ha.out.ints O_hb.out.ints L_ga.out L_gb.out L_ha.out L_hb.out TB.out
          rwa [HR.out] at this) ?_)
        rintro e w13 ⟨a13, c13, b13, d13, rfl, _, _, ho, ho', _, hb⟩
        clear k14a k14b k14c k14d k14e k14f k15a k15b k15c k15d k15e k15f
        obtain ⟨W16, hW16⟩ : ∃ W : World, (w13).alloc (.cells #[.int .i64 p1, .slice a13 p2.length c13, .int .i64 p3, .int .i64 g1, .slice b13 g2.length d13, .int .i64 g3] 33) = W := ⟨_, rfl⟩
        have st := Lib.hid (show Below W12.heap.size W12 W16 by rw [← hW16]; exact hb.alloc hb.size _)
        replace B_g := Lib.hid (B_g.out.below st.out)
        replace O_ga := Lib.hid (O_ga.out.below st.out)
        replace O_gb := Lib.hid (O_gb.out.below st.out)
        replace B_h := Lib.hid (B_h.out.below st.out)
        replace O_ha := Lib.hid (O_ha.out.below st.out)
        replace O_hb := Lib.hid (O_hb.out.below st.out)
        replace U := Lib.hid (U.out.trans (st.out.mono U.out.size))
        replace TB := Lib.hid (TB.out.below st.out)
        have B_p := Lib.hid (show BoxAt W16 (w13.heap.size) 33 #[.int .i64 p1, .slice a13 p2.length c13, .int .i64 p3, .int .i64 g1, .slice b13 g2.length d13, .int .i64 g3] by rw [← hW16]; exact BoxAt.new _ _ _)
        have O_pa := Lib.hid (show Own W16 _ a13 p2 by rw [← hW16]; exact (ho).alloc _)
        have O_pb := Lib.hid (show Own W16 _ b13 g2 by rw [← hW16]; exact (ho').alloc _)
        clear st hb
        clear ho ho'
        obtain ⟨k18a, k18b, k18c, k18d, k18e, k18f⟩ := B_g.out.six
        obtain ⟨k19a, k19b, k19c, k19d, k19e, k19f⟩ := B_h.out.six
        go_wp2_with fail
        clear hW16
        refine (Calls.mono (show Calls Tryz.prog 15 #[.agg #[.int .i64 s3, .slice x3 l3.length c3, .int .i64 z3, .int .i64 t3, .slice y3 m3.length d3, .int .i64 f3], .agg #[.int .i64 s4, .slice x4 l4.length c4, .int .i64 z4, .int .i64 t4, .slice y4 m4.length d4, .int .i64 f4]] W16 (RetEP ⟨p1, p2, p3, g1, g2, g3, pc⟩ W16.heap.size W16) from by
          have := sMultiplyExacts s3 x3 l3 c3 z3 t3 y3 m3 d3 f3 s4 x4 l4 c4 z4 t4 y4 m4 d4 f4 W16 W16.heap.size (Nat.le_refl _) O_ga.out.ints O_gb.out.ints O_ha.out.ints O_hb.out.ints L_ga.out L_gb.out L_ha.out L_hb.out K_ga.out K_gb.out K_ha.out K_hb.out
          rwa [HR.out] at this) ?_)
        rintro e w17 ⟨a17, c17, b17, d17, rfl, _, _, ho, ho', _, hb⟩
        clear k18a k18b k18c k18d k18e k18f k19a k19b k19c k19d k19e k19f
        obtain ⟨W20, hW20⟩ : ∃ W : World, (w17).alloc (.cells #[.int .i64 p1, .slice a17 p2.length c17, .int .i64 p3, .int .i64 g1, .slice b17 g2.length d17, .int .i64 g3] 33) = W := ⟨_, rfl⟩
        have st := Lib.hid (show Below W16.heap.size W16 W20 by rw [← hW20]; exact hb.alloc hb.size _)
        replace B_g := Lib.hid (B_g.out.below st.out)
        replace O_ga := Lib.hid (O_ga.out.below st.out)
        replace O_gb := Lib.hid (O_gb.out.below st.out)
        replace B_h := Lib.hid (B_h.out.below st.out)
        replace O_ha := Lib.hid (O_ha.out.below st.out)
        replace O_hb := Lib.hid (O_hb.out.below st.out)
        replace B_p := Lib.hid (B_p.out.below st.out)
        replace O_pa := Lib.hid (O_pa.out.below st.out)
        replace O_pb := Lib.hid (O_pb.out.below st.out)
        replace U := Lib.hid (U.out.trans (st.out.mono U.out.size))
        replace TB := Lib.hid (TB.out.below st.out)
        have B_q := Lib.hid (show BoxAt W20 (w17.heap.size) 33 #[.int .i64 p1, .slice a17 p2.length c17, .int .i64 p3, .int .i64 g1, .slice b17 g2.length d17, .int .i64 g3] by rw [← hW20]; exact BoxAt.new _ _ _)
        have O_qa := Lib.hid (show Own W20 _ a17 p2 by rw [← hW20]; exact (ho).alloc _)
        have O_qb := Lib.hid (show Own W20 _ b17 g2 by rw [← hW20]; exact (ho').alloc _)
        clear st hb
        clear ho ho'
        obtain ⟨k22a, k22b, k22c, k22d, k22e, k22f⟩ := B_h.out.six
        obtain ⟨k23a, k23b, k23c, k23d, k23e, k23f⟩ := B_g.out.six
        go_wp2_with fail
        clear hW20
        refine (Calls.mono (show Calls Tryz.prog 14 #[.agg #[.int .i64 s4, .slice x4 l4.length c4, .int .i64 z4, .int .i64 t4, .slice y4 m4.length d4, .int .i64 f4], .agg #[.int .i64 s3, .slice x3 l3.length c3, .int .i64 z3, .int .i64 t3, .slice y3 m3.length d3, .int .i64 f3]] W20 (RetEP ⟨p1, p2, p3, g1, g2, g3, pc⟩ W20.heap.size W20) from by
          have := iMultiplyExacts s4 x4 l4 c4 z4 t4 y4 m4 d4 f4 s3 x3 l3 c3 z3 t3 y3 m3 d3 f3 W20 W20.heap.size (Nat.le_refl _) O_ha.out.ints O_hb.out.ints O_ga.out.ints O_gb.out.ints L_ha.out L_hb.out L_ga.out L_gb.out TB.out
          rwa [exY_swap, HR.out] at this) ?_)
        rintro e w21 ⟨a21, c21, b21, d21, rfl, _, _, ho, ho', _, hb⟩
        clear k22a k22b k22c k22d k22e k22f k23a k23b k23c k23d k23e k23f
        obtain ⟨W24, hW24⟩ : ∃ W : World, (w21).alloc (.cells #[.int .i64 p1, .slice a21 p2.length c21, .int .i64 p3, .int .i64 g1, .slice b21 g2.length d21, .int .i64 g3] 33) = W := ⟨_, rfl⟩
        have st := Lib.hid (show Below W20.heap.size W20 W24 by rw [← hW24]; exact hb.alloc hb.size _)
        replace B_g := Lib.hid (B_g.out.below st.out)
        replace O_ga := Lib.hid (O_ga.out.below st.out)
        replace O_gb := Lib.hid (O_gb.out.below st.out)
        replace B_h := Lib.hid (B_h.out.below st.out)
        replace O_ha := Lib.hid (O_ha.out.below st.out)
        replace O_hb := Lib.hid (O_hb.out.below st.out)
        replace B_p := Lib.hid (B_p.out.below st.out)
        replace O_pa := Lib.hid (O_pa.out.below st.out)
        replace O_pb := Lib.hid (O_pb.out.below st.out)
        replace B_q := Lib.hid (B_q.out.below st.out)
        replace O_qa := Lib.hid (O_qa.out.below st.out)
        replace O_qb := Lib.hid (O_qb.out.below st.out)
        replace U := Lib.hid (U.out.trans (st.out.mono U.out.size))
        replace TB := Lib.hid (TB.out.below st.out)
        have B_t := Lib.hid (show BoxAt W24 (w21.heap.size) 33 #[.int .i64 p1, .slice a21 p2.length c21, .int .i64 p3, .int .i64 g1, .slice b21 g2.length d21, .int .i64 g3] by rw [← hW24]; exact BoxAt.new _ _ _)
        have O_ta := Lib.hid (show Own W24 _ a21 p2 by rw [← hW24]; exact (ho).alloc _)
        have O_tb := Lib.hid (show Own W24 _ b21 g2 by rw [← hW24]; exact (ho').alloc _)
        clear st hb
        clear ho ho'
        have hq : (pc != pc) = false := by simp
        obtain ⟨k26a, k26b, k26c, k26d, k26e, k26f⟩ := B_p.out.six
        obtain ⟨k27a, k27b, k27c, k27d, k27e, k27f⟩ := B_q.out.six
        go_wp2_with fail
        clear hW24
        refine (Calls.mono (show Calls Tryz.prog 16 #[.agg #[.int .i64 p1, .slice a13 p2.length c13, .int .i64 p3, .int .i64 g1, .slice b13 g2.length d13, .int .i64 g3], .agg #[.int .i64 p1, .slice a17 p2.length c17, .int .i64 p3, .int .i64 g1, .slice b17 g2.length d17, .int .i64 g3]] W24 (RetB (.bool true) W24) from by
          have := exact5_same p1 p3 g1 g3 a13 a17 b13 b17 p2 g2 c13 c17 d13 d17 W24 W24.heap.size W24.heap.size (Nat.le_refl _) (Nat.le_refl _) O_pa.out.ints O_qa.out.ints O_pb.out.ints O_qb.out.ints L_pa.out L_pb.out
          exact this) ?_)
        rintro e w25 ⟨rfl, hb⟩
        clear k26a k26b k26c k26d k26e k26f k27a k27b k27c k27d k27e k27f
        replace B_g := Lib.hid (B_g.out.below hb)
        replace O_ga := Lib.hid (O_ga.out.below hb)
        replace O_gb := Lib.hid (O_gb.out.below hb)
        replace B_h := Lib.hid (B_h.out.below hb)
        replace O_ha := Lib.hid (O_ha.out.below hb)
        replace O_hb := Lib.hid (O_hb.out.below hb)
        replace B_p := Lib.hid (B_p.out.below hb)
        replace O_pa := Lib.hid (O_pa.out.below hb)
        replace O_pb := Lib.hid (O_pb.out.below hb)
        replace B_q := Lib.hid (B_q.out.below hb)
        replace O_qa := Lib.hid (O_qa.out.below hb)
        replace O_qb := Lib.hid (O_qb.out.below hb)
        replace B_t := Lib.hid (B_t.out.below hb)
        replace O_ta := Lib.hid (O_ta.out.below hb)
        replace O_tb := Lib.hid (O_tb.out.below hb)
        replace U := Lib.hid (U.out.trans (hb.mono U.out.size))
        replace TB := Lib.hid (TB.out.below hb)
        clear hb
        obtain ⟨k29a, k29b, k29c, k29d, k29e, k29f⟩ := B_t.out.six
        obtain ⟨k30a, k30b, k30c, k30d, k30e, k30f⟩ := B_p.out.six
        go_wp2_with fail
        refine (Calls.mono (show Calls Tryz.prog 16 #[.agg #[.int .i64 p1, .slice a21 p2.length c21, .int .i64 p3, .int .i64 g1, .slice b21 g2.length d21, .int .i64 g3], .agg #[.int .i64 p1, .slice a13 p2.length c13, .int .i64 p3, .int .i64 g1, .slice b13 g2.length d13, .int .i64 g3]] w25 (RetB (.bool true) w25) from by
          have := exact5_same p1 p3 g1 g3 a21 a13 b21 b13 p2 g2 c21 c13 d21 d13 w25 w25.heap.size w25.heap.size (Nat.le_refl _) (Nat.le_refl _) O_ta.out.ints O_pa.out.ints O_tb.out.ints O_pb.out.ints L_ta.out L_tb.out
          exact this) ?_)
        rintro e w28 ⟨rfl, hb⟩
        clear k29a k29b k29c k29d k29e k29f k30a k30b k30c k30d k30e k30f
        replace B_g := Lib.hid (B_g.out.below hb)
        replace O_ga := Lib.hid (O_ga.out.below hb)
        replace O_gb := Lib.hid (O_gb.out.below hb)
        replace B_h := Lib.hid (B_h.out.below hb)
        replace O_ha := Lib.hid (O_ha.out.below hb)
        replace O_hb := Lib.hid (O_hb.out.below hb)
        replace B_p := Lib.hid (B_p.out.below hb)
        replace O_pa := Lib.hid (O_pa.out.below hb)
        replace O_pb := Lib.hid (O_pb.out.below hb)
        replace B_q := Lib.hid (B_q.out.below hb)
        replace O_qa := Lib.hid (O_qa.out.below hb)
        replace O_qb := Lib.hid (O_qb.out.below hb)
        replace B_t := Lib.hid (B_t.out.below hb)
        replace O_ta := Lib.hid (O_ta.out.below hb)
        replace O_tb := Lib.hid (O_tb.out.below hb)
        replace U := Lib.hid (U.out.trans (hb.mono U.out.size))
        replace TB := Lib.hid (TB.out.below hb)
        clear hb
        clear HR
        clear B_g O_ga O_gb
        clear B_h O_ha O_hb
        clear B_p O_pa O_pb
        clear B_q O_qa O_qb
        clear B_t O_ta O_tb
        go_wp2_with fail
        clear hq
        refine (drawSq a len cap w28 HL.out (HC.out.below U.out U.out.size)).mono ?_
        rintro e we ⟨s5, l5, x5, c5, z5, t5, m5, y5, d5, f5, rfl, P5, hb⟩
        have L_ka := Lib.hid (len1000 P5.l1)
        have L_kb := Lib.hid (len1000 P5.l2)
        have L_ma := L_ka
        have L_mb := L_kb
        have K_ka := Lib.hid P5.c1
        have K_kb := Lib.hid P5.c2
        obtain ⟨W31, hW31⟩ : ∃ W : World, (we).alloc (.cells #[.int .i64 s5, .slice x5 l5.length c5, .int .i64 z5, .int .i64 t5, .slice y5 m5.length d5, .int .i64 f5] 33) = W := ⟨_, rfl⟩
        have st := Lib.hid (show Below w28.heap.size w28 W31 by rw [← hW31]; exact hb.alloc hb.size _)
        replace U := Lib.hid (U.out.trans (st.out.mono U.out.size))
        replace TB := Lib.hid (TB.out.below st.out)
        have B_k := Lib.hid (show BoxAt W31 (we.heap.size) 33 #[.int .i64 s5, .slice x5 l5.length c5, .int .i64 z5, .int .i64 t5, .slice y5 m5.length d5, .int .i64 f5] by rw [← hW31]; exact BoxAt.new _ _ _)
        have O_ka := Lib.hid (show Own W31 _ x5 l5 by rw [← hW31]; exact (P5.o1).alloc _)
        have O_kb := Lib.hid (show Own W31 _ y5 m5 by rw [← hW31]; exact (P5.o2).alloc _)
        clear st hb
        clear P5
        obtain ⟨⟨u1, u2, u3, uc⟩, hr⟩ : ∃ r, sqY s5 l5 z5 t5 m5 f5 = r := ⟨_, rfl⟩
        have HS := Lib.hid hr
        have hlen := sqY_len s5 l5 z5 t5 m5 f5
        rw [hr] at hlen
        have L_ua := Lib.hid (len200' hlen)
        have L_va := L_ua
        clear hr hlen
        obtain ⟨k33a, k33b, k33c, k33d, k33e, k33f⟩ := B_k.out.six
        go_wp2_with fail
        clear hW31
        refine (Calls.mono (show Calls Tryz.prog 18 #[.agg #[.int .i64 s5, .slice x5 l5.length c5, .int .i64 z5, .int .i64 t5, .slice y5 m5.length d5, .int .i64 f5]] W31 (RetYC (u1, u2, u3, uc) W31.heap.size W31) from by
          have := iSquareOfExact s5 x5 l5 c5 z5 t5 y5 m5 d5 f5 W31 W31.heap.size (Nat.le_refl _) O_ka.out.ints O_kb.out.ints L_ka.out L_kb.out TB.out
          rwa [HS.out] at this) ?_)
        rintro e w32 ⟨a32, c32, rfl, hc, ho, hb⟩
        clear k33a k33b k33c k33d k33e k33f
        obtain ⟨W34, hW34⟩ : ∃ W : World, (w32).alloc (.cells #[.int .i64 u1, .slice a32 u2.length c32, .int .i64 u3] 31) = W := ⟨_, rfl⟩
        have st := Lib.hid (show Below W31.heap.size W31 W34 by rw [← hW34]; exact hb.alloc hb.size _)
        replace B_k := Lib.hid (B_k.out.below st.out)
        replace O_ka := Lib.hid (O_ka.out.below st.out)
        replace O_kb := Lib.hid (O_kb.out.below st.out)
        replace U := Lib.hid (U.out.trans (st.out.mono U.out.size))
        replace TB := Lib.hid (TB.out.below st.out)
        have B_u := Lib.hid (show BoxAt W34 (w32.heap.size) 31 #[.int .i64 u1, .slice a32 u2.length c32, .int .i64 u3] by rw [← hW34]; exact BoxAt.new _ _ _)
        have O_ua := Lib.hid (show Own W34 _ a32 u2 by rw [← hW34]; exact (ho).alloc _)
        clear st hb
        clear ho hc
        obtain ⟨k36a, k36b, k36c, k36d, k36e, k36f⟩ := B_k.out.six
        go_wp2_with fail
        clear hW34
        refine (Calls.mono (show Calls Tryz.prog 19 #[.agg #[.int .i64 s5, .slice x5 l5.length c5, .int .i64 z5, .int .i64 t5, .slice y5 m5.length d5, .int .i64 f5]] W34 (RetYC (u1, u2, u3, uc) W34.heap.size W34) from by
          have := sSquareOfExact s5 x5 l5 c5 z5 t5 y5 m5 d5 f5 W34 W34.heap.size (Nat.le_refl _) O_ka.out.ints O_kb.out.ints L_ka.out L_kb.out K_ka.out K_kb.out
          rwa [HS.out] at this) ?_)
        rintro e w35 ⟨a35, c35, rfl, hc, ho, hb⟩
        clear k36a k36b k36c k36d k36e k36f
        obtain ⟨W37, hW37⟩ : ∃ W : World, (w35).alloc (.cells #[.int .i64 u1, .slice a35 u2.length c35, .int .i64 u3] 31) = W := ⟨_, rfl⟩
        have st := Lib.hid (show Below W34.heap.size W34 W37 by rw [← hW37]; exact hb.alloc hb.size _)
        replace B_k := Lib.hid (B_k.out.below st.out)
        replace O_ka := Lib.hid (O_ka.out.below st.out)
        replace O_kb := Lib.hid (O_kb.out.below st.out)
        replace B_u := Lib.hid (B_u.out.below st.out)
        replace O_ua := Lib.hid (O_ua.out.below st.out)
        replace U := Lib.hid (U.out.trans (st.out.mono U.out.size))
        replace TB := Lib.hid (TB.out.below st.out)
        have B_v := Lib.hid (show BoxAt W37 (w35.heap.size) 31 #[.int .i64 u1, .slice a35 u2.length c35, .int .i64 u3] by rw [← hW37]; exact BoxAt.new _ _ _)
        have O_va := Lib.hid (show Own W37 _ a35 u2 by rw [← hW37]; exact (ho).alloc _)
        clear st hb
        clear ho hc
        have hq : (uc != uc) = false := by simp
        obtain ⟨k39a, k39b, k39c, k39d, k39e, k39f⟩ := B_u.out.tri6
        obtain ⟨k40a, k40b, k40c, k40d, k40e, k40f⟩ := B_v.out.tri6
        go_wp2_with fail
        clear hW37
        refine (Calls.mono (show Calls Tryz.prog 20 #[.agg #[.int .i64 u1, .slice a32 u2.length c32, .int .i64 u3], .agg #[.int .i64 u1, .slice a35 u2.length c35, .int .i64 u3]] W37 (RetB (.bool true) W37) from by
          have := dyadic5_same u1 u3 a32 a35 u2 c32 c35 W37 W37.heap.size W37.heap.size (Nat.le_refl _) (Nat.le_refl _) O_ua.out.ints O_va.out.ints L_ua.out
          exact this) ?_)
        rintro e w38 ⟨rfl, hb⟩
        clear k39a k39b k39c k39d k39e k39f k40a k40b k40c k40d k40e k40f
        replace B_k := Lib.hid (B_k.out.below hb)
        replace O_ka := Lib.hid (O_ka.out.below hb)
        replace O_kb := Lib.hid (O_kb.out.below hb)
        replace B_u := Lib.hid (B_u.out.below hb)
        replace O_ua := Lib.hid (O_ua.out.below hb)
        replace B_v := Lib.hid (B_v.out.below hb)
        replace O_va := Lib.hid (O_va.out.below hb)
        replace U := Lib.hid (U.out.trans (hb.mono U.out.size))
        replace TB := Lib.hid (TB.out.below hb)
        clear hb
        clear B_v O_va
        go_upto_if 157 with fail
        clear hq
        obtain ⟨wx, hwx⟩ : ∃ W : World, W = w38 := ⟨_, rfl⟩
        subst hwx
        go_cut [] (fun W => Below wx.heap.size wx W)
        case first =>
          by_cases hz : uc = 0
          rotate_left
          · have h0 : (uc == 0) = false := by simpa using hz
            clear hz
            go_wp2_with fail
            go_meet
            exact Below.refl _ _
          subst hz
          have CC := Lib.hid (Below.refl wx.heap.size wx)
          obtain ⟨hts, hmir⟩ := mirror_facts HS.out
          obtain ⟨ts, hsm⟩ : ∃ ts, -t5 = ts := ⟨_, rfl⟩
          have hn1 : wrap64 (-t5) = ts := by unfold wrap64; omega
          have hn2 : IntKind.i64.wrap (-t5) = ts := by rw [IntKind.wrap_i64]; omega
          rw [hsm] at hmir
          obtain ⟨⟨n1, n2, n3, n4, n5, n6, nc⟩, hr⟩ : ∃ r, exY muF s5 l5 z5 t5 m5 f5 s5 l5 z5 ts m5 f5 = r := ⟨_, rfl⟩
          have HR := Lib.hid hr
          have hlen := exMu_len s5 l5 z5 t5 m5 f5 s5 l5 z5 ts m5 f5
          rw [hr] at hlen hmir
          simp only at hmir
          have L_na := Lib.hid hlen.1
          have L_nb := Lib.hid hlen.2
          have HMI := Lib.hid hmir
          clear hr hlen hmir hts hsm
          obtain ⟨k41a, k41b, k41c, k41d, k41e, k41f⟩ := B_k.out.six
          go_upto_region 25 with fail
          clear hn1 hn2 k41a k41b k41c k41d k41e k41f
          have hb := Below.refl wx.heap.size wx
          have Q1 := O_ka.out
          have Q2 := O_kb.out
          obtain ⟨W42, hW42⟩ : ∃ W : World, (wx).alloc (.cells #[.int .i64 s5, .slice x5 l5.length c5, .int .i64 z5, .int .i64 ts, .slice y5 m5.length d5, .int .i64 f5] 33) = W := ⟨_, rfl⟩
          have st := Lib.hid (show Below wx.heap.size wx W42 by rw [← hW42]; exact hb.alloc hb.size _)
          replace B_k := Lib.hid (B_k.out.below st.out)
          replace O_ka := Lib.hid (O_ka.out.below st.out)
          replace O_kb := Lib.hid (O_kb.out.below st.out)
          replace B_u := Lib.hid (B_u.out.below st.out)
          replace O_ua := Lib.hid (O_ua.out.below st.out)
          replace U := Lib.hid (U.out.trans (st.out.mono U.out.size))
          replace TB := Lib.hid (TB.out.below st.out)
          replace CC := Lib.hid (CC.out.trans (st.out.mono CC.out.size))
          have B_m := Lib.hid (show BoxAt W42 (wx.heap.size) 33 #[.int .i64 s5, .slice x5 l5.length c5, .int .i64 z5, .int .i64 ts, .slice y5 m5.length d5, .int .i64 f5] by rw [← hW42]; exact BoxAt.new _ _ _)
          have O_ma := Lib.hid (show Own W42 _ x5 l5 by rw [← hW42]; exact (Q1).alloc _)
          have O_mb := Lib.hid (show Own W42 _ y5 m5 by rw [← hW42]; exact (Q2).alloc _)
          clear st hb
          clear Q1 Q2
          obtain ⟨k44a, k44b, k44c, k44d, k44e, k44f⟩ := B_k.out.six
          obtain ⟨k45a, k45b, k45c, k45d, k45e, k45f⟩ := B_m.out.six
          go_wp2_with fail
          clear hW42
          refine (Calls.mono (show Calls Tryz.prog 14 #[.agg #[.int .i64 s5, .slice x5 l5.length c5, .int .i64 z5, .int .i64 t5, .slice y5 m5.length d5, .int .i64 f5], .agg #[.int .i64 s5, .slice x5 l5.length c5, .int .i64 z5, .int .i64 ts, .slice y5 m5.length d5, .int .i64 f5]] W42 (RetEP ⟨n1, n2, n3, n4, n5, n6, nc⟩ W42.heap.size W42) from by
            have := iMultiplyExacts s5 x5 l5 c5 z5 t5 y5 m5 d5 f5 s5 x5 l5 c5 z5 ts y5 m5 d5 f5 W42 W42.heap.size (Nat.le_refl _) O_ka.out.ints O_kb.out.ints O_ma.out.ints O_mb.out.ints L_ka.out L_kb.out L_ma.out L_mb.out TB.out
            rwa [HR.out] at this) ?_)
          rintro e w43 ⟨a43, c43, b43, d43, rfl, _, _, ho, ho', _, hb⟩
          clear k44a k44b k44c k44d k44e k44f k45a k45b k45c k45d k45e k45f
          obtain ⟨W46, hW46⟩ : ∃ W : World, (w43).alloc (.cells #[.int .i64 n1, .slice a43 n2.length c43, .int .i64 n3, .int .i64 n4, .slice b43 n5.length d43, .int .i64 n6] 33) = W := ⟨_, rfl⟩
          have st := Lib.hid (show Below W42.heap.size W42 W46 by rw [← hW46]; exact hb.alloc hb.size _)
          replace B_k := Lib.hid (B_k.out.below st.out)
          replace O_ka := Lib.hid (O_ka.out.below st.out)
          replace O_kb := Lib.hid (O_kb.out.below st.out)
          replace B_u := Lib.hid (B_u.out.below st.out)
          replace O_ua := Lib.hid (O_ua.out.below st.out)
          replace B_m := Lib.hid (B_m.out.below st.out)
          replace O_ma := Lib.hid (O_ma.out.below st.out)
          replace O_mb := Lib.hid (O_mb.out.below st.out)
          replace U := Lib.hid (U.out.trans (st.out.mono U.out.size))
          replace TB := Lib.hid (TB.out.below st.out)
          replace CC := Lib.hid (CC.out.trans (st.out.mono CC.out.size))
          have B_n := Lib.hid (show BoxAt W46 (w43.heap.size) 33 #[.int .i64 n1, .slice a43 n2.length c43, .int .i64 n3, .int .i64 n4, .slice b43 n5.length d43, .int .i64 n6] by rw [← hW46]; exact BoxAt.new _ _ _)
          have O_na := Lib.hid (show Own W46 _ a43 n2 by rw [← hW46]; exact (ho).alloc _)
          have O_nb := Lib.hid (show Own W46 _ b43 n5 by rw [← hW46]; exact (ho').alloc _)
          clear st hb
          clear ho ho'
          by_cases hz : nc = 0
          rotate_left
          · have h0 : (nc == 0) = false := by simpa using hz
            clear hz
            go_wp2_with fail
            go_meet
            exact CC.out
          subst hz
          obtain ⟨rfl, rfl, rfl, rfl⟩ := HMI.out rfl
          obtain ⟨k48a, k48b, k48c, k48d, k48e, k48f⟩ := B_n.out.six
          obtain ⟨k49a, k49b, k49c, k49d, k49e, k49f⟩ := B_u.out.tri6
          go_wp2_with fail
          clear hW46
          refine (Calls.mono (show Calls Tryz.prog 20 #[.agg #[.int .i64 n1, .slice a43 n2.length c43, .int .i64 n3], .agg #[.int .i64 n1, .slice a32 n2.length c32, .int .i64 n3]] W46 (RetB (.bool true) W46) from dyadic5_same n1 n3 a43 a32 n2 c43 c32 W46 W46.heap.size W46.heap.size (Nat.le_refl _) (Nat.le_refl _) O_na.out.ints O_ua.out.ints L_na.out) ?_)
          rintro e w47 ⟨rfl, hb⟩
          clear k48a k48b k48c k48d k48e k48f k49a k49b k49c k49d k49e k49f
          replace B_k := Lib.hid (B_k.out.below hb)
          replace O_ka := Lib.hid (O_ka.out.below hb)
          replace O_kb := Lib.hid (O_kb.out.below hb)
          replace B_u := Lib.hid (B_u.out.below hb)
          replace O_ua := Lib.hid (O_ua.out.below hb)
          replace B_m := Lib.hid (B_m.out.below hb)
          replace O_ma := Lib.hid (O_ma.out.below hb)
          replace O_mb := Lib.hid (O_mb.out.below hb)
          replace B_n := Lib.hid (B_n.out.below hb)
          replace O_na := Lib.hid (O_na.out.below hb)
          replace O_nb := Lib.hid (O_nb.out.below hb)
          replace U := Lib.hid (U.out.trans (hb.mono U.out.size))
          replace TB := Lib.hid (TB.out.below hb)
          replace CC := Lib.hid (CC.out.trans (hb.mono CC.out.size))
          clear hb
          obtain ⟨k50a, k50b, k50c, k50d, k50e, k50f⟩ := B_n.out.six
          go_wp2_with fail
          go_meet
          exact CC.out
        case rest => as_aux_lemma =>
          clear B_k O_ka O_kb
          clear B_u O_ua
          clear HS L_ka L_kb L_ma L_mb K_ka K_kb L_ua L_va
          replace U := Lib.hid (U.out.trans (hcut.mono U.out.size))
          replace TB := Lib.hid (TB.out.below hcut)
          clear hcut
          go_wp2_with fail
          refine (drawNb a len cap wc HL.out (HC.out.below U.out U.out.size)).mono ?_
          rintro e wh ⟨s6, l6, x6, c6, z6, t6, m6, y6, d6, f6, rfl, P6, hb⟩
          have L_ja := Lib.hid (len1000 P6.l1)
          have L_jb := Lib.hid (len1000 P6.l2)
          have K_ja := Lib.hid P6.c1
          have K_jb := Lib.hid P6.c2
          obtain ⟨W51, hW51⟩ : ∃ W : World, (wh).alloc (.cells #[.int .i64 s6, .slice x6 l6.length c6, .int .i64 z6, .int .i64 t6, .slice y6 m6.length d6, .int .i64 f6] 33) = W := ⟨_, rfl⟩
          have st := Lib.hid (show Below wc.heap.size wc W51 by rw [← hW51]; exact hb.alloc hb.size _)
          replace U := Lib.hid (U.out.trans (st.out.mono U.out.size))
          replace TB := Lib.hid (TB.out.below st.out)
          have B_j := Lib.hid (show BoxAt W51 (wh.heap.size) 33 #[.int .i64 s6, .slice x6 l6.length c6, .int .i64 z6, .int .i64 t6, .slice y6 m6.length d6, .int .i64 f6] by rw [← hW51]; exact BoxAt.new _ _ _)
          have O_ja := Lib.hid (show Own W51 _ x6 l6 by rw [← hW51]; exact (P6.o1).alloc _)
          have O_jb := Lib.hid (show Own W51 _ y6 m6 by rw [← hW51]; exact (P6.o2).alloc _)
          clear st hb
          clear P6
          have hfin := nbR_fin s6 l6 z6 t6 m6 f6
          obtain ⟨⟨na, nb, ne⟩, hr⟩ : ∃ r, nbR s6 l6 z6 t6 m6 f6 = r := ⟨_, rfl⟩
          rw [hr] at hfin
          have HN := Lib.hid hr
          have HSF := Lib.hid (fun W => same5_same na nb (by unfold finC; rw [hfin.1, hfin.2]; rfl) W)
          clear hr hfin
          obtain ⟨k53a, k53b, k53c, k53d, k53e, k53f⟩ := B_j.out.six
          go_wp2_with fail
          clear hW51
          refine (Calls.mono (show Calls Tryz.prog 12 #[.agg #[.int .i64 s6, .slice x6 l6.length c6, .int .i64 z6, .int .i64 t6, .slice y6 m6.length d6, .int .i64 f6]] W51 (RetB (.tuple #[.complex .f64 na nb, .int .i64 ne]) W51) from by
            have := iNumberOf s6 x6 l6 c6 z6 t6 y6 m6 d6 f6 W51 W51.heap.size (Nat.le_refl _) O_ja.out.ints O_jb.out.ints L_ja.out L_jb.out TB.out
            rwa [HN.out] at this) ?_)
          rintro e w52 ⟨rfl, hb⟩
          clear k53a k53b k53c k53d k53e k53f
          replace B_j := Lib.hid (B_j.out.below hb)
          replace O_ja := Lib.hid (O_ja.out.below hb)
          replace O_jb := Lib.hid (O_jb.out.below hb)
          replace U := Lib.hid (U.out.trans (hb.mono U.out.size))
          replace TB := Lib.hid (TB.out.below hb)
          clear hb
          obtain ⟨k55a, k55b, k55c, k55d, k55e, k55f⟩ := B_j.out.six
          go_wp2_with fail
          refine (Calls.mono (show Calls Tryz.prog 22 #[.agg #[.int .i64 s6, .slice x6 l6.length c6, .int .i64 z6, .int .i64 t6, .slice y6 m6.length d6, .int .i64 f6]] w52 (RetB (.tuple #[.complex .f64 na nb, .int .i64 ne]) w52) from by
            have := sNumberOf s6 x6 l6 c6 z6 t6 y6 m6 d6 f6 w52 w52.heap.size (Nat.le_refl _) O_ja.out.ints O_jb.out.ints L_ja.out L_jb.out K_ja.out K_jb.out
            rwa [HN.out] at this) ?_)
          rintro e w54 ⟨rfl, hb⟩
          clear k55a k55b k55c k55d k55e k55f
          replace B_j := Lib.hid (B_j.out.below hb)
          replace O_ja := Lib.hid (O_ja.out.below hb)
          replace O_jb := Lib.hid (O_jb.out.below hb)
          replace U := Lib.hid (U.out.trans (hb.mono U.out.size))
          replace TB := Lib.hid (TB.out.below hb)
          clear hb
          have hq : (ne == ne) = true := by simp
          have E := Lib.hid (fun n => below_drewN U.out n)
          go_wp2_with fail
          refine (HSF.out _).mono ?_
          rintro e wz ⟨nz, rfl, rfl⟩
          go_wp2_with fail
          go_ret
          exact ⟨rfl, E.out _⟩
end Go.Proofs.YtnnbfoemmgddeaaGreatDoor
