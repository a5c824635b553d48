/-
  The walk of laws.FnFloats. Conditions: the code's bytes can be read, the listed table is as its initialiser lays it.
-/
import Derived.Test.YtnnbfoemmgddeaaDoorFz
import Derived.Test.YtnnbfoemmgddeaaDoorGn
import Derived.Test.YtnnbfoemmgddeaaDoorGd
import Derived.Test.YtnnbfoemmgddeaaDoorHb
import Derived.Deep.DeepCutAuto
namespace Go.Proofs.YtnnbfoemmgddeaaDoor
set_option linter.unusedVariables false
open Go Go.RowKit

set_option maxHeartbeats 800000 in
theorem dyadic5_same (s x : Int) (a b : Option Addr) (xs : List Int) (c1 c2 : Nat) (w : World) (B C : Nat) (hB : B ≤ w.heap.size) (hC : C ≤ w.heap.size) (hx : Ints w B a xs) (hy : Ints w C b xs) (hl : xs.length ≤ 9223372036854775807) :
    Calls Tryd.prog 8 #[.agg #[.int .i64 s, .slice a xs.length c1, .int .i64 x], .agg #[.int .i64 s, .slice b xs.length c2, .int .i64 x]] w (RetB (.bool true) w) := by
  have H := Lib.hid fun o1 o2 => whole5_same s a b xs c1 c2 ((w.alloc o1).alloc o2) B C (by simp; omega) (by simp; omega) ((hx.alloc hB o1).alloc (by simp; omega) o2) ((hy.alloc hC o1).alloc (by simp; omega) o2) hl
  clear hx hy
  have hz : (x == x) = true := by simp
  go_enter Tryd.func8, Tryd.ntmps8
  go_wp2_with (go_at_call 23; refine (H.out _ _).mono ?_; rintro e w' ⟨rfl, hb⟩)
  go_ret
  exact ⟨rfl, (((Below.refl _ w).alloc (Nat.le_refl _) _).alloc (by simp) _).trans (hb.mono (by simp; omega))⟩

theorem dyF_code (x : Nat) : ∃ s l e c, dyF x = (s, l, e, c) ∧ l.length ≤ 9223372036854775807 ∧ ((c = 0 ∧ isF .f64 x = true) ∨ (c = 1 ∧ isF .f64 x = false)) := by
  have hl := dyF_len x
  cases h : isF .f64 x
  · exact ⟨0, [], 0, 1, dyF_no h, by simp, .inr ⟨rfl, rfl⟩⟩
  · unfold isF at h
    unfold dyF at hl ⊢
    cases e : FloatKind.f64.format.read x with
    | number s m i =>
      rw [e] at hl
      exact ⟨_, _, _, _, rfl, by simp only at hl; omega, .inl ⟨rfl, rfl⟩⟩
    | _ => rw [e] at h; simp at h
theorem dyN_code (x : Nat) : ∃ s l e c, dyN x = (s, l, e, c) ∧ l.length ≤ 9223372036854775807 ∧ (c = 0 ∨ c = 1) := by
  have hl := dyN_len x
  unfold dyN at hl ⊢
  cases e : FloatKind.f32.format.read x with
  | number s m i =>
    rw [e] at hl
    exact ⟨_, _, _, _, rfl, by simp only at hl; omega, .inl rfl⟩
  | _ => exact ⟨0, [], 0, 1, rfl, by simp, .inr rfl⟩
theorem binY_len' {f : Int → Int → Int → Int → Int × List Int × Int} {s x t y r e : Int} {xs ys l : List Int} {c : Int} (h : binY f s xs x t ys y = (r, l, e, c)) : l.length ≤ 9223372036854775807 := by
  have := binY_len f s xs x t ys y
  rw [h] at this
  simp only at this
  omega
theorem ne_of_eqF {o : Option Ordering} (h : (o == some .eq) = true) : (o != some .eq) = false := by
  show (!(o == some .eq)) = false
  rw [h]; rfl
theorem fop_test (P : Program) (W : World) (t : TypeId) (v : Nat) : (FloatKind.f64.format.order (fop P W .sub t .f64 v v).1 0 == some .eq) = isF .f64 v := by
  rw [order_congr (fop_eq P W .sub t .f64 v v rfl) (NEq.refl _ _)]
  exact real_test .f64 v
theorem fin_case {d : Int} {v z : Nat} (h : (d == 0) = isF .f64 v ∧ (d = 0 → (FloatKind.f64.format.order z v == some .eq) = true)) :
    (d = 0 ∧ isF .f64 v = true ∧ (FloatKind.f64.format.order z v == some .eq) = true) ∨ ((d == 0) = false ∧ (d != 0) = true ∧ isF .f64 v = false) := by
  by_cases hd : d = 0
  · subst hd
    exact .inl ⟨rfl, h.1.symm, h.2 rfl⟩
  · have h1 : (d == 0) = false := by simpa using hd
    exact .inr ⟨h1, by simpa using hd, by rw [← h.1, h1]⟩
theorem len3 {n : Nat} (h : n ≤ 3) : n ≤ 9223372036854775807 := by omega
set_option maxRecDepth 100000 in
set_option maxHeartbeats 16000000 in
theorem floats_walk (a : Option Addr) (len cap : Nat) (w : World) (hlen : len ≤ 9223372036854775807) (hcode : Code8 w.heap.size a len w) (hTab : Tab w) :
    Calls Tryd.prog 3 #[.slice a len cap] w (LawDone w) := by
  by_cases hbig : (len : Int) ≤ 4096
  rotate_left
  · have HBG := Lib.hid (bigYes a len cap (by omega))
    clear hlen hcode hbig hTab
    go_enter Tryd.func3, Tryd.ntmps3
    go_wp2_with (go_at_call 4; refine (HBG.out _).mono ?_; rintro e w' ⟨rfl, rfl⟩)
    go_ret
    exact ⟨rfl, Below.refl _ _⟩
  · have HL := Lib.hid hlen
    have HC := Lib.hid hcode
    have TB := Lib.hid hTab
    have HBG := Lib.hid (bigNo a len cap hbig)
    clear hlen hcode hbig hTab
    have U := Lib.hid (Below.refl w.heap.size w)
    go_enter Tryd.func3, Tryd.ntmps3
    go_wp2_with (go_at_call 4; refine (HBG.out _).mono ?_; rintro e w' ⟨rfl, rfl⟩)
    refine (drawF a len cap w HL.out (HC.out.below U.out U.out.size)).mono ?_
    rintro e wr ⟨x, hx, rfl, hb⟩
    have HX := Lib.hid hx
    clear hx
    replace U := Lib.hid (U.out.trans (hb.mono U.out.size))
    replace TB := Lib.hid (TB.out.below hb)
    clear hb
    obtain ⟨s1, l1, e1, q1, hr, hlen1, hq1⟩ := dyF_code x
    have HR := Lib.hid hr
    have L_d := Lib.hid hlen1
    have L_t := Lib.hid hlen1
    have HQ := Lib.hid hq1
    clear hr hlen1 hq1
    go_wp2_with fail
    refine (Calls.mono (show Calls Tryd.prog 6 #[.float .f64 x] wr (RetYC (s1, l1, e1, q1) wr.heap.size wr) from by
      have := iDyadicOf x HX.out wr TB.out
      rwa [HR.out] at this) ?_)
    rintro e w1 ⟨a1, c1, rfl, hc, ho, hb⟩
    obtain ⟨W2, hW2⟩ : ∃ W : World, (w1).alloc (.cells #[.int .i64 s1, .slice a1 l1.length c1, .int .i64 e1] 30) = W := ⟨_, rfl⟩
    have st := Lib.hid (show Below wr.heap.size wr W2 by rw [← hW2]; exact hb.alloc hb.size _)
    replace U := Lib.hid (U.out.trans (st.out.mono U.out.size))
    replace TB := Lib.hid (TB.out.below st.out)
    have B_d := Lib.hid (show BoxAt W2 (w1.heap.size) 30 #[.int .i64 s1, .slice a1 l1.length c1, .int .i64 e1] by rw [← hW2]; exact BoxAt.new _ _ _)
    have O_d := Lib.hid (show Own W2 _ a1 l1 by rw [← hW2]; exact ho.alloc _)
    clear st hb ho hc
    go_wp2_with fail
    clear hW2
    refine (Calls.mono (show Calls Tryd.prog 7 #[.float .f64 x] W2 (RetYC (s1, l1, e1, q1) W2.heap.size W2) from by
      have := sDyadicOf x HX.out W2
      rwa [HR.out] at this) ?_)
    rintro e w3 ⟨a3, c3, rfl, hc, ho, hb⟩
    obtain ⟨W4, hW4⟩ : ∃ W : World, (w3).alloc (.cells #[.int .i64 s1, .slice a3 l1.length c3, .int .i64 e1] 30) = W := ⟨_, rfl⟩
    have st := Lib.hid (show Below W2.heap.size W2 W4 by rw [← hW4]; exact hb.alloc hb.size _)
    replace B_d := Lib.hid (B_d.out.below st.out)
    replace O_d := Lib.hid (O_d.out.below st.out)
    replace U := Lib.hid (U.out.trans (st.out.mono U.out.size))
    replace TB := Lib.hid (TB.out.below st.out)
    have B_t := Lib.hid (show BoxAt W4 (w3.heap.size) 30 #[.int .i64 s1, .slice a3 l1.length c3, .int .i64 e1] by rw [← hW4]; exact BoxAt.new _ _ _)
    have O_t := Lib.hid (show Own W4 _ a3 l1 by rw [← hW4]; exact ho.alloc _)
    clear st hb ho hc
    have hq : (q1 != q1) = false := by simp
    obtain ⟨k6a, k6b, k6c, k6d, k6e, k6f⟩ := B_d.out.tri6
    obtain ⟨k7a, k7b, k7c, k7d, k7e, k7f⟩ := B_t.out.tri6
    go_wp2_with fail
    clear hW4
    refine (Calls.mono (show Calls Tryd.prog 8 #[.agg #[.int .i64 s1, .slice a1 l1.length c1, .int .i64 e1], .agg #[.int .i64 s1, .slice a3 l1.length c3, .int .i64 e1]] W4 (RetB (.bool true) W4) from by
      have := dyadic5_same s1 e1 a1 a3 l1 c1 c3 W4 W4.heap.size W4.heap.size (Nat.le_refl _) (Nat.le_refl _) O_d.out.ints O_t.out.ints L_d.out
      exact this) ?_)
    rintro e w5 ⟨rfl, hb⟩
    clear k6a k6b k6c k6d k6e k6f k7a k7b k7c k7d k7e k7f
    replace B_d := Lib.hid (B_d.out.below hb)
    replace O_d := Lib.hid (O_d.out.below hb)
    replace B_t := Lib.hid (B_t.out.below hb)
    replace O_t := Lib.hid (O_t.out.below hb)
    replace U := Lib.hid (U.out.trans (hb.mono U.out.size))
    replace TB := Lib.hid (TB.out.below hb)
    clear hb
    clear B_t O_t
    go_upto_if 64 with fail
    clear hq
    go_cut [] (fun W => Below w5.heap.size w5 W)
    case first =>
      rcases HQ.out with ⟨rfl, hf⟩ | ⟨rfl, hf⟩
      ·  have CC := Lib.hid (Below.refl w5.heap.size w5)
         obtain ⟨s', l', e', hd', y, hy, hord⟩ := float_back HX.out hf
         rw [HR.out] at hd'
         simp only [Prod.mk.injEq] at hd'
         obtain ⟨rfl, rfl, rfl, _⟩ := hd'
         have HY := Lib.hid hy
         have HO := Lib.hid hord
         clear hy hord hf
         obtain ⟨k9a, k9b, k9c, k9d, k9e, k9f⟩ := B_d.out.tri6
         go_wp2_with fail
         refine (Calls.mono (show Calls Tryd.prog 9 #[.agg #[.int .i64 s1, .slice a1 l1.length c1, .int .i64 e1]] w5 (RetB (.tuple #[.float .f64 y, .int .i64 0]) w5) from by
           have := iFloatOf s1 a1 l1 c1 e1 w5 w5.heap.size (Nat.le_refl _) O_d.out.ints L_d.out TB.out
           rwa [HY.out] at this) ?_)
         rintro e w8 ⟨rfl, hb⟩
         clear k9a k9b k9c k9d k9e k9f
         replace B_d := Lib.hid (B_d.out.below hb)
         replace O_d := Lib.hid (O_d.out.below hb)
         replace U := Lib.hid (U.out.trans (hb.mono U.out.size))
         replace TB := Lib.hid (TB.out.below hb)
         replace CC := Lib.hid (CC.out.trans (hb.mono CC.out.size))
         clear hb
         have hord := HO.out
         have hord2 := ne_of_eqF hord
         clear hord
         go_wp2_with fail
         go_meet
         exact CC.out
      · clear hf
        go_wp2_with fail
        go_meet
        exact Below.refl _ _
    case rest => as_aux_lemma =>
      clear B_d O_d
      clear HR L_d L_t HQ HX
      replace U := Lib.hid (U.out.trans (hcut.mono U.out.size))
      replace TB := Lib.hid (TB.out.below hcut)
      clear hcut
      go_wp2_with fail
      refine (drawN a len cap wc HL.out (HC.out.below U.out U.out.size)).mono ?_
      rintro e wd ⟨x2, hx, rfl, hb⟩
      have HX := Lib.hid hx
      clear hx
      replace U := Lib.hid (U.out.trans (hb.mono U.out.size))
      replace TB := Lib.hid (TB.out.below hb)
      clear hb
      obtain ⟨s2, l2, e2, q2, hr, hlen1, hq1⟩ := dyN_code x2
      have HR := Lib.hid hr
      have L_g := Lib.hid hlen1
      have L_h := Lib.hid hlen1
      have HQ := Lib.hid hq1
      clear hr hlen1 hq1
      go_wp2_with fail
      refine (Calls.mono (show Calls Tryd.prog 11 #[.float .f32 x2] wd (RetYC (s2, l2, e2, q2) wd.heap.size wd) from by
        have := iDyadicOfNarrow x2 HX.out wd TB.out
        rwa [HR.out] at this) ?_)
      rintro e w10 ⟨a10, c10, rfl, hc, ho, hb⟩
      obtain ⟨W11, hW11⟩ : ∃ W : World, (w10).alloc (.cells #[.int .i64 s2, .slice a10 l2.length c10, .int .i64 e2] 30) = W := ⟨_, rfl⟩
      have st := Lib.hid (show Below wd.heap.size wd W11 by rw [← hW11]; exact hb.alloc hb.size _)
      replace U := Lib.hid (U.out.trans (st.out.mono U.out.size))
      replace TB := Lib.hid (TB.out.below st.out)
      have B_g := Lib.hid (show BoxAt W11 (w10.heap.size) 30 #[.int .i64 s2, .slice a10 l2.length c10, .int .i64 e2] by rw [← hW11]; exact BoxAt.new _ _ _)
      have O_g := Lib.hid (show Own W11 _ a10 l2 by rw [← hW11]; exact ho.alloc _)
      clear st hb ho hc
      go_wp2_with fail
      clear hW11
      refine (Calls.mono (show Calls Tryd.prog 12 #[.float .f32 x2] W11 (RetYC (s2, l2, e2, q2) W11.heap.size W11) from by
        have := sDyadicOfNarrow x2 HX.out W11
        rwa [HR.out] at this) ?_)
      rintro e w12 ⟨a12, c12, rfl, hc, ho, hb⟩
      obtain ⟨W13, hW13⟩ : ∃ W : World, (w12).alloc (.cells #[.int .i64 s2, .slice a12 l2.length c12, .int .i64 e2] 30) = W := ⟨_, rfl⟩
      have st := Lib.hid (show Below W11.heap.size W11 W13 by rw [← hW13]; exact hb.alloc hb.size _)
      replace B_g := Lib.hid (B_g.out.below st.out)
      replace O_g := Lib.hid (O_g.out.below st.out)
      replace U := Lib.hid (U.out.trans (st.out.mono U.out.size))
      replace TB := Lib.hid (TB.out.below st.out)
      have B_h := Lib.hid (show BoxAt W13 (w12.heap.size) 30 #[.int .i64 s2, .slice a12 l2.length c12, .int .i64 e2] by rw [← hW13]; exact BoxAt.new _ _ _)
      have O_h := Lib.hid (show Own W13 _ a12 l2 by rw [← hW13]; exact ho.alloc _)
      clear st hb ho hc
      have hq : (q2 != q2) = false := by simp
      obtain ⟨k15a, k15b, k15c, k15d, k15e, k15f⟩ := B_g.out.tri6
      obtain ⟨k16a, k16b, k16c, k16d, k16e, k16f⟩ := B_h.out.tri6
      go_wp2_with fail
      clear hW13
      refine (Calls.mono (show Calls Tryd.prog 8 #[.agg #[.int .i64 s2, .slice a10 l2.length c10, .int .i64 e2], .agg #[.int .i64 s2, .slice a12 l2.length c12, .int .i64 e2]] W13 (RetB (.bool true) W13) from by
        have := dyadic5_same s2 e2 a10 a12 l2 c10 c12 W13 W13.heap.size W13.heap.size (Nat.le_refl _) (Nat.le_refl _) O_g.out.ints O_h.out.ints L_g.out
        exact this) ?_)
      rintro e w14 ⟨rfl, hb⟩
      clear k15a k15b k15c k15d k15e k15f k16a k16b k16c k16d k16e k16f
      replace B_g := Lib.hid (B_g.out.below hb)
      replace O_g := Lib.hid (O_g.out.below hb)
      replace B_h := Lib.hid (B_h.out.below hb)
      replace O_h := Lib.hid (O_h.out.below hb)
      replace U := Lib.hid (U.out.trans (hb.mono U.out.size))
      replace TB := Lib.hid (TB.out.below hb)
      clear hb
      clear B_h O_h
      go_upto_if 99 with fail
      clear hq
      obtain ⟨wx, hwx⟩ : ∃ W : World, W = w14 := ⟨_, rfl⟩
      subst hwx
      go_cut [] (fun W => Below wx.heap.size wx W)
      case first =>
        rcases HQ.out with rfl | rfl
        ·  have CC := Lib.hid (Below.refl wx.heap.size wx)
           obtain ⟨u, qq, r, y, rfl, hd, R⟩ := narrow_held HX.out HR.out
           have HD := Lib.hid hd
           have RR := Lib.hid R
           clear hd R
           obtain ⟨k18a, k18b, k18c, k18d, k18e, k18f⟩ := B_g.out.tri6
           go_wp2_with fail
           refine (Calls.mono (show Calls Tryd.prog 13 #[.agg #[.int .i64 s2, .slice a10 (lim u).length c10, .int .i64 e2]] wx (RetB (.tuple #[.float .f32 y, .int .i64 0]) wx) from by
             have := iFloatOfNarrow s2 a10 u c10 e2 qq r x2 y wx wx.heap.size (Nat.le_refl _) O_g.out.ints HD.out RR.out TB.out
             exact this) ?_)
           rintro e w17 ⟨rfl, hb⟩
           clear k18a k18b k18c k18d k18e k18f
           replace B_g := Lib.hid (B_g.out.below hb)
           replace O_g := Lib.hid (O_g.out.below hb)
           replace U := Lib.hid (U.out.trans (hb.mono U.out.size))
           replace TB := Lib.hid (TB.out.below hb)
           replace CC := Lib.hid (CC.out.trans (hb.mono CC.out.size))
           clear hb
           have hord := RR.out.same
           have hord2 := ne_of_eqF hord
           clear hord
           go_wp2_with fail
           go_meet
           exact CC.out
        · go_wp2_with fail
          go_meet
          exact Below.refl _ _
      case rest => as_aux_lemma =>
        clear B_g O_g
        clear HR L_g L_h HQ HX
        replace U := Lib.hid (U.out.trans (hcut.mono U.out.size))
        replace TB := Lib.hid (TB.out.below hcut)
        clear hcut
        go_wp2_with fail
        refine (drawA a len cap wc HL.out (HC.out.below U.out U.out.size)).mono ?_
        rintro e we ⟨x3, y3, x4, y4, ⟨hx3, hy3⟩, ⟨hx4, hy4⟩, rfl, hb⟩
        have HX := Lib.hid hx3
        have HY := Lib.hid hx4
        clear hx3 hy3 hx4 hy4
        replace U := Lib.hid (U.out.trans (hb.mono U.out.size))
        replace TB := Lib.hid (TB.out.below hb)
        clear hb
        obtain ⟨s3, l3, e3, q3, hr, hlen1, hq1⟩ := dyF_code x3
        have HR := Lib.hid hr
        have L_c := Lib.hid hlen1
        have HQ := Lib.hid hq1
        clear hr hlen1 hq1
        obtain ⟨s4, l4, e4, q4, hr, hlen1, hq1⟩ := dyF_code x4
        have HS := Lib.hid hr
        have L_f := Lib.hid hlen1
        have HP := Lib.hid hq1
        clear hr hlen1 hq1
        go_wp2_with fail
        refine (Calls.mono (show Calls Tryd.prog 6 #[.float .f64 x3] we (RetYC (s3, l3, e3, q3) we.heap.size we) from by
          have := iDyadicOf x3 HX.out we TB.out
          rwa [HR.out] at this) ?_)
        rintro e w19 ⟨a19, c19, rfl, hc, ho, hb⟩
        obtain ⟨W20, hW20⟩ : ∃ W : World, (w19).alloc (.cells #[.int .i64 s3, .slice a19 l3.length c19, .int .i64 e3] 30) = W := ⟨_, rfl⟩
        have st := Lib.hid (show Below we.heap.size we W20 by rw [← hW20]; exact hb.alloc hb.size _)
        replace U := Lib.hid (U.out.trans (st.out.mono U.out.size))
        replace TB := Lib.hid (TB.out.below st.out)
        have B_c := Lib.hid (show BoxAt W20 (w19.heap.size) 30 #[.int .i64 s3, .slice a19 l3.length c19, .int .i64 e3] by rw [← hW20]; exact BoxAt.new _ _ _)
        have O_c := Lib.hid (show Own W20 _ a19 l3 by rw [← hW20]; exact ho.alloc _)
        clear st hb ho hc
        go_wp2_with fail
        clear hW20
        refine (Calls.mono (show Calls Tryd.prog 6 #[.float .f64 x4] W20 (RetYC (s4, l4, e4, q4) W20.heap.size W20) from by
          have := iDyadicOf x4 HY.out W20 TB.out
          rwa [HS.out] at this) ?_)
        rintro e w21 ⟨a21, c21, rfl, hc, ho, hb⟩
        obtain ⟨W22, hW22⟩ : ∃ W : World, (w21).alloc (.cells #[.int .i64 s4, .slice a21 l4.length c21, .int .i64 e4] 30) = W := ⟨_, rfl⟩
        have st := Lib.hid (show Below W20.heap.size W20 W22 by rw [← hW22]; exact hb.alloc hb.size _)
        replace B_c := Lib.hid (B_c.out.below st.out)
        replace O_c := Lib.hid (O_c.out.below st.out)
        replace U := Lib.hid (U.out.trans (st.out.mono U.out.size))
        replace TB := Lib.hid (TB.out.below st.out)
        have B_f := Lib.hid (show BoxAt W22 (w21.heap.size) 30 #[.int .i64 s4, .slice a21 l4.length c21, .int .i64 e4] by rw [← hW22]; exact BoxAt.new _ _ _)
        have O_f := Lib.hid (show Own W22 _ a21 l4 by rw [← hW22]; exact ho.alloc _)
        clear st hb ho hc
        rcases HQ.out with ⟨rfl, hf3⟩ | ⟨rfl, hf3⟩
        rotate_left
        · clear hf3
          go_wp2_with fail
          go_ret
          exact ⟨rfl, U.out⟩
        rcases HP.out with ⟨rfl, hf4⟩ | ⟨rfl, hf4⟩
        rotate_left
        · clear hf3 hf4
          go_wp2_with fail
          go_ret
          exact ⟨rfl, U.out⟩
        obtain ⟨v1, hv1, r1, m1, i1, hb1, z1, d1, hz1, ho1⟩ := sum_facts HX.out HY.out hf3 hf4 HR.out HS.out
        obtain ⟨v2, hv2, r2, m2, i2, hb2, z2, d2, hz2, ho2⟩ := product_facts HX.out HY.out hf3 hf4 HR.out HS.out
        obtain ⟨v3, hv3, r3, m3, i3, hb3, z3, d3, hz3, ho3⟩ := diff_facts HX.out HY.out hf3 hf4 HR.out HS.out
        have L_p := Lib.hid (binY_len' hb1)
        have HV1 := Lib.hid hv1
        have HB1 := Lib.hid hb1
        have HZ1 := Lib.hid hz1
        have HO1 := Lib.hid ho1
        clear hv1 hb1 hz1 ho1
        have L_m := Lib.hid (binY_len' hb2)
        have HV2 := Lib.hid hv2
        have HB2 := Lib.hid hb2
        have HZ2 := Lib.hid hz2
        have HO2 := Lib.hid ho2
        clear hv2 hb2 hz2 ho2
        have L_n := Lib.hid (binY_len' hb3)
        have HV3 := Lib.hid hv3
        have HB3 := Lib.hid hb3
        have HZ3 := Lib.hid hz3
        have HO3 := Lib.hid ho3
        clear hv3 hb3 hz3 ho3
        clear hf3 hf4
        obtain ⟨k24a, k24b, k24c, k24d, k24e, k24f⟩ := B_c.out.tri6
        obtain ⟨k25a, k25b, k25c, k25d, k25e, k25f⟩ := B_f.out.tri6
        go_wp2_with fail
        clear hW22
        refine (Calls.mono (show Calls Tryd.prog 15 #[.agg #[.int .i64 s3, .slice a19 l3.length c19, .int .i64 e3], .agg #[.int .i64 s4, .slice a21 l4.length c21, .int .i64 e4]] W22 (RetYC (r1, m1, i1, 0) W22.heap.size W22) from by
          have := iAddDyadics s3 a19 l3 c19 e3 s4 a21 l4 c21 e4 W22 W22.heap.size W22.heap.size (Nat.le_refl _) (Nat.le_refl _) O_c.out.ints O_f.out.ints L_c.out L_f.out TB.out
          rwa [HB1.out] at this) ?_)
        rintro e w23 ⟨a23, c23, rfl, hc, ho, hb⟩
        clear k24a k24b k24c k24d k24e k24f k25a k25b k25c k25d k25e k25f
        obtain ⟨W26, hW26⟩ : ∃ W : World, (w23).alloc (.cells #[.int .i64 r1, .slice a23 m1.length c23, .int .i64 i1] 30) = W := ⟨_, rfl⟩
        have st := Lib.hid (show Below W22.heap.size W22 W26 by rw [← hW26]; exact hb.alloc hb.size _)
        replace B_c := Lib.hid (B_c.out.below st.out)
        replace O_c := Lib.hid (O_c.out.below st.out)
        replace B_f := Lib.hid (B_f.out.below st.out)
        replace O_f := Lib.hid (O_f.out.below st.out)
        replace U := Lib.hid (U.out.trans (st.out.mono U.out.size))
        replace TB := Lib.hid (TB.out.below st.out)
        have B_p := Lib.hid (show BoxAt W26 (w23.heap.size) 30 #[.int .i64 r1, .slice a23 m1.length c23, .int .i64 i1] by rw [← hW26]; exact BoxAt.new _ _ _)
        have O_p := Lib.hid (show Own W26 _ a23 m1 by rw [← hW26]; exact ho.alloc _)
        clear st hb ho hc
        obtain ⟨k28a, k28b, k28c, k28d, k28e, k28f⟩ := B_c.out.tri6
        obtain ⟨k29a, k29b, k29c, k29d, k29e, k29f⟩ := B_f.out.tri6
        go_wp2_with fail
        clear hW26
        refine (Calls.mono (show Calls Tryd.prog 16 #[.agg #[.int .i64 s3, .slice a19 l3.length c19, .int .i64 e3], .agg #[.int .i64 s4, .slice a21 l4.length c21, .int .i64 e4]] W26 (RetYC (r2, m2, i2, 0) W26.heap.size W26) from by
          have := iMultiplyDyadics s3 a19 l3 c19 e3 s4 a21 l4 c21 e4 W26 W26.heap.size W26.heap.size (Nat.le_refl _) (Nat.le_refl _) O_c.out.ints O_f.out.ints L_c.out L_f.out TB.out
          rwa [HB2.out] at this) ?_)
        rintro e w27 ⟨a27, c27, rfl, hc, ho, hb⟩
        clear k28a k28b k28c k28d k28e k28f k29a k29b k29c k29d k29e k29f
        obtain ⟨W30, hW30⟩ : ∃ W : World, (w27).alloc (.cells #[.int .i64 r2, .slice a27 m2.length c27, .int .i64 i2] 30) = W := ⟨_, rfl⟩
        have st := Lib.hid (show Below W26.heap.size W26 W30 by rw [← hW30]; exact hb.alloc hb.size _)
        replace B_c := Lib.hid (B_c.out.below st.out)
        replace O_c := Lib.hid (O_c.out.below st.out)
        replace B_f := Lib.hid (B_f.out.below st.out)
        replace O_f := Lib.hid (O_f.out.below st.out)
        replace B_p := Lib.hid (B_p.out.below st.out)
        replace O_p := Lib.hid (O_p.out.below st.out)
        replace U := Lib.hid (U.out.trans (st.out.mono U.out.size))
        replace TB := Lib.hid (TB.out.below st.out)
        have B_m := Lib.hid (show BoxAt W30 (w27.heap.size) 30 #[.int .i64 r2, .slice a27 m2.length c27, .int .i64 i2] by rw [← hW30]; exact BoxAt.new _ _ _)
        have O_m := Lib.hid (show Own W30 _ a27 m2 by rw [← hW30]; exact ho.alloc _)
        clear st hb ho hc
        obtain ⟨k32a, k32b, k32c, k32d, k32e, k32f⟩ := B_c.out.tri6
        obtain ⟨k33a, k33b, k33c, k33d, k33e, k33f⟩ := B_f.out.tri6
        go_wp2_with fail
        clear hW30
        refine (Calls.mono (show Calls Tryd.prog 17 #[.agg #[.int .i64 s3, .slice a19 l3.length c19, .int .i64 e3], .agg #[.int .i64 s4, .slice a21 l4.length c21, .int .i64 e4]] W30 (RetYC (r3, m3, i3, 0) W30.heap.size W30) from by
          have := iSubtractDyadics s3 a19 l3 c19 e3 s4 a21 l4 c21 e4 W30 W30.heap.size W30.heap.size (Nat.le_refl _) (Nat.le_refl _) O_c.out.ints O_f.out.ints L_c.out L_f.out TB.out
          rwa [HB3.out] at this) ?_)
        rintro e w31 ⟨a31, c31, rfl, hc, ho, hb⟩
        clear k32a k32b k32c k32d k32e k32f k33a k33b k33c k33d k33e k33f
        obtain ⟨W34, hW34⟩ : ∃ W : World, (w31).alloc (.cells #[.int .i64 r3, .slice a31 m3.length c31, .int .i64 i3] 30) = W := ⟨_, rfl⟩
        have st := Lib.hid (show Below W30.heap.size W30 W34 by rw [← hW34]; exact hb.alloc hb.size _)
        replace B_c := Lib.hid (B_c.out.below st.out)
        replace O_c := Lib.hid (O_c.out.below st.out)
        replace B_f := Lib.hid (B_f.out.below st.out)
        replace O_f := Lib.hid (O_f.out.below st.out)
        replace B_p := Lib.hid (B_p.out.below st.out)
        replace O_p := Lib.hid (O_p.out.below st.out)
        replace B_m := Lib.hid (B_m.out.below st.out)
        replace O_m := Lib.hid (O_m.out.below st.out)
        replace U := Lib.hid (U.out.trans (st.out.mono U.out.size))
        replace TB := Lib.hid (TB.out.below st.out)
        have B_n := Lib.hid (show BoxAt W34 (w31.heap.size) 30 #[.int .i64 r3, .slice a31 m3.length c31, .int .i64 i3] by rw [← hW34]; exact BoxAt.new _ _ _)
        have O_n := Lib.hid (show Own W34 _ a31 m3 by rw [← hW34]; exact ho.alloc _)
        clear st hb ho hc
        obtain ⟨k36a, k36b, k36c, k36d, k36e, k36f⟩ := B_p.out.tri6
        go_wp2_with fail
        clear hW34
        refine (Calls.mono (show Calls Tryd.prog 9 #[.agg #[.int .i64 r1, .slice a23 m1.length c23, .int .i64 i1]] W34 (RetB (.tuple #[.float .f64 z1, .int .i64 d1]) W34) from by
          have := iFloatOf r1 a23 m1 c23 i1 W34 W34.heap.size (Nat.le_refl _) O_p.out.ints L_p.out TB.out
          rwa [HZ1.out] at this) ?_)
        rintro e w35 ⟨rfl, hb⟩
        clear k36a k36b k36c k36d k36e k36f
        replace B_c := Lib.hid (B_c.out.below hb)
        replace O_c := Lib.hid (O_c.out.below hb)
        replace B_f := Lib.hid (B_f.out.below hb)
        replace O_f := Lib.hid (O_f.out.below hb)
        replace B_p := Lib.hid (B_p.out.below hb)
        replace O_p := Lib.hid (O_p.out.below hb)
        replace B_m := Lib.hid (B_m.out.below hb)
        replace O_m := Lib.hid (O_m.out.below hb)
        replace B_n := Lib.hid (B_n.out.below hb)
        replace O_n := Lib.hid (O_n.out.below hb)
        replace U := Lib.hid (U.out.trans (hb.mono U.out.size))
        replace TB := Lib.hid (TB.out.below hb)
        clear hb
        obtain ⟨k38a, k38b, k38c, k38d, k38e, k38f⟩ := B_m.out.tri6
        go_wp2_with fail
        refine (Calls.mono (show Calls Tryd.prog 9 #[.agg #[.int .i64 r2, .slice a27 m2.length c27, .int .i64 i2]] w35 (RetB (.tuple #[.float .f64 z2, .int .i64 d2]) w35) from by
          have := iFloatOf r2 a27 m2 c27 i2 w35 w35.heap.size (Nat.le_refl _) O_m.out.ints L_m.out TB.out
          rwa [HZ2.out] at this) ?_)
        rintro e w37 ⟨rfl, hb⟩
        clear k38a k38b k38c k38d k38e k38f
        replace B_c := Lib.hid (B_c.out.below hb)
        replace O_c := Lib.hid (O_c.out.below hb)
        replace B_f := Lib.hid (B_f.out.below hb)
        replace O_f := Lib.hid (O_f.out.below hb)
        replace B_p := Lib.hid (B_p.out.below hb)
        replace O_p := Lib.hid (O_p.out.below hb)
        replace B_m := Lib.hid (B_m.out.below hb)
        replace O_m := Lib.hid (O_m.out.below hb)
        replace B_n := Lib.hid (B_n.out.below hb)
        replace O_n := Lib.hid (O_n.out.below hb)
        replace U := Lib.hid (U.out.trans (hb.mono U.out.size))
        replace TB := Lib.hid (TB.out.below hb)
        clear hb
        obtain ⟨k40a, k40b, k40c, k40d, k40e, k40f⟩ := B_n.out.tri6
        go_wp2_with fail
        refine (Calls.mono (show Calls Tryd.prog 9 #[.agg #[.int .i64 r3, .slice a31 m3.length c31, .int .i64 i3]] w37 (RetB (.tuple #[.float .f64 z3, .int .i64 d3]) w37) from by
          have := iFloatOf r3 a31 m3 c31 i3 w37 w37.heap.size (Nat.le_refl _) O_n.out.ints L_n.out TB.out
          rwa [HZ3.out] at this) ?_)
        rintro e w39 ⟨rfl, hb⟩
        clear k40a k40b k40c k40d k40e k40f
        replace B_c := Lib.hid (B_c.out.below hb)
        replace O_c := Lib.hid (O_c.out.below hb)
        replace B_f := Lib.hid (B_f.out.below hb)
        replace O_f := Lib.hid (O_f.out.below hb)
        replace B_p := Lib.hid (B_p.out.below hb)
        replace O_p := Lib.hid (O_p.out.below hb)
        replace B_m := Lib.hid (B_m.out.below hb)
        replace O_m := Lib.hid (O_m.out.below hb)
        replace B_n := Lib.hid (B_n.out.below hb)
        replace O_n := Lib.hid (O_n.out.below hb)
        replace U := Lib.hid (U.out.trans (hb.mono U.out.size))
        replace TB := Lib.hid (TB.out.below hb)
        clear hb
        have hs1 : ∀ W : World, (binOp .add 24 (.float .f64 x3) (.float .f64 x4)).run Tryd.prog W = .ok (.float .f64 v1) W := fun W => run_float_arith W _ _ _ _ _ _ HV1.out
        have hs2 : ∀ W : World, (binOp .mul 24 (.float .f64 x3) (.float .f64 x4)).run Tryd.prog W = .ok (.float .f64 v2) W := fun W => run_float_arith W _ _ _ _ _ _ HV2.out
        have hs3 : ∀ W : World, (binOp .sub 24 (.float .f64 x3) (.float .f64 x4)).run Tryd.prog W = .ok (.float .f64 v3) W := fun W => run_float_arith W _ _ _ _ _ _ HV3.out
        have t1 := fun W t => fop_test Tryd.prog W t v1
        have t2 := fun W t => fop_test Tryd.prog W t v2
        have t3 := fun W t => fop_test Tryd.prog W t v3
        have E := Lib.hid (fun n => below_drewN U.out n)
        clear HQ HP HR HS HX HY HB1 HB2 HB3
        rcases fin_case HO1.out with ⟨rfl, g1, o1⟩ | ⟨n1, n1', g1⟩ <;> rcases fin_case HO2.out with ⟨rfl, g2, o2⟩ | ⟨n2, n2', g2⟩ <;> rcases fin_case HO3.out with ⟨rfl, g3, o3⟩ | ⟨n3, n3', g3⟩
        all_goals
          rw [g1] at t1
          rw [g2] at t2
          rw [g3] at t3
          clear g1 g2 g3
        all_goals
          go_wp2_with fail
          go_ret
          exact ⟨rfl, E.out _⟩
end Go.Proofs.YtnnbfoemmgddeaaDoor
