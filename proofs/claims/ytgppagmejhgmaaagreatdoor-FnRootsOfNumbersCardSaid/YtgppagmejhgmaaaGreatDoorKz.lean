/-
  The walk of laws.FnRootsOfNumbers. Conditions: the code's bytes can be read; the library's table is as its initialiser lays it.
-/
import Derived.Test.YtgppagmejhgmaaaGreatDoorKy
namespace Go.Proofs.YtgppagmejhgmaaaGreatDoor
set_option linter.unusedVariables false
open Go Go.RowKit Ieee

theorem moR_fin {x y : Nat} : isF .f64 (moR x y).1 = true ∧ (moR x y).1 < 2 ^ 64 := by
  unfold moR fitF
  split
  · split
    · rename_i h; exact ⟨h, (show NN (moN x y) from nn_fw _ _).lt⟩
    · exact ⟨isF_0, by show (0 : Nat) < 2 ^ 64; omega⟩
  · exact ⟨isF_0, by show (0 : Nat) < 2 ^ 64; omega⟩
theorem moR_code {x y : Nat} (h : (moR x y).2 = 0) : isF .f64 x = true ∧ isF .f64 y = true ∧ isF .f64 (moN x y) = true ∧ (moR x y).1 = moN x y := by
  cases hf : (isF .f64 x && isF .f64 y)
  · rw [moR_no hf] at h; cases h
  · obtain ⟨fx, fy⟩ := both_yes hf
    rw [moR_yes hf] at h ⊢
    unfold fitF at h ⊢
    by_cases hM : isF .f64 (rtI (mg x * mg x + mg y * mg y)) = true
    · rw [if_pos hM]
      exact ⟨fx, fy, hM, rfl⟩
    · rw [if_neg hM] at h; cases h
theorem rtF_lt64 {x : Nat} (hx : x < 2 ^ 64) : (rtF x).1 < 2 ^ 64 := by
  cases hf : isF .f64 x
  · rw [rtF_no hf]; show (0 : Nat) < 2 ^ 64; omega
  · cases hl : (FloatKind.f64.format.order x 0 == some .lt)
    · rw [rtF_yes hf hl]
      obtain ⟨s, m, i, he, hF, hC⟩ := fin_fw hx hf
      by_cases hm : m = 0
      · subst hm
        have h4 : sq x = x := by rw [he]; unfold sq; rw [sqrt_zero]; rfl
        show sq x < 2 ^ 64
        rw [h4]; exact hx
      · have hs : s = false := by
          rw [he, lt0_fw s hF] at hl
          cases s
          · rfl
          · simp [hm] at hl
        subst hs
        obtain ⟨c, r, e, e1, _⟩ := sqrt_fw hF hm
        have h4 : sq x = fw false (stk (m * 2 ^ c) r) (e - 1) := by rw [he]; unfold sq; rw [e1]; rfl
        show sq x < 2 ^ 64
        rw [h4]; exact fw_lt _ _ _
    · rw [rtF_lt hf hl]; show (0 : Nat) < 2 ^ 64; omega
theorem rnR_num (x y : Nat) : (∃ s m i, FloatKind.f32.format.read (rnR x y).1 = .number s m i) ∧ (∃ s m i, FloatKind.f32.format.read (rnR x y).2.1 = .number s m i) ∧ ((rnR x y).2.2 ≠ 0 → (rnR x y).1 = 0 ∧ (rnR x y).2.1 = 0) ∧
    ((rnR x y).2.2 = 0 → (isN32 x && isN32 y) = true ∧ ∃ a b, rcR (wd x) (wd y) = (a, b, 0) ∧ (rnR x y).1 = nr a ∧ (rnR x y).2.1 = nr b ∧ Slim a ∧ Slim b) := by
  have h0 : ∃ s m i, FloatKind.f32.format.read 0 = .number s m i := ⟨false, 0, -149, by decide +kernel⟩
  cases hn : (isN32 x && isN32 y)
  · rw [rnR_no hn]
    exact ⟨h0, h0, fun _ => ⟨rfl, rfl⟩, fun h => by cases h⟩
  · obtain ⟨⟨a, b, c⟩, hr⟩ : ∃ r, rcR (wd x) (wd y) = r := ⟨_, rfl⟩
    by_cases hc : c = 0
    · subst hc
      obtain ⟨g1, g2, g3⟩ := rnR_yes hn hr
      rw [g1]
      exact ⟨g2.conv.2, g3.conv.2, fun h => absurd rfl h, fun _ => ⟨rfl, a, b, hr, rfl, rfl, g2, g3⟩⟩
    · rw [rnR_code hn (c := c) (by rw [hr]) hc]
      exact ⟨h0, h0, fun _ => ⟨rfl, rfl⟩, fun h => absurd h hc⟩

set_option maxRecDepth 100000 in
set_option maxHeartbeats 16000000 in
theorem numbers_walk (a : Option Addr) (len cap : Nat) (w : World) (hlen : len ≤ 9223372036854775807) (hcode : Code8 w.heap.size a len w) (hTab : Tab w) :
    Calls Tryz.prog 3 #[.slice a len cap] w (LawDone w) := by
  by_cases hbig : (len : Int) ≤ 4096
  rotate_left
  · have HBG := Lib.hid (big_yes a len cap (by omega))
    clear hlen hcode hbig hTab
    go_enter Tryz.func3, Tryz.ntmps3
    go_wp2_with (go_at_call 4; refine (HBG.out _).mono ?_; rintro e w' ⟨rfl, rfl⟩)
    go_ret
    exact ⟨rfl, Below.refl _ _⟩
  · have HL := Lib.hid hlen
    have HB4 := Lib.hid hbig
    have HC := Lib.hid hcode
    have TB := Lib.hid (show ∀ W, Below w.heap.size w W → Tab W from fun W hW => hTab.below hW)
    have HBG := Lib.hid (big_any a len cap hbig)
    have U := Lib.hid (Below.refl w.heap.size w)
    clear hlen hcode hbig hTab
    go_enter Tryz.func3, Tryz.ntmps3
    go_wp2_with (go_at_call 4; refine (HBG.out _).mono ?_; rintro e w' ⟨rfl, rfl⟩)
    -- roots of floats
    refine (drawRF a len cap w HL.out (HC.out.below U.out U.out.size)).mono ?_
    rintro e w1 ⟨x, hx, rfl, hb⟩
    replace U := Lib.hid (U.out.trans hb)
    have HI := Lib.hid (iRootOfFloat x hx)
    have HS := Lib.hid (sRootOfFloat x hx)
    have HF := Lib.hid (float9_fin (rtF x).1 (rtF_lt64 hx) (isF_rtF hx))
    obtain ⟨⟨r1, c1⟩, hr⟩ : ∃ r, rtF x = r := ⟨_, rfl⟩
    rw [hr] at HI HS HF
    have hcc : (c1 != c1) = false := by simp
    clear hb hx hr
    go_wp2_with fail
    refine (HI.out _).mono ?_
    rintro e w2 ⟨rfl, rfl⟩
    go_wp2_with fail
    refine (HS.out _).mono ?_
    rintro e w2 ⟨rfl, hb⟩
    replace U := Lib.hid (U.out.trans (hb.mono U.out.size))
    clear hb
    go_wp2_with fail
    refine (HF.out _).mono ?_
    rintro e w3 ⟨rfl, rfl⟩
    clear HI HS HF
    go_wp2_with fail
    clear hcc
    -- narrow ones
    refine (drawRN a len cap _ HL.out (HC.out.below U.out U.out.size)).mono ?_
    rintro e w3 ⟨y, hy, rfl, hb⟩
    replace U := Lib.hid (U.out.trans (hb.mono U.out.size))
    have HI := Lib.hid (iRootOfFloatNarrow y)
    have HS := Lib.hid (sRootOfFloatNarrow y)
    obtain ⟨s, m, i, e⟩ := rtN_fin y
    obtain ⟨g1, g2, g3⟩ := read_fin_f32 e
    have hF : Fit m i := Fit.of (by omega) (by omega) (by omega)
    have hcv := conv_num 29 (by rw [Tryz.underlying29]; rfl) e
    have HF := Lib.hid (float9_fin (fw s m i) (fw_lt _ _ _) (isF_fw s hF))
    obtain ⟨Y, hY⟩ : ∃ Y, fw s m i = Y := ⟨_, rfl⟩
    rw [hY] at hcv HF
    clear hY hF g1 g2 g3 e
    obtain ⟨⟨r2, c2⟩, hr⟩ : ∃ r, rtN y = r := ⟨_, rfl⟩
    rw [hr] at HI HS hcv
    try simp only at hcv
    have hcc : (c2 != c2) = false := by simp
    clear hb hy hr
    go_wp2_with fail
    refine (HI.out _).mono ?_
    rintro e w4 ⟨n4, rfl, rfl⟩
    replace U := Lib.hid (below_drewN U.out n4)
    go_wp2_with fail
    refine (HS.out _).mono ?_
    rintro e w4 ⟨rfl, hb⟩
    replace U := Lib.hid (U.out.trans (hb.mono U.out.size))
    clear hb
    go_wp2_with fail
    refine (HF.out _).mono ?_
    rintro e w5 ⟨rfl, rfl⟩
    clear HI HS HF
    go_wp2_with fail
    clear hcc hcv
    -- a square
    have HZ4 := Lib.hid U.out.size
    refine (roll_any a len cap _ HB4.out (HC.out.below U.out U.out.size)).mono ?_
    rintro e w5 ⟨b, rfl, hb, hsrc⟩
    have hz5 := hb.size
    replace U := Lib.hid (U.out.trans (hb.mono U.out.size))
    have HD := Lib.hid (roll_below a len cap 90000001 (by omega) (by omega) w5 _ b hsrc hz5)
    have HZ := Lib.hid hz5
    clear hb hsrc hz5
    go_wp2_with fail
    refine HD.out.mono ?_
    rintro e w6 ⟨v, hv, rfl, hb⟩
    replace U := Lib.hid (U.out.trans (hb.mono HZ4.out))
    obtain ⟨m1, m2, m3, m4⟩ := root_square (k := v) (by omega)
    have HI := Lib.hid (iRootOfFloat (fw false (v * v) 0) m4)
    rw [m2] at HI
    obtain ⟨K, hK⟩ : ∃ K, floatOfInt .f64 (v : Int) = K := ⟨_, rfl⟩
    obtain ⟨Q, hQ⟩ : ∃ Q, fw false (v * v) 0 = Q := ⟨_, rfl⟩
    rw [hK, hQ] at m1
    rw [hK, hQ] at HI
    rw [hK] at m3
    have hmul : ∀ W : World, (binOp .mul 24 (.float .f64 K) (.float .f64 K)).run Tryz.prog W = .ok (.float .f64 Q) W := fun W => run_float_arith W _ _ _ _ _ _ m1
    have hne : (FloatKind.f64.format.order K K != some .eq) = false := by rw [order_self (isF_not_isN m3)]; rfl
    clear m1 m2 m3 m4 hb hv hQ HD HZ HZ4
    go_wp2_with fail
    refine (HI.out _).mono ?_
    rintro e w7 ⟨rfl, rfl⟩
    clear HI hmul
    go_wp2_with fail
    clear hne hK
    -- moduli
    refine (drawMO a len cap _ HL.out (HC.out.below U.out U.out.size)).mono ?_
    rintro e w8 ⟨x, y, hx, hy, rfl, hb⟩
    replace U := Lib.hid (U.out.trans (hb.mono U.out.size))
    have HI := Lib.hid (iModulusOf x y hx hy _ (TB.out _ U.out))
    have HS := Lib.hid (sModulusOf x y hx hy)
    have HF := Lib.hid (float9_fin (moR x y).1 (moR_fin (x := x) (y := y)).2 (moR_fin (x := x) (y := y)).1)
    have HLA := Lib.hid (iLarg x y)
    have HSZ := Lib.hid (iSizeC x y)
    have HMB := Lib.hid (show (moR x y).2 = 0 → isF .f64 x = true ∧ isF .f64 y = true ∧ isF .f64 (moN x y) = true ∧ (moR x y).1 = moN x y from moR_code)
    have HBT := Lib.hid (mod_between hx hy)
    obtain ⟨⟨r3, c3⟩, hr⟩ : ∃ r, moR x y = r := ⟨_, rfl⟩
    rw [hr] at HI HS HF HMB
    have hcc : (c3 != c3) = false := by simp
    clear hb hx hy hr
    go_wp2_with fail
    refine HI.out.mono ?_
    rintro e w9 ⟨rfl, hb⟩
    replace U := Lib.hid (U.out.trans (hb.mono U.out.size))
    clear hb
    go_wp2_with fail
    refine (HS.out _).mono ?_
    rintro e w10 ⟨rfl, hb⟩
    replace U := Lib.hid (U.out.trans (hb.mono U.out.size))
    clear hb
    go_wp2_with fail
    refine (HF.out _).mono ?_
    rintro e w11 ⟨rfl, rfl⟩
    clear HI HS HF
    by_cases h3 : c3 = 0
    · obtain ⟨fx, fy, fM, e3⟩ := HMB.out h3
      try simp only at e3
      subst h3
      obtain ⟨b1, c, b2, b3⟩ := HBT.out fx fy fM
      have hfc : finC x y = true := by unfold finC; rw [fx, fy]; rfl
      unfold largR at HLA
      rw [if_pos hfc] at HLA
      rw [b2] at HSZ
      rw [← e3] at b1 b3
      obtain ⟨P, hP⟩ : ∃ P, max (ab x) (ab y) = P := ⟨_, rfl⟩
      rw [hP] at HLA b1
      obtain ⟨S, hS⟩ : ∃ S, cf .add .f64 (ab x) (ab y) = S := ⟨_, rfl⟩
      rw [hS] at HSZ b3
      clear HMB HBT fx fy fM e3 b2 hfc hP hS hcc
      by_cases hc : c = 0
      · subst hc
        have b4 := b3 rfl
        rw [if_pos rfl] at HSZ
        clear b3
        go_wp2_with fail
        refine (HLA.out _).mono ?_
        rintro e w12 ⟨n12, rfl, rfl⟩
        go_wp2_with fail
        refine (HSZ.out _).mono ?_
        rintro e w13 ⟨n13, rfl, rfl⟩
        replace U := Lib.hid (below_drewN U.out (n12 + n13))
        go_wp2_with fail
        clear b1 b4 HLA HSZ
        refine (drawRC a len cap _ HL.out (HC.out.below U.out U.out.size)).mono ?_
        rintro e w14 ⟨x, y, hx, hy, rfl, hb⟩
        replace U := Lib.hid (U.out.trans (hb.mono U.out.size))
        have HI := Lib.hid (iRootOfComplex x y hx hy _ (TB.out _ U.out))
        have HS := Lib.hid (sRootOfComplex x y hx hy)
        obtain ⟨p1, p2, p3, p4, p5⟩ := rcR_parts hx hy
        have HF := Lib.hid (wide9_fin _ _ p1 p2 p3 p4)
        obtain ⟨⟨ra, rb, rc⟩, hr⟩ : ∃ r, rcR x y = r := ⟨_, rfl⟩
        rw [hr] at HI HS HF p5
        try simp only at p5
        have hcc : (rc != rc) = false := by simp
        clear hb hx hy hr p1 p2 p3 p4
        go_wp2_with fail
        refine HI.out.mono ?_
        rintro e w15 ⟨rfl, hb⟩
        replace U := Lib.hid (U.out.trans (hb.mono U.out.size))
        clear hb
        go_wp2_with fail
        refine (HS.out _).mono ?_
        rintro e w16 ⟨rfl, hb⟩
        replace U := Lib.hid (U.out.trans (hb.mono U.out.size))
        clear hb
        go_wp2_with fail
        refine (HF.out _).mono ?_
        rintro e w17 ⟨rfl, rfl⟩
        clear HI HS HF
        obtain ⟨rz, hrz⟩ : ∃ rz : Bool, (rc == 0) = rz := ⟨_, rfl⟩
        cases rz
        all_goals
          go_wp2_with fail
          clear hcc hrz p5
          refine (drawCN a len cap _ HL.out (HC.out.below U.out U.out.size)).mono ?_
          rintro e w18 ⟨x4, y4, _, _, rfl, hb⟩
          replace U := Lib.hid (U.out.trans (hb.mono U.out.size))
          have HI := Lib.hid (iRootOfComplexNarrow x4 y4 _ (TB.out _ U.out))
          have HS := Lib.hid (sRootOfComplexNarrow x4 y4)
          obtain ⟨⟨sa, ma, ia, q1⟩, ⟨sb, mb, ib, q2⟩, q3, q4⟩ := rnR_num x4 y4
          have HF := Lib.hid (slim9_num q1 q2)
          have Q3 := Lib.hid q3
          have Q4 := Lib.hid q4
          obtain ⟨⟨na, nb, nc⟩, hr⟩ : ∃ r, rnR x4 y4 = r := ⟨_, rfl⟩
          rw [hr] at HI HS HF Q3 Q4
          have hcc : (nc != nc) = false := by simp
          clear hb hr q1 q2 q3 q4
          go_wp2_with fail
          refine HI.out.mono ?_
          rintro e w19 ⟨rfl, hb⟩
          replace U := Lib.hid (U.out.trans (hb.mono U.out.size))
          clear hb
          go_wp2_with fail
          refine (HS.out _).mono ?_
          rintro e w20 ⟨rfl, hb⟩
          replace U := Lib.hid (U.out.trans (hb.mono U.out.size))
          clear hb
          go_wp2_with fail
          refine (HF.out _).mono ?_
          rintro e w21 ⟨rfl, rfl⟩
          clear HI HS
          by_cases hn : nc = 0
          · obtain ⟨n1, A, B, n2, n3, n4, n5, n6⟩ := Q4.out hn
            try simp only at n3 n4
            subst hn
            obtain ⟨X, Y, kk, k1, k2, k3, k4, _⟩ := conv_ccx x4 y4 w
            obtain ⟨k5, k6⟩ := k4 n1
            have hcx : ∀ W : World, (convert 43 37 (.complex .f32 x4 y4)).run Tryz.prog W = .ok (.complex .f64 X Y) W := fun W => by
              obtain ⟨i1, i2⟩ := both_yes n1
              obtain ⟨s1, u1, v1, j1, _⟩ := isN32_yes i1
              obtain ⟨s2, u2, v2, j2, _⟩ := isN32_yes i2
              rw [k5, k6, wd_num j1, wd_num j2]
              exact conv_cc 43 (by rw [Tryz.underlying43]; rfl) j1 j2 W
            have HR := Lib.hid (iRootOfComplex X Y k2 k3 _ (TB.out _ U.out))
            rw [k5, k6, n2] at HR
            rw [← k5, ← k6] at HR
            have hcn := conv_cn 37 (by rw [Tryz.underlying37]; rfl) n5.conv.1 n6.conv.1
            rw [← n3, ← n4] at hcn
            clear k1 k2 k3 k4 k5 k6 n1 n2 n3 n4 n5 n6 Q3 Q4
            go_wp2_with fail
            refine HR.out.mono ?_
            rintro e w22 ⟨rfl, hb⟩
            replace U := Lib.hid (U.out.trans (hb.mono U.out.size))
            clear hb
            go_wp2_with fail
            refine (HF.out _).mono ?_
            rintro e w23 ⟨rfl, rfl⟩
            go_wp2_with fail
            go_ret
            exact ⟨rfl, U.out⟩
          · obtain ⟨z1, z2⟩ := Q3.out hn
            try simp only at z1 z2
            subst z1
            subst z2
            have hne : (nc != 0) = true := by simpa using hn
            have h32 : (FloatKind.f32.format.order 0 0 == some .eq) = true := by decide +kernel
            clear Q3 Q4 hn
            go_wp2_with fail
            go_ret
            exact ⟨by simp, U.out⟩
      · rw [if_neg hc] at HSZ
        have hce : (c == 0) = false := by simpa using hc
        clear b3 hc
        go_wp2_with fail
        refine (HLA.out _).mono ?_
        rintro e w12 ⟨n12, rfl, rfl⟩
        go_wp2_with fail
        refine (HSZ.out _).mono ?_
        rintro e w13 ⟨n13, rfl, rfl⟩
        replace U := Lib.hid (below_drewN U.out (n12 + n13))
        go_wp2_with fail
        clear b1 HLA HSZ hce
        refine (drawRC a len cap _ HL.out (HC.out.below U.out U.out.size)).mono ?_
        rintro e w14 ⟨x, y, hx, hy, rfl, hb⟩
        replace U := Lib.hid (U.out.trans (hb.mono U.out.size))
        have HI := Lib.hid (iRootOfComplex x y hx hy _ (TB.out _ U.out))
        have HS := Lib.hid (sRootOfComplex x y hx hy)
        obtain ⟨p1, p2, p3, p4, p5⟩ := rcR_parts hx hy
        have HF := Lib.hid (wide9_fin _ _ p1 p2 p3 p4)
        obtain ⟨⟨ra, rb, rc⟩, hr⟩ : ∃ r, rcR x y = r := ⟨_, rfl⟩
        rw [hr] at HI HS HF p5
        try simp only at p5
        have hcc : (rc != rc) = false := by simp
        clear hb hx hy hr p1 p2 p3 p4
        go_wp2_with fail
        refine HI.out.mono ?_
        rintro e w15 ⟨rfl, hb⟩
        replace U := Lib.hid (U.out.trans (hb.mono U.out.size))
        clear hb
        go_wp2_with fail
        refine (HS.out _).mono ?_
        rintro e w16 ⟨rfl, hb⟩
        replace U := Lib.hid (U.out.trans (hb.mono U.out.size))
        clear hb
        go_wp2_with fail
        refine (HF.out _).mono ?_
        rintro e w17 ⟨rfl, rfl⟩
        clear HI HS HF
        obtain ⟨rz, hrz⟩ : ∃ rz : Bool, (rc == 0) = rz := ⟨_, rfl⟩
        cases rz
        all_goals
          go_wp2_with fail
          clear hcc hrz p5
          refine (drawCN a len cap _ HL.out (HC.out.below U.out U.out.size)).mono ?_
          rintro e w18 ⟨x4, y4, _, _, rfl, hb⟩
          replace U := Lib.hid (U.out.trans (hb.mono U.out.size))
          have HI := Lib.hid (iRootOfComplexNarrow x4 y4 _ (TB.out _ U.out))
          have HS := Lib.hid (sRootOfComplexNarrow x4 y4)
          obtain ⟨⟨sa, ma, ia, q1⟩, ⟨sb, mb, ib, q2⟩, q3, q4⟩ := rnR_num x4 y4
          have HF := Lib.hid (slim9_num q1 q2)
          have Q3 := Lib.hid q3
          have Q4 := Lib.hid q4
          obtain ⟨⟨na, nb, nc⟩, hr⟩ : ∃ r, rnR x4 y4 = r := ⟨_, rfl⟩
          rw [hr] at HI HS HF Q3 Q4
          have hcc : (nc != nc) = false := by simp
          clear hb hr q1 q2 q3 q4
          go_wp2_with fail
          refine HI.out.mono ?_
          rintro e w19 ⟨rfl, hb⟩
          replace U := Lib.hid (U.out.trans (hb.mono U.out.size))
          clear hb
          go_wp2_with fail
          refine (HS.out _).mono ?_
          rintro e w20 ⟨rfl, hb⟩
          replace U := Lib.hid (U.out.trans (hb.mono U.out.size))
          clear hb
          go_wp2_with fail
          refine (HF.out _).mono ?_
          rintro e w21 ⟨rfl, rfl⟩
          clear HI HS
          by_cases hn : nc = 0
          · obtain ⟨n1, A, B, n2, n3, n4, n5, n6⟩ := Q4.out hn
            try simp only at n3 n4
            subst hn
            obtain ⟨X, Y, kk, k1, k2, k3, k4, _⟩ := conv_ccx x4 y4 w
            obtain ⟨k5, k6⟩ := k4 n1
            have hcx : ∀ W : World, (convert 43 37 (.complex .f32 x4 y4)).run Tryz.prog W = .ok (.complex .f64 X Y) W := fun W => by
              obtain ⟨i1, i2⟩ := both_yes n1
              obtain ⟨s1, u1, v1, j1, _⟩ := isN32_yes i1
              obtain ⟨s2, u2, v2, j2, _⟩ := isN32_yes i2
              rw [k5, k6, wd_num j1, wd_num j2]
              exact conv_cc 43 (by rw [Tryz.underlying43]; rfl) j1 j2 W
            have HR := Lib.hid (iRootOfComplex X Y k2 k3 _ (TB.out _ U.out))
            rw [k5, k6, n2] at HR
            rw [← k5, ← k6] at HR
            have hcn := conv_cn 37 (by rw [Tryz.underlying37]; rfl) n5.conv.1 n6.conv.1
            rw [← n3, ← n4] at hcn
            clear k1 k2 k3 k4 k5 k6 n1 n2 n3 n4 n5 n6 Q3 Q4
            go_wp2_with fail
            refine HR.out.mono ?_
            rintro e w22 ⟨rfl, hb⟩
            replace U := Lib.hid (U.out.trans (hb.mono U.out.size))
            clear hb
            go_wp2_with fail
            refine (HF.out _).mono ?_
            rintro e w23 ⟨rfl, rfl⟩
            go_wp2_with fail
            go_ret
            exact ⟨rfl, U.out⟩
          · obtain ⟨z1, z2⟩ := Q3.out hn
            try simp only at z1 z2
            subst z1
            subst z2
            have hne : (nc != 0) = true := by simpa using hn
            have h32 : (FloatKind.f32.format.order 0 0 == some .eq) = true := by decide +kernel
            clear Q3 Q4 hn
            go_wp2_with fail
            go_ret
            exact ⟨by simp, U.out⟩
    · have hce : (c3 == 0) = false := by simpa using h3
      clear HMB HBT HLA HSZ h3
      go_wp2_with fail
      clear hcc hce
      refine (drawRC a len cap _ HL.out (HC.out.below U.out U.out.size)).mono ?_
      rintro e w14 ⟨x, y, hx, hy, rfl, hb⟩
      replace U := Lib.hid (U.out.trans (hb.mono U.out.size))
      have HI := Lib.hid (iRootOfComplex x y hx hy _ (TB.out _ U.out))
      have HS := Lib.hid (sRootOfComplex x y hx hy)
      obtain ⟨p1, p2, p3, p4, p5⟩ := rcR_parts hx hy
      have HF := Lib.hid (wide9_fin _ _ p1 p2 p3 p4)
      obtain ⟨⟨ra, rb, rc⟩, hr⟩ : ∃ r, rcR x y = r := ⟨_, rfl⟩
      rw [hr] at HI HS HF p5
      try simp only at p5
      have hcc : (rc != rc) = false := by simp
      clear hb hx hy hr p1 p2 p3 p4
      go_wp2_with fail
      refine HI.out.mono ?_
      rintro e w15 ⟨rfl, hb⟩
      replace U := Lib.hid (U.out.trans (hb.mono U.out.size))
      clear hb
      go_wp2_with fail
      refine (HS.out _).mono ?_
      rintro e w16 ⟨rfl, hb⟩
      replace U := Lib.hid (U.out.trans (hb.mono U.out.size))
      clear hb
      go_wp2_with fail
      refine (HF.out _).mono ?_
      rintro e w17 ⟨rfl, rfl⟩
      clear HI HS HF
      obtain ⟨rz, hrz⟩ : ∃ rz : Bool, (rc == 0) = rz := ⟨_, rfl⟩
      cases rz
      all_goals
        go_wp2_with fail
        clear hcc hrz p5
        refine (drawCN a len cap _ HL.out (HC.out.below U.out U.out.size)).mono ?_
        rintro e w18 ⟨x4, y4, _, _, rfl, hb⟩
        replace U := Lib.hid (U.out.trans (hb.mono U.out.size))
        have HI := Lib.hid (iRootOfComplexNarrow x4 y4 _ (TB.out _ U.out))
        have HS := Lib.hid (sRootOfComplexNarrow x4 y4)
        obtain ⟨⟨sa, ma, ia, q1⟩, ⟨sb, mb, ib, q2⟩, q3, q4⟩ := rnR_num x4 y4
        have HF := Lib.hid (slim9_num q1 q2)
        have Q3 := Lib.hid q3
        have Q4 := Lib.hid q4
        obtain ⟨⟨na, nb, nc⟩, hr⟩ : ∃ r, rnR x4 y4 = r := ⟨_, rfl⟩
        rw [hr] at HI HS HF Q3 Q4
        have hcc : (nc != nc) = false := by simp
        clear hb hr q1 q2 q3 q4
        go_wp2_with fail
        refine HI.out.mono ?_
        rintro e w19 ⟨rfl, hb⟩
        replace U := Lib.hid (U.out.trans (hb.mono U.out.size))
        clear hb
        go_wp2_with fail
        refine (HS.out _).mono ?_
        rintro e w20 ⟨rfl, hb⟩
        replace U := Lib.hid (U.out.trans (hb.mono U.out.size))
        clear hb
        go_wp2_with fail
        refine (HF.out _).mono ?_
        rintro e w21 ⟨rfl, rfl⟩
        clear HI HS
        by_cases hn : nc = 0
        · obtain ⟨n1, A, B, n2, n3, n4, n5, n6⟩ := Q4.out hn
          try simp only at n3 n4
          subst hn
          obtain ⟨X, Y, kk, k1, k2, k3, k4, _⟩ := conv_ccx x4 y4 w
          obtain ⟨k5, k6⟩ := k4 n1
          have hcx : ∀ W : World, (convert 43 37 (.complex .f32 x4 y4)).run Tryz.prog W = .ok (.complex .f64 X Y) W := fun W => by
            obtain ⟨i1, i2⟩ := both_yes n1
            obtain ⟨s1, u1, v1, j1, _⟩ := isN32_yes i1
            obtain ⟨s2, u2, v2, j2, _⟩ := isN32_yes i2
            rw [k5, k6, wd_num j1, wd_num j2]
            exact conv_cc 43 (by rw [Tryz.underlying43]; rfl) j1 j2 W
          have HR := Lib.hid (iRootOfComplex X Y k2 k3 _ (TB.out _ U.out))
          rw [k5, k6, n2] at HR
          rw [← k5, ← k6] at HR
          have hcn := conv_cn 37 (by rw [Tryz.underlying37]; rfl) n5.conv.1 n6.conv.1
          rw [← n3, ← n4] at hcn
          clear k1 k2 k3 k4 k5 k6 n1 n2 n3 n4 n5 n6 Q3 Q4
          go_wp2_with fail
          refine HR.out.mono ?_
          rintro e w22 ⟨rfl, hb⟩
          replace U := Lib.hid (U.out.trans (hb.mono U.out.size))
          clear hb
          go_wp2_with fail
          refine (HF.out _).mono ?_
          rintro e w23 ⟨rfl, rfl⟩
          go_wp2_with fail
          go_ret
          exact ⟨rfl, U.out⟩
        · obtain ⟨z1, z2⟩ := Q3.out hn
          try simp only at z1 z2
          subst z1
          subst z2
          have hne : (nc != 0) = true := by simpa using hn
          have h32 : (FloatKind.f32.format.order 0 0 == some .eq) = true := by decide +kernel
          clear Q3 Q4 hn
          go_wp2_with fail
          go_ret
          exact ⟨by simp, U.out⟩
end Go.Proofs.YtgppagmejhgmaaaGreatDoor
