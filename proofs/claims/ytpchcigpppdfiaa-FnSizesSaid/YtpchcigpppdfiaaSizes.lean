/-
  The walk of laws.FnSizes: for every code it returns true and writes nothing that was there. No conditions.
-/
import Derived.Test.YtpchcigpppdfiaaSs
import Derived.Test.YtpchcigpppdfiaaWide
import Derived.Deep.DeepCutAuto
namespace Go.Proofs.Ytpchcigpppdfiaa
set_option linter.unusedVariables false
open Go Go.RowKit

set_option maxHeartbeats 400000 in
theorem drawSum (a : Option Addr) (len cap : Nat) (w : World) (hlen : len ≤ 9223372036854775807) (hcode : Code8 w.heap.size a len w) :
    Calls Try.prog 23 #[.slice a len cap] w (ListC w.heap.size w) := by
  have H := fun (W : World) (h : Code8 W.heap.size a len W) => many_any a len cap W hlen h
  have HC := Lib.hid hcode
  have HH := Lib.hid H
  clear hcode H hlen
  go_enter Try.func23, Try.ntmps23
  go_wp2_with (go_at_call 65; refine (HH.out _ HC.out).mono ?_; rintro e w' ⟨q, zs, c, rfl, hcl, hb⟩)
  go_ret
  exact ⟨q, zs, c, rfl, hcl, hb⟩

theorem size_case {x y s p : Nat} {c1 c2 : Int} (hs : sizeR x y = (s, c1)) (hp : largR x y = (p, c2)) :
    (c1 == 0) = false ∨ (c1 = 0 ∧ (FloatKind.f64.format.order s p == some .lt) = false ∧ ∀ W, (FloatKind.f64.format.order s (fop Try.prog W .mul 26 .f64 4611686018427387904 p).1 == some .gt) = false) := by
  by_cases h : c1 = 0
  · subst h
    obtain ⟨h1, h2⟩ := size_law hs hp
    refine .inr ⟨rfl, ?_, fun W => ?_⟩
    · rw [kf]; revert h1; cases f64.order s p with
      | none => intro _; rfl
      | some o => cases o <;> intro h1 <;> first | rfl | exact absurd rfl h1
    · rw [order_congr (NEq.refl _ s) (fop_eq _ _ _ _ _ _ _ rfl), kf]
      revert h2; cases f64.order s (cf .mul .f64 4611686018427387904 p) with
      | none => intro _; rfl
      | some o => cases o <;> intro h2 <;> first | rfl | exact absurd rfl h2
  · exact .inl (by simpa using h)

set_option maxRecDepth 100000 in
set_option maxHeartbeats 2000000 in
theorem sizes_walk (a : Option Addr) (len cap : Nat) (w : World) (hlen : len ≤ 9223372036854775807) (hcode : Code8 w.heap.size a len w) :
    Calls Try.prog 3 #[.slice a len cap] w (LawDone w) := by
  by_cases hbig : 4096 < (len : Int)
  · clear hcode hlen
    go_enter Try.func3, Try.ntmps3
    go_wp2_with (go_at_call 5; refine (big_yes _ _ _ hbig _).mono ?_; rintro e w' ⟨rfl, rfl⟩)
    go_ret
    exact ⟨rfl, Below.refl _ _⟩
  have HL := Lib.hid hlen
  have HC := Lib.hid hcode
  have hsm : (len : Int) ≤ 4096 := by omega
  clear hlen hcode hbig
  obtain ⟨B, hB⟩ : ∃ B, B = w.heap.size := ⟨_, rfl⟩
  have HB := Lib.hid hB
  unfold LawDone
  rw [← hB] at HC ⊢
  clear hB
  go_enter Try.func3, Try.ntmps3
  go_wp2_with (first | (go_at_call 5; refine (big_any _ _ _ hsm _).mono ?_; rintro e w' ⟨rfl, rfl⟩) | fail)
  have h0 := drawSize a len cap w HL.out (by rw [← HB.out]; exact HC.out)
  rw [← HB.out] at h0
  refine h0.mono ?_
  clear h0
  rintro e w1 ⟨x, y, hwf, rfl, hb1⟩
  have PB := Lib.hid hb1
  clear hb1
  obtain ⟨s, c1, hs⟩ : ∃ s c1, sizeR x y = (s, c1) := ⟨_, _, rfl⟩
  obtain ⟨p, c2, hp⟩ : ∃ s c1, largR x y = (s, c1) := ⟨_, _, rfl⟩
  have S1 := Lib.hid fun W => (show Calls Try.prog 7 #[.complex .f64 x y] W (Ret (pairF (s, c1)) W) from hs ▸ iSize x y W)
  have S2 := Lib.hid fun W => (show Calls Try.prog 8 #[.complex .f64 x y] W (Ret (pairF (s, c1)) W) from hs ▸ sSize x y hwf.1 hwf.2 W)
  have L1 := Lib.hid fun W => (show Calls Try.prog 9 #[.complex .f64 x y] W (Ret (pairF (p, c2)) W) from hp ▸ iLarg x y W)
  have L2 := Lib.hid fun W => (show Calls Try.prog 10 #[.complex .f64 x y] W (Ret (pairF (p, c2)) W) from hp ▸ sLarg x y hwf.1 hwf.2 W)
  have fs := sizeR_fin x y
  have fp := largR_fin x y
  rw [hs] at fs
  rw [hp] at fp
  have F1 := Lib.hid fun W => float5_same s fs W
  have F2 := Lib.hid fun W => float5_same p fp W
  have SC := Lib.hid (size_case hs hp)
  clear fs fp hs hp hwf
  go_upto_region 8 with (first | (go_at_call 7; (first | (with_reducible refine (S1.out _).mono ?_)); rintro e w' ⟨_, rfl, rfl⟩) | (go_at_call 8; (first | (with_reducible refine (S2.out _).mono ?_)); rintro e w' ⟨_, rfl, rfl⟩) | (go_at_call 9; (first | (with_reducible refine (L1.out _).mono ?_)); rintro e w' ⟨_, rfl, rfl⟩) | (go_at_call 10; (first | (with_reducible refine (L2.out _).mono ?_)); rintro e w' ⟨_, rfl, rfl⟩))
  go_cut [105] (fun v w' => v = .bool false ∧ ∃ n, w' = w1.drewN n)
  case first => as_aux_lemma =>
    rcases SC.out with hc | ⟨hc, hc3, hc4⟩
    · go_wp2_with (go_at_call 11; (first | (with_reducible refine (F1.out _).mono ?_) | (with_reducible refine (F2.out _).mono ?_)); rintro e w' ⟨_, rfl, rfl⟩)
      all_goals (go_meet; exact ⟨rfl, _, rfl⟩)
    · subst hc
      go_wp2_with (go_at_call 11; (first | (with_reducible refine (F1.out _).mono ?_) | (with_reducible refine (F2.out _).mono ?_)); rintro e w' ⟨_, rfl, rfl⟩)
      all_goals (go_meet; exact ⟨rfl, _, rfl⟩)
  case rest => as_aux_lemma =>
    obtain ⟨rfl, n1, rfl⟩ := hcut
    clear S1 S2 L1 L2 F1 F2 SC
    go_wp2_with fail
    refine (drawMul a len cap _ HL.out (HC.out.later (PB.out.trans (Joins.below_draws B _ _)) (by have := PB.out.size; rw [HB.out]; exact this))).mono ?_
    rintro e w2 ⟨a1, a2, b1, b2, _, _, rfl, hb2⟩
    have PB2 := Lib.hid (PB.out.trans ((Joins.below_draws B _ n1).trans (hb2.mono (by have := PB.out.size; rw [HB.out]; exact this))))
    clear hb2 PB
    obtain ⟨p1, p2, pc, hp⟩ : ∃ p1 p2 pc, mulR a1 a2 b1 b2 = (p1, p2, pc) := ⟨_, _, _, rfl⟩
    have M1 := Lib.hid fun W => (show Calls Try.prog 13 #[.complex .f64 a1 a2, .complex .f64 b1 b2] W (Ret (pairV (p1, p2, pc)) W) from hp ▸ iMul a1 a2 b1 b2 W)
    have HP := Lib.hid hp
    clear hp
    go_upto_if 118 with (go_at_call 13; (first | (with_reducible refine (M1.out _).mono ?_)); rintro e w' ⟨_, rfl, rfl⟩)
    go_cut [] (fun w' => ∃ n, w' = w2.drewN n)
    case first => as_aux_lemma =>
      by_cases hpc : pc = 0
      · subst hpc
        obtain ⟨e1, e2, e3, q1, q2, e4, e5, e6⟩ := conj_fact HP.out
        rw [← kf] at e5 e6
        have C1 := Lib.hid fun W => (show Calls Try.prog 14 #[.complex .f64 a1 a2] W (Ret (pairV (a1, Op.negFloat .f64 a2, 0)) W) from e1 ▸ iConj a1 a2 W)
        have C2 := Lib.hid fun W => (show Calls Try.prog 14 #[.complex .f64 b1 b2] W (Ret (pairV (b1, Op.negFloat .f64 b2, 0)) W) from e2 ▸ iConj b1 b2 W)
        have C3 := Lib.hid fun W => (show Calls Try.prog 14 #[.complex .f64 p1 p2] W (Ret (pairV (p1, Op.negFloat .f64 p2, 0)) W) from e3 ▸ iConj p1 p2 W)
        have M2 := Lib.hid fun W => (show Calls Try.prog 13 #[.complex .f64 a1 (Op.negFloat .f64 a2), .complex .f64 b1 (Op.negFloat .f64 b2)] W (Ret (pairV (q1, q2, 0)) W) from e4 ▸ iMul a1 _ b1 _ W)
        clear e1 e2 e3 e4
        go_wp2_with (first | (go_at_call 13; (first | (with_reducible refine (M1.out _).mono ?_) | (with_reducible refine (M2.out _).mono ?_)); rintro e w' ⟨_, rfl, rfl⟩) | (go_at_call 14; (first | (with_reducible refine (C1.out _).mono ?_) | (with_reducible refine (C2.out _).mono ?_) | (with_reducible refine (C3.out _).mono ?_)); rintro e w' ⟨_, rfl, rfl⟩))
        all_goals (go_meet; exact ⟨_, rfl⟩)
      · have h0 : (pc == 0) = false := by simpa using hpc
        clear hpc
        go_wp2_with (go_at_call 13; (first | (with_reducible refine (M1.out _).mono ?_)); rintro e w' ⟨_, rfl, rfl⟩)
        all_goals (go_meet; exact ⟨_, rfl⟩)
    case rest => as_aux_lemma =>
      obtain ⟨n2, rfl⟩ := hcut
      clear M1 HP
      go_wp2_with fail
      refine (drawPow a len cap _ HL.out (HC.out.later (PB2.out.trans (Joins.below_draws B _ _)) (by have := PB2.out.size; rw [HB.out]; exact this))).mono ?_
      rintro e w3 ⟨x, y, k, hwf, hk, rfl, hb2⟩
      have PB3 := Lib.hid (PB2.out.trans ((Joins.below_draws B _ n2).trans (hb2.mono (by have := PB2.out.size; rw [HB.out]; exact this))))
      clear hb2 PB2 hwf hk
      obtain ⟨s1, s2, sc, hs⟩ : ∃ p1 p2 pc, powR x y k = (p1, p2, pc) := ⟨_, _, _, rfl⟩
      have P1 := Lib.hid fun W => (show Calls Try.prog 16 #[.complex .f64 x y, .int .i64 k] W (Ret (pairV (s1, s2, sc)) W) from hs ▸ iPow x y k W)
      have P2 := Lib.hid fun W => (show Calls Try.prog 17 #[.complex .f64 x y, .int .i64 k] W (Ret (pairV (s1, s2, sc)) W) from hs ▸ sPow x y k W)
      have fs := powR_fin x y k
      rw [hs] at fs
      have F1 := Lib.hid fun W => same5_same s1 s2 fs W
      have HS := Lib.hid hs
      clear fs hs
      go_upto_if 186 with (first | (go_at_call 16; (first | (with_reducible refine (P1.out _).mono ?_)); rintro e w' ⟨_, rfl, rfl⟩) | (go_at_call 17; (first | (with_reducible refine (P2.out _).mono ?_)); rintro e w' ⟨_, rfl, rfl⟩) | (go_at_call 18; (first | (with_reducible refine (F1.out _).mono ?_)); rintro e w' ⟨_, rfl, rfl⟩))
      go_cut [] (fun w' => Below B w w')
      case first => as_aux_lemma =>
        by_cases hsc : sc = 0
        · subst hsc
          obtain ⟨k1, k2, hl⟩ := pow_list HS.out
          obtain ⟨K, rfl⟩ := Int.eq_ofNat_of_zero_le k1
          rw [Int.toNat_natCast] at hl
          have HPL := Lib.hid hl
          have hK : K ≤ 64 := by omega
          clear k1 k2 hl P1 P2
          have hB3 : B ≤ w3.heap.size := by have := PB3.out.size; rw [HB.out]; exact this
          go_wp2_with fail
          go_loopw [30, 31] (fun v i wr => ∃ (j : Nat), j ≤ K ∧ i = .int .i64 j ∧ OwnC w3.heap.size wr v (List.replicate j (x, y)) ∧ Below B w wr ∧ w3.heap.size ≤ wr.heap.size) (fun _ i _ => K - (intOf i).toNat)
          case atStart =>
            exact ⟨0, Nat.zero_le _, rfl, ⟨rfl, .inr ⟨w3.heap.size, 0, #[], rfl, Nat.le_refl _, (by show (w3.heap.push _)[w3.heap.size]? = _; exact Array.getElem?_push_size), Nat.le_refl _, Nat.zero_le _, rfl, rfl⟩⟩, (PB3.out.trans (Joins.below_draws B _ _)).alloc hB3 _, by simp⟩
          case round =>
            obtain ⟨j, hj, rfl, hown, hbel, hsz⟩ := hrel
            have OW := Lib.hid hown
            have BW := Lib.hid hbel
            clear hown hbel
            by_cases hjk : j < K
            · have hown0 := fun g hg => (OW.out.lt g hg).1
              have HO := Lib.hid hown0
              clear hown0
              go_wp2_with (at_builtin; refine wp_app rfl _ _ rfl _ _ _ rfl w3.heap.size _ (List.replicate j (x, y)) OW.out rfl rfl (by rw [List.length_replicate]; omega) hsz ?_; intro v' w4 hown hgrow)
              have O4 := Lib.hid hown
              have B4 := Lib.hid (((BW.out.alloc (by omega) _).grown hgrow (by simp; omega) (fun g hg => Nat.le_trans hB3 (HO.out g hg))))
              have Z4 : w3.heap.size ≤ w4.heap.size := by have := hgrow.size; simp at this; omega
              clear hgrow hown
              go_wp2_with fail
              go_roundw
              case rel =>
                (repeat apply Exists.intro)
                refine ⟨⟨j + 1, by omega, ?_, ?_, B4.out, Z4⟩, rfl⟩
                · go_num
                · rw [List.replicate_succ']; exact O4.out
              case measure => simp [intOf]; omega
            · obtain rfl : j = K := by omega
              obtain ⟨q, c, hv, hcells⟩ := OW.out.cells
              rw [List.length_replicate] at hv
              subst hv
              have PR := Lib.hid fun n => (show Calls Try.prog 19 #[.slice q j c] (World.drewN _ n) (Ret (pairV (s1, s2, 0)) (World.drewN _ n)) from by have := iProd q _ c _ (hcells.drewN n); rwa [List.length_replicate, HPL.out] at this)
              have PR0 := Lib.hid (show Calls Try.prog 19 #[.slice q j c] _ (Ret (pairV (s1, s2, 0)) _) from by have := iProd q _ c _ hcells; rwa [List.length_replicate, HPL.out] at this)
              clear hcells
              go_wp2_with (first | (go_at_call 19; (first | (with_reducible refine (PR0.out).mono ?_) | (with_reducible refine (PR.out _).mono ?_)); rintro e w' ⟨_, rfl, rfl⟩) | (go_at_call 18; (first | (with_reducible refine (F1.out _).mono ?_)); rintro e w' ⟨_, rfl, rfl⟩))
              all_goals (go_meet; exact BW.out.trans (Joins.below_draws B _ _))
        · have h0 : (sc == 0) = false := by simpa using hsc
          clear hsc
          go_wp2_with fail
          go_meet
          exact PB3.out.trans (Joins.below_draws B _ _)
      case rest => as_aux_lemma =>
        have PB4 := Lib.hid hcut
        clear hcut P1 P2 F1 HS PB3
        go_wp2_with fail
        refine (drawScale a len cap _ HL.out (HC.out.later PB4.out (by have := PB4.out.size; rw [HB.out]; exact this))).mono ?_
        rintro e w5 ⟨x, y, k, hwf, hk, rfl, hb2⟩
        have PB5 := Lib.hid (PB4.out.trans (hb2.mono (by have := PB4.out.size; rw [HB.out]; exact this)))
        clear hb2 PB4
        obtain ⟨s1, s2, sc, hs⟩ : ∃ p1 p2 pc, scaleR x y k = (p1, p2, pc) := ⟨_, _, _, rfl⟩
        have P1 := Lib.hid fun W => (show Calls Try.prog 21 #[.complex .f64 x y, .int .i64 k] W (Ret (pairV (s1, s2, sc)) W) from hs ▸ iScaleW x y k W)
        have P2 := Lib.hid fun W => (show Calls Try.prog 22 #[.complex .f64 x y, .int .i64 k] W (Ret (pairV (s1, s2, sc)) W) from hs ▸ sScaleW x y k W)
        have fs := scaleR_fin x y k
        rw [hs] at fs
        have F1 := Lib.hid fun W => same5_same s1 s2 fs W
        have HS := Lib.hid hs
        have HW := Lib.hid hwf
        have HK := Lib.hid hk
        clear fs hs hwf hk
        go_upto_region 38 with (first | (go_at_call 21; (first | (with_reducible refine (P1.out _).mono ?_)); rintro e w' ⟨_, rfl, rfl⟩) | (go_at_call 22; (first | (with_reducible refine (P2.out _).mono ?_)); rintro e w' ⟨_, rfl, rfl⟩) | (go_at_call 18; (first | (with_reducible refine (F1.out _).mono ?_)); rintro e w' ⟨_, rfl, rfl⟩))
        go_cut [241] (fun v w' => v = .bool (decide (sc = 0 ∧ 0 ≤ k)) ∧ ∃ n, w' = w5.drewN n)
        case first => as_aux_lemma =>
          by_cases hsc : sc = 0
          · subst hsc
            by_cases hk0 : 0 ≤ k
            · have hd : decide ((0 : Int) = 0 ∧ 0 ≤ k) = true := decide_eq_true ⟨rfl, hk0⟩
              have HD := Lib.hid hd
              clear hd
              go_wp2_with fail
              all_goals (go_meet; exact ⟨by rw [HD.out], _, rfl⟩)
            · have hd : decide ((0 : Int) = 0 ∧ 0 ≤ k) = false := decide_eq_false (fun h => hk0 h.2)
              have hd2 : decide (0 ≤ k) = false := decide_eq_false hk0
              have HD := Lib.hid hd
              clear hd hk0
              go_wp2_with fail
              all_goals (go_meet; exact ⟨by rw [HD.out], _, rfl⟩)
          · have h0 : (sc == 0) = false := by simpa using hsc
            have hd : decide (sc = 0 ∧ 0 ≤ k) = false := decide_eq_false (fun h => hsc h.1)
            have HD := Lib.hid hd
            clear hd hsc
            go_wp2_with fail
            all_goals (go_meet; exact ⟨by rw [HD.out], _, rfl⟩)
        case rest => as_aux_lemma =>
          obtain ⟨rfl, n5, rfl⟩ := hcut
          clear P2 F1
          go_upto_if 241 with fail
          go_cut [] (fun w' => ∃ n, w' = w5.drewN n)
          case first => as_aux_lemma =>
            by_cases hc : sc = 0 ∧ 0 ≤ k
            · rw [decide_eq_true hc]
              obtain ⟨hsc, hk0⟩ := hc
              subst hsc
              have hb := scale_back HW.out.1 HW.out.2 hk0 HS.out
              have PB6 := Lib.hid fun W => (show Calls Try.prog 21 #[.complex .f64 s1 s2, .int .i64 (-k)] W (Ret (pairV (x, y, 0)) W) from hb ▸ iScaleW s1 s2 (-k) W)
              have fb := scaleR_fin s1 s2 (-k)
              rw [hb] at fb
              have F2 := Lib.hid fun W => same5_same x y fb W
              have hkb : k ≤ 9223372036854775807 := by have := HK.out; unfold InI64 at this; omega
              clear hb fb P1
              go_wp2_with (first | (go_at_call 21; (first | (with_reducible refine (PB6.out _).mono ?_)); rintro e w' ⟨_, rfl, rfl⟩) | (go_at_call 18; (first | (with_reducible refine (F2.out _).mono ?_)); rintro e w' ⟨_, rfl, rfl⟩))
              all_goals (go_meet; exact ⟨_, rfl⟩)
            · rw [decide_eq_false hc]
              clear hc
              go_wp2_with fail
              all_goals (go_meet; exact ⟨_, rfl⟩)
          case rest => as_aux_lemma =>
            obtain ⟨n6, rfl⟩ := hcut
            clear P1 HS HW HK
            go_wp2_with fail
            refine (drawSum a len cap _ HL.out (HC.out.later (PB5.out.trans (Joins.below_draws B _ _)) (by have := PB5.out.size; rw [HB.out]; exact this))).mono ?_
            rintro e w7 ⟨q, zs, c, rfl, hcells, hb2⟩
            have PB7 := Lib.hid (PB5.out.trans ((Joins.below_draws B _ n6).trans (hb2.mono (by have := PB5.out.size; rw [HB.out]; exact this))))
            clear hb2 PB5
            obtain ⟨K, hK⟩ : ∃ K, K = zs.length := ⟨_, rfl⟩
            obtain ⟨t1, t2, tc, ht⟩ : ∃ p1 p2 pc, sumL zs = (p1, p2, pc) := ⟨_, _, _, rfl⟩
            have U1 := Lib.hid (show Calls Try.prog 24 #[.slice q K c] w7 (Ret (pairV (t1, t2, tc)) w7) from hK ▸ ht ▸ iSum q zs c w7 hcells)
            have U2 := Lib.hid fun n => (show Calls Try.prog 25 #[.slice q K c] (w7.drewN n) (Ret (pairV (t1, t2, tc)) (w7.drewN n)) from hK ▸ ht ▸ sSum q zs c (w7.drewN n) (hcells.drewN n))
            have ft := sumL_fin zs
            rw [ht] at ft
            have F3 := Lib.hid fun W => same5_same t1 t2 ft W
            rw [← hK]
            clear ft ht hcells hK
            go_wp2_with (first | (go_at_call 24; (with_reducible refine (U1.out).mono ?_); rintro e w' ⟨_, rfl, rfl⟩) | (go_at_call 25; (first | (with_reducible refine (U2.out _).mono ?_)); rintro e w' ⟨_, rfl, rfl⟩) | (go_at_call 18; (first | (with_reducible refine (F3.out _).mono ?_)); rintro e w' ⟨_, rfl, rfl⟩))
            all_goals
              go_ret
              exact ⟨rfl, PB7.out.trans (Joins.below_draws B _ _)⟩
end Go.Proofs.Ytpchcigpppdfiaa
