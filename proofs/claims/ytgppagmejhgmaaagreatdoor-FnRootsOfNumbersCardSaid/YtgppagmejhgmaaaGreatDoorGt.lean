/-
  Facts and contracts of the law FnExactParts. Conditions: the limbs can be read; the listed table is as its initialiser lays it.
-/
import Derived.Test.YtgppagmejhgmaaaGreatDoorGv
import Derived.Test.YtgppagmejhgmaaaGreatDoorEk
import Derived.Test.YtgppagmejhgmaaaGreatDoorLNumberOf
import Derived.Test.YtgppagmejhgmaaaGreatDoorGn
import Derived.Test.YtgppagmejhgmaaaGreatDoorWb
namespace Go.Proofs.YtgppagmejhgmaaaGreatDoor
set_option linter.unusedVariables false
open Go Go.RowKit

theorem fitY_zero {R : Int × List Int × Int} {s e : Int} {l : List Int} (h : fitY R = (s, l, e, 0)) : dyB s l e = true ∧ R = (s, l, e) := by
  unfold fitY at h
  split at h
  · rename_i hd
    simp only [Prod.mk.injEq] at h
    obtain ⟨rfl, rfl, rfl, _⟩ := h
    exact ⟨hd, rfl⟩
  · simp at h
theorem addW_swap (z1 x z2 y : Int) : addW z1 x z2 y = addW z2 y z1 x := by unfold addW; rw [Int.min_comm x y, Int.add_comm]
theorem mulW_swap (z1 x z2 y : Int) : mulW z1 x z2 y = mulW z2 y z1 x := by unfold mulW; rw [Int.mul_comm, Int.add_comm]
theorem muG_swap (P Q U V : Int × List Int × Int) : muG P Q U V = muG P Q V U := by
  unfold muG
  rw [Bool.and_comm (dyB U.1 U.2.1 U.2.2) (dyB V.1 V.2.1 V.2.2), addW_swap (zv U) U.2.2 (zv V) V.2.2]
theorem muF_swap (z x z' x' u y u' y' : Int) : muF z x z' x' u y u' y' = muF u y u' y' z x z' x' := by
  unfold muF
  rw [muG_swap, mulW_swap z x u y, mulW_swap z' x' u' y', mulW_swap z' x' u y, mulW_swap z x u' y']
theorem exY_swap (s : Int) (xs : List Int) (x : Int) (s' : Int) (xs' : List Int) (x' : Int) (t : Int) (ys : List Int) (y : Int) (t' : Int) (ys' : List Int) (y' : Int) : exY muF s xs x s' xs' x' t ys y t' ys' y' = exY muF t ys y t' ys' y' s xs x s' xs' x' := by
  by_cases h : (dyB s xs x && dyB s' xs' x') = true ∧ (dyB t ys y && dyB t' ys' y') = true
  · rw [exY_yes h.1 h.2, exY_yes h.2 h.1, muF_swap]
  · rw [exY_no h, exY_no (fun g => h ⟨g.2, g.1⟩)]
theorem dy_ok {x : Nat} (hx : x < 2 ^ 64) (fx : isF .f64 x = true) {s e : Int} {l : List Int} (h : dyF x = (s, l, e, 0)) : ∃ u, l = lim u ∧ IsDy s (lim u) e := by
  obtain ⟨b, m, i, rfl, fm, _⟩ := fin_fw hx fx
  obtain ⟨a1, u1, e1, d1, y1, _⟩ := dy_val b fm
  rw [d1] at h
  simp only [Prod.mk.injEq] at h
  obtain ⟨rfl, rfl, rfl, _⟩ := h
  exact ⟨u1, rfl, y1⟩
theorem flR_code {s x : Int} {xs : List Int} {z : Nat} {d : Int} (hd : dyB s xs x = true) (h : flR s xs x = (z, d)) : d = 0 ∨ d = 3 := by
  unfold flR at h
  rw [if_pos hd] at h
  unfold flt at h
  split at h
  · simp only [Prod.mk.injEq] at h; exact .inl h.2.symm
  · simp only [Prod.mk.injEq] at h; exact .inr h.2.symm
theorem cf_some {op : BinOp} {x y v : Nat} (h : floatBits op .f64 x y = some v) : cf op .f64 x y = v := by unfold cf; rw [h]; rfl
/-- The sum of the values of two wide numbers, rounded, is the machine's sum. -/
theorem add_parts {x3 y3 x4 y4 : Nat} (b3 : x3 < 2 ^ 64) (b5 : y3 < 2 ^ 64) (b4 : x4 < 2 ^ 64) (b6 : y4 < 2 ^ 64) (f3 : isF .f64 x3 = true) (f5 : isF .f64 y3 = true) (f4 : isF .f64 x4 = true) (f6 : isF .f64 y4 = true)
    {s3 e3 s5 e5 s4 e4 s6 e6 : Int} {l3 l5 l4 l6 : List Int} (h3 : dyF x3 = (s3, l3, e3, 0)) (h5 : dyF y3 = (s5, l5, e5, 0)) (h4 : dyF x4 = (s4, l4, e4, 0)) (h6 : dyF y4 = (s6, l6, e6, 0)) :
    ∃ p1 p2 p3 q1 q2 q3, exY adF s3 l3 e3 s5 l5 e5 s4 l4 e4 s6 l6 e6 = ⟨p1, p2, p3, q1, q2, q3, 0⟩ ∧ p2.length ≤ 9223372036854775807 ∧ q2.length ≤ 9223372036854775807 ∧ ∃ z1 z2 v1 v2 code, nbR p1 p2 p3 q1 q2 q3 = (z1, z2, code) ∧ addR x3 y3 x4 y4 = (v1, v2, code) ∧
      (code = 0 ∧ (FloatKind.f64.format.order z1 v1 == some .eq) = true ∧ (FloatKind.f64.format.order z2 v2 == some .eq) = true ∨ code = 3) := by
  obtain ⟨v1, hv1, p1, p2, p3, hp, z1, d1, hz1, ho1, ho1'⟩ := sum_facts b3 b4 f3 f4 h3 h4
  obtain ⟨v2, hv2, q1, q2, q3, hq, z2, d2, hz2, ho2, ho2'⟩ := sum_facts b5 b6 f5 f6 h5 h6
  obtain ⟨u3, rfl, i3⟩ := dy_ok b3 f3 h3
  obtain ⟨u4, rfl, i4⟩ := dy_ok b4 f4 h4
  obtain ⟨u5, rfl, i5⟩ := dy_ok b5 f5 h5
  obtain ⟨u6, rfl, i6⟩ := dy_ok b6 f6 h6
  have hlp := binY_len' hp
  have hlq := binY_len' hq
  rw [binY_yes i3 i4] at hp
  rw [binY_yes i5 i6] at hq
  obtain ⟨dp, ep⟩ := fitY_zero hp
  obtain ⟨dq, eq⟩ := fitY_zero hq
  have hex : exY adF s3 (lim u3) e3 s5 (lim u5) e5 s4 (lim u4) e4 s6 (lim u6) e6 = ⟨p1, p2, p3, q1, q2, q3, 0⟩ := by
    rw [exY_yes (by rw [dyB_yes i3, dyB_yes i5]; rfl) (by rw [dyB_yes i4, dyB_yes i6]; rfl)]
    unfold adF
    rw [zv_lim, zv_lim, zv_lim, zv_lim, ep, eq]
    exact fitE_yes dp dq
  have hnb : nbR p1 p2 p3 q1 q2 q3 = nbP (z1, d1) (z2, d2) := by
    unfold nbR
    rw [if_pos (by rw [dp, dq]; rfl), hz1, hz2]
  have hadd : addR x3 y3 x4 y4 = limC v1 v2 := by
    unfold addR
    rw [bothC_yes (by unfold finC; rw [f3, f5]; rfl) (by unfold finC; rw [f4, f6]; rfl), cf_some hv1, cf_some hv2]
  refine ⟨p1, p2, p3, q1, q2, q3, hex, hlp, hlq, ?_⟩
  rw [hnb, hadd]
  rcases flR_code dp hz1 with rfl | rfl
  · rcases flR_code dq hz2 with rfl | rfl
    · have e1 : isF .f64 v1 = true := ho1.symm
      have e2 : isF .f64 v2 = true := ho2.symm
      exact ⟨z1, z2, v1, v2, 0, rfl, limC_yes (by unfold finC; rw [e1, e2]; rfl), .inl ⟨rfl, ho1' rfl, ho2' rfl⟩⟩
    · have e2 : isF .f64 v2 = false := ho2.symm
      exact ⟨0, 0, 0, 0, 3, rfl, limC_no (by unfold finC; rw [e2, Bool.and_false]), .inr rfl⟩
  · have e1 : isF .f64 v1 = false := ho1.symm
    exact ⟨0, 0, 0, 0, 3, rfl, limC_no (by unfold finC; rw [e1]; rfl), .inr rfl⟩
theorem mulW_neg (z1 x z2 y : Int) : mulW z1 x (-z2) y = (-(mulW z1 x z2 y).1, (mulW z1 x z2 y).2.1, (mulW z1 x z2 y).2.2) := by
  unfold mulW
  rw [Int.mul_neg, redZ_neg]
theorem zv_neg (r : Int × List Int × Int) : zv (-r.1, r.2.1, r.2.2) = -(zv r) := by unfold zv; simp only [Int.neg_mul]
/-- A number times its mirror image has the square as its real part, and no imaginary one. -/
theorem mirror_facts {s x s' x' q e : Int} {xs xs' l : List Int} (h : sqY s xs x s' xs' x' = (q, l, e, 0)) :
    (s' = 0 ∨ s' = 1 ∨ s' = -1) ∧ ((exY muF s xs x s' xs' x' s xs x (-s') xs' x').code = 0 → (exY muF s xs x s' xs' x' s xs x (-s') xs' x').s1 = q ∧ (exY muF s xs x s' xs' x' s xs x (-s') xs' x').l1 = l ∧ (exY muF s xs x s' xs' x' s xs x (-s') xs' x').x1 = e ∧ (exY muF s xs x s' xs' x' s xs x (-s') xs' x').s2 = 0) := by
  have hd : dyB s xs x = true ∧ dyB s' xs' x' = true := by
    by_cases g : dyB s xs x = true ∧ dyB s' xs' x' = true
    · exact g
    · rw [sqY_no g] at h; simp at h
  rw [sqY_yes hd.1 hd.2] at h
  obtain ⟨P, hP⟩ : ∃ P, mulW (zv (s, xs, x)) x (zv (s, xs, x)) x = P := ⟨_, rfl⟩
  obtain ⟨Q, hQ⟩ : ∃ Q, mulW (zv (s', xs', x')) x' (zv (s', xs', x')) x' = Q := ⟨_, rfl⟩
  rw [hP, hQ] at h
  have hpq : dyB P.1 P.2.1 P.2.2 = true ∧ dyB Q.1 Q.2.1 Q.2.2 = true := by
    by_cases g : dyB P.1 P.2.1 P.2.2 = true ∧ dyB Q.1 Q.2.1 Q.2.2 = true
    · exact g
    · rw [sqF_no g] at h; simp at h
  rw [sqF_yes hpq.1 hpq.2] at h
  obtain ⟨hdf, hsum⟩ := fitY_zero h
  refine ⟨?_, ?_⟩
  · obtain ⟨m, _, _, hsg, _⟩ := isDy_of (dyB_iff.1 hd.2)
    exact hsg.three
  · by_cases g : (dyB s xs x && dyB s' xs' x') = true ∧ (dyB s xs x && dyB (-s') xs' x') = true
    · rw [exY_yes g.1 g.2]
      unfold muF
      have ez : zv (-s', xs', x') = -(zv (s', xs', x')) := zv_neg (s', xs', x')
      rw [ez, hP, mulW_neg, hQ, mulW_neg, mulW_swap (zv (s', xs', x')) x' (zv (s, xs, x)) x]
      obtain ⟨V, hV⟩ : ∃ V, mulW (zv (s, xs, x)) x (zv (s', xs', x')) x' = V := ⟨_, rfl⟩
      rw [hV]
      by_cases k : (dyB P.1 P.2.1 P.2.2 && dyB (-Q.1) Q.2.1 Q.2.2) = true ∧ (dyB (-V.1) V.2.1 V.2.2 && dyB V.1 V.2.1 V.2.2) = true
      · rw [muG_yes k.1 k.2]
        simp only
        rw [zv_neg Q, zv_neg V, Int.neg_neg, hsum]
        have h0 : addW (-(zv V)) V.2.2 (zv V) V.2.2 = (0, [], 0) := by
          unfold addW
          rw [Int.min_self, Int.sub_self, shZ_nn (Int.le_refl 0), shZ_nn (Int.le_refl 0)]
          have e0 : -(zv V) * 2 ^ (0 : Int).toNat + zv V * 2 ^ (0 : Int).toNat = 0 := by
            rw [show (0 : Int).toNat = 0 from rfl, Int.pow_zero, Int.mul_one, Int.mul_one]
            omega
          rw [e0]
          unfold redZ
          exact redS_zero _ _
        rw [h0]
        by_cases k2 : dyB q l e = true ∧ dyB (0 : Int) [] 0 = true
        · rw [fitE_yes k2.1 k2.2]
          intro _
          exact ⟨rfl, rfl, rfl, rfl⟩
        · rw [fitE_no k2]
          intro hc
          exact absurd hc (by decide)
      · rw [muG_no k]
        intro hc
        exact absurd hc (by decide)
    · rw [exY_no g]
      intro hc
      exact absurd hc (by decide)

/-- The values of both parts. -/
noncomputable def exOf (x y : Nat) : ExR := if (isF .f64 x && isF .f64 y) = true then ⟨(dyF x).1, (dyF x).2.1, (dyF x).2.2.1, (dyF y).1, (dyF y).2.1, (dyF y).2.2.1, 0⟩ else exZ 1
def RetE6C (r : ExR) (w : World) (e : Ending) (w' : World) : Prop := ∃ a c b d, e = .returned (.tuple #[.agg #[.int .i64 r.s1, .slice a r.l1.length c, .int .i64 r.x1, .int .i64 r.s2, .slice b r.l2.length d, .int .i64 r.x2], .int .i64 r.code]) ∧ Own w' w.heap.size a r.l1 ∧ Own w' w.heap.size b r.l2 ∧ Below w.heap.size w w'
set_option maxRecDepth 100000 in
set_option maxHeartbeats 4000000 in
theorem iExactOf (x y : Nat) (hx : x < 2 ^ 64) (hy : y < 2 ^ 64) (w : World) (hTab : Tab w) : Calls Tryz.prog 37 #[.complex .f64 x y] w (RetE6C (exOf x y) w) := by
  obtain ⟨W0, hW0⟩ : ∃ W0 : World, w.alloc (.cells #[.int .i64 0, .slice none 0 0, .int .i64 0, .int .i64 0, .slice none 0 0, .int .i64 0] 64) = W0 := ⟨_, rfl⟩
  obtain ⟨p1, p3, p4⟩ := one_box w 64 #[.int .i64 0, .slice none 0 0, .int .i64 0, .int .i64 0, .slice none 0 0, .int .i64 0]
  rw [hW0] at p1 p3 p4
  have SR := Lib.hid (show ∀ W, Below W0.heap.size W0 W → _ from fun W hW => (p1.below hW).six12)
  have P3 := Lib.hid p3
  have P4 := Lib.hid p4
  have hT : Below W0.heap.size W0 W0 := Below.refl _ _
  have HFI := Lib.hid (iFin x y W0)
  cases hf : (isF .f64 x && isF .f64 y)
  · have he : exOf x y = exZ 1 := by unfold exOf; rw [if_neg (by rw [hf]; decide)]
    rw [he]
    have hfc : finC x y = false := hf
    rw [hfc] at HFI
    obtain ⟨q1, q2, q3, q4, q5, q6, q7, q8, q9, q10, q11, q12⟩ := SR.out _ hT
    clear p1 p3 p4 hx hy hf he hfc hTab
    go_enter Tryz.func37, Tryz.ntmps37
    go_wp2_with fail
    clear hW0
    refine HFI.out.mono ?_
    rintro e w1 ⟨rfl, rfl⟩
    go_wp2_with fail
    refine bodyPost_ret (v := .tuple #[.agg #[.int .i64 0, .slice none 0 0, .int .i64 0, .int .i64 0, .slice none 0 0, .int .i64 0], .int .i64 1]) (by simp [results, Tryz.results37, go_sem, *]) rfl ?_
    exact ⟨none, 0, none, 0, rfl, Own.nil, Own.nil, Below.set6 P3.out (Nat.le_refl _) _ _ _ _ _ _⟩
  · have he : exOf x y = ⟨(dyF x).1, (dyF x).2.1, (dyF x).2.2.1, (dyF y).1, (dyF y).2.1, (dyF y).2.2.1, 0⟩ := by unfold exOf; rw [if_pos hf]
    rw [he]
    have hfc : finC x y = true := hf
    rw [hfc] at HFI
    have HTB := Lib.hid (show ∀ W, Below W0.heap.size W0 W → Tab W from fun W hW => (hTab.below p3).below hW)
    obtain ⟨⟨r1, r2, r3, r4⟩, hr⟩ : ∃ r, dyF x = r := ⟨_, rfl⟩
    obtain ⟨⟨t1, t2, t3, t4⟩, ht⟩ : ∃ r, dyF y = r := ⟨_, rfl⟩
    have H1 := Lib.hid (show ∀ W, Below W0.heap.size W0 W → Calls Tryz.prog 59 #[.float .f64 x] W (RetYC (r1, r2, r3, r4) W.heap.size W) from fun W hW => by have := iDyadicOf x hx W (HTB.out W hW); rwa [hr] at this)
    have H2 := Lib.hid (show ∀ W, Below W0.heap.size W0 W → Calls Tryz.prog 59 #[.float .f64 y] W (RetYC (t1, t2, t3, t4) W.heap.size W) from fun W hW => by have := iDyadicOf y hy W (HTB.out W hW); rwa [ht] at this)
    rw [hr, ht]
    clear p1 p3 p4 hx hy hf he hfc hTab hr ht
    go_enter Tryz.func37, Tryz.ntmps37
    go_wp2_with fail
    clear hW0
    refine HFI.out.mono ?_
    rintro e w1 ⟨rfl, rfl⟩
    go_wp2_with fail
    refine (H1.out _ hT).mono ?_
    rintro e w2 ⟨a2, c2, rfl, hc2, ho2, hb2⟩
    obtain ⟨V1, hV1⟩ : ∃ V : World, w2.alloc (.cells #[.int .i64 r1, .slice a2 r2.length c2, .int .i64 r3] 62) = V := ⟨_, rfl⟩
    obtain ⟨x1, x3, x4⟩ := one_box w2 62 #[.int .i64 r1, .slice a2 r2.length c2, .int .i64 r3]
    rw [hV1] at x1 x3 x4
    have hbV : Below W0.heap.size W0 V1 := hb2.trans (x3.mono hb2.size)
    have O1 := Lib.hid (show Own V1 W0.heap.size a2 r2 from ho2.below x3)
    have X1 := Lib.hid x1
    have BV := Lib.hid hbV
    clear hc2 ho2 hb2 x1 x3 x4 hbV
    go_wp2_with fail
    clear hV1
    refine (H2.out _ BV.out).mono ?_
    rintro e w3 ⟨a3, c3, rfl, hc3, ho3, hb3⟩
    obtain ⟨V2, hV2⟩ : ∃ V : World, w3.alloc (.cells #[.int .i64 t1, .slice a3 t2.length c3, .int .i64 t3] 62) = V := ⟨_, rfl⟩
    obtain ⟨y1, y3, y4⟩ := one_box w3 62 #[.int .i64 t1, .slice a3 t2.length c3, .int .i64 t3]
    rw [hV2] at y1 y3 y4
    have hb4 : Below V1.heap.size V1 V2 := hb3.trans (y3.mono hb3.size)
    have O2 := Lib.hid (show Own V2 W0.heap.size a2 r2 from O1.out.below hb4)
    have O3 := Lib.hid (show Own V2 W0.heap.size a3 t2 from (ho3.below y3).mono BV.out.size)
    have BB := Lib.hid (BV.out.trans (hb4.mono BV.out.size))
    obtain ⟨k1, k2, k3, _, _, _⟩ := (X1.out.below hb4).tri6
    obtain ⟨m1, m2, m3, _, _, _⟩ := y1.tri6
    obtain ⟨q1, q2, q3, q4, q5, q6, q7, q8, q9, q10, q11, q12⟩ := SR.out _ BB.out
    clear hc3 ho3 hb3 y1 y3 y4 hb4
    go_wp2_with fail
    clear hV2
    refine bodyPost_ret (v := .tuple #[.agg #[.int .i64 r1, .slice a2 r2.length c2, .int .i64 r3, .int .i64 t1, .slice a3 t2.length c3, .int .i64 t3], .int .i64 0]) (by simp [results, Tryz.results37, go_sem, *]) rfl ?_
    have h4 := P4.out
    exact ⟨a2, c2, a3, c3, rfl, (Own.set6 O2.out (by omega) _ _ _ _ _ _).mono (by omega), (Own.set6 O3.out (by omega) _ _ _ _ _ _).mono (by omega), Below.set6 (P3.out.trans (BB.out.mono (by omega))) (Nat.le_refl _) _ _ _ _ _ _⟩
end Go.Proofs.YtgppagmejhgmaaaGreatDoor
