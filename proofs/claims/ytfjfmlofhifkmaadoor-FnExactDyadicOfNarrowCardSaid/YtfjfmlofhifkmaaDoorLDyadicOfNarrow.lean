/-
  The walk of laws.FnExactDyadicOfNarrow. Conditions: the library's table is as its initialiser lays it.
-/
import Derived.Test.YtfjfmlofhifkmaaDoorFw
import Derived.Test.YtfjfmlofhifkmaaDoorQa
import Derived.Test.YtfjfmlofhifkmaaDoorLx
namespace Go.Proofs.YtfjfmlofhifkmaaDoor
set_option linter.unusedVariables false
open Go Go.RowKit

set_option maxRecDepth 100000 in
set_option maxHeartbeats 8000000 in
theorem DyadicOfNarrow_walk (x : Nat) (w : World) (hx : x < 2 ^ 32) (hTab : Tab w) :
    Calls Tryd.prog 5 #[.float .f32 x] w (LawDone w) := by
  obtain ⟨⟨r1, r2, r4, r3⟩, hr⟩ : ∃ r : Int × List Int × Int × Int, r = dyN x := ⟨_, rfl⟩
  have HSP := Lib.hid (show ∀ W, Calls Tryd.prog 33 #[.float .f32 x] W (RetYC (r1, r2, r4, r3) W.heap.size W) from fun W => by rw [hr]; exact sDyadicOfNarrow x hx W)
  have HIM := Lib.hid (show ∀ W, Below w.heap.size w W → Calls Tryd.prog 34 #[.float .f32 x] W (RetYC (r1, r2, r4, r3) W.heap.size W) from fun W hW => by rw [hr]; exact iDyadicOfNarrow x hx W (hTab.below hW))
  have HR2 := Lib.hid (show r2.length ≤ 3 from by
    have h1 : r2 = (dyN x).2.1 := congrArg (fun r => r.2.1) hr
    rw [h1]
    exact dyN_len x)
  have hr4 : (r4 != r4) = false := by simp
  have hr3 : (r3 != r3) = false := by simp
  have hm0 : (r2.length : Int) ≤ 3 := by have := HR2.out; omega
  clear hr hx hTab
  go_enter Tryd.func5, Tryd.ntmps5
  go_wp2_with fail
  refine (HSP.out _).mono ?_
  rintro e v1 ⟨a6, c6, rfl, hc6, ho6, hb6⟩
  have U1 := Lib.hid hb6
  have O6 := Lib.hid ((Own2.of ho6).alloc (.cells #[.int .i64 r1, .slice a6 r2.length c6, .int .i64 r4] 43))
  have B6 := Lib.hid (BoxAt.new v1 43 #[.int .i64 r1, .slice a6 r2.length c6, .int .i64 r4])
  have HC6 := Lib.hid hc6
  have hz1 := hb6.size
  clear ho6 hb6 hc6
  go_wp2_with fail
  refine (HIM.out _ (below_alloc (W0 := w) U1.out (.cells #[.int .i64 r1, .slice a6 r2.length c6, .int .i64 r4] 43))).mono ?_
  rintro e v2 ⟨ag, cg, rfl, hcg, hog, hbg⟩
  have hz2 := hbg.size
  (try simp at hz2)
  have U2 := Lib.hid ((below_alloc (W0 := w) U1.out (.cells #[.int .i64 r1, .slice a6 r2.length c6, .int .i64 r4] 43)).trans (hbg.mono (by simp; omega)))
  have O6b := Lib.hid ((O6.out.below hbg (by simp)).alloc (.cells #[.int .i64 r1, .slice ag r2.length cg, .int .i64 r4] 43))
  have B6b := Lib.hid ((B6.out.below hbg).alloc (.cells #[.int .i64 r1, .slice ag r2.length cg, .int .i64 r4] 43))
  have OG := Lib.hid ((Own2.of hog).alloc (.cells #[.int .i64 r1, .slice ag r2.length cg, .int .i64 r4] 43))
  have BG := Lib.hid (BoxAt.new v2 43 #[.int .i64 r1, .slice ag r2.length cg, .int .i64 r4])
  have U2b := Lib.hid (below_alloc (W0 := w) U2.out (.cells #[.int .i64 r1, .slice ag r2.length cg, .int .i64 r4] 43))
  clear hog hbg hcg O6 B6 U1 U2
  obtain ⟨x1, x2, x3, x4, x5, x6⟩ := B6b.out.tri6
  obtain ⟨y1, y2, y3, y4, y5, y6⟩ := BG.out.tri6
  go_wp2_with fail
  refine (eqDyadic_yes r1 _ _ r2 _ _ _ r4 rfl _ _ _ (Nat.le_refl _) (Nat.le_refl _) (Own2.own OG.out).ints (Own2.own O6b.out).ints (by omega)).mono ?_
  rintro e v3 ⟨rfl, hb⟩
  have hz3 := hb.size
  (try simp at hz3)
  have U3 := Lib.hid (U2b.out.trans (hb.mono U2b.out.size))
  have O6c := Lib.hid (O6b.out.below hb (by simp; omega))
  have B6c := Lib.hid (B6b.out.below hb)
  have OGc := Lib.hid (OG.out.below hb (by simp))
  have BGc := Lib.hid (BG.out.below hb)
  clear hb O6b B6b OG BG U2b x1 x2 x3 x4 x5 x6 y1 y2 y3 y4 y5 y6
  obtain ⟨y1, y2, y3, y4, y5, y6⟩ := BGc.out.tri6
  go_wp2_with fail
  refine (markDyadic r1 _ r2 _ r4 1 _ _ (by omega) (Own2.own OGc.out) (by omega) (by omega)).mono ?_
  rintro e v4 ⟨rfl, hom, row, hgr, hrow⟩
  have hrw := Own2.row_ge OGc.out rfl hrow
  have hz4 := hgr.size
  have U4 := Lib.hid (U3.out.trans (below_of_grown hgr U3.out.size (fun g e => by have := hrw g e; (try simp only [size_al] at this); omega)))
  have B6d := Lib.hid (B6c.out.grown hgr (fun e => by have := hrw _ e.symm; (try simp only [size_al] at this); omega))
  have O6d := Lib.hid (O6c.out.grown hgr (fun g e => by have := hrw g e; (try simp only [size_al] at this); (try simp only [size_al]); omega))
  have BGd := Lib.hid (BGc.out.grown hgr (fun e => by have := hrw _ e.symm; (try simp only [size_al] at this); omega))
  have OM := Lib.hid hom
  clear hgr hrow hrw hom O6c B6c OGc BGc U3 y1 y2 y3 y4 y5 y6
  obtain ⟨y1, y2, y3, y4, y5, y6⟩ := BGd.out.tri6
  have hmneg2 : decide ((1 : Int) + (r2.length : Int) < 0) = false := decide_eq_false (by omega)
  have hmne : ((1 : Int) + (r2.length : Int) != (1 : Int) + (r2.length : Int)) = false := by simp
  go_wp2_with fail
  refine (heldDyadic r1 _ r2.length _ r4 1 _ _ (Nat.le_refl _) (by omega) OM.out.ints (by omega) (by omega)).mono ?_
  rintro e v5 ⟨rfl, hb⟩
  have hz5 := hb.size
  have U5 := Lib.hid (U4.out.trans (hb.mono U4.out.size))
  have B6e := Lib.hid (B6d.out.below hb)
  have O6e := Lib.hid (O6d.out.below hb (by first | omega | (simp; omega)))
  have BGe := Lib.hid (BGd.out.below hb)
  have OMe := Lib.hid (OM.out.below hb)
  clear hb U4 B6d O6d BGd OM y1 y2 y3 y4 y5 y6
  go_wp2_with fail
  refine (HIM.out _ U5.out).mono ?_
  rintro e v6 ⟨a7, c7, rfl, hc7, ho7, hb7⟩
  have hz6 := hb7.size
  have U6 := Lib.hid (below_alloc (W0 := w) (U5.out.trans (hb7.mono U5.out.size)) (.cells #[.int .i64 r1, .slice a7 r2.length c7, .int .i64 r4] 43))
  have B6f := Lib.hid ((B6e.out.below hb7).alloc (.cells #[.int .i64 r1, .slice a7 r2.length c7, .int .i64 r4] 43))
  have O6f := Lib.hid ((O6e.out.below hb7 (by first | omega | (simp; omega))).alloc (.cells #[.int .i64 r1, .slice a7 r2.length c7, .int .i64 r4] 43))
  have BGf := Lib.hid ((BGe.out.below hb7).alloc (.cells #[.int .i64 r1, .slice a7 r2.length c7, .int .i64 r4] 43))
  have OMf := Lib.hid ((OMe.out.below hb7).alloc (.cells #[.int .i64 r1, .slice a7 r2.length c7, .int .i64 r4] 43))
  have O7 := Lib.hid (ho7.alloc (.cells #[.int .i64 r1, .slice a7 r2.length c7, .int .i64 r4] 43))
  have B7 := Lib.hid (BoxAt.new v6 43 #[.int .i64 r1, .slice a7 r2.length c7, .int .i64 r4])
  clear hb7 ho7 hc7 U5 B6e O6e BGe OMe
  obtain ⟨x1, x2, x3, x4, x5, x6⟩ := B6f.out.tri6
  obtain ⟨y1, y2, y3, y4, y5, y6⟩ := B7.out.tri6
  go_wp2_with fail
  refine (eqDyadic_yes r1 _ _ r2 _ _ _ r4 rfl _ _ _ (Nat.le_refl _) (Nat.le_refl _) O7.out.ints (Own2.own O6f.out).ints (by omega)).mono ?_
  rintro e v7 ⟨rfl, hb⟩
  have U7 := Lib.hid (U6.out.trans (hb.mono U6.out.size))
  have BGg := Lib.hid (BGf.out.below hb)
  have OMg := Lib.hid (OMf.out.below hb)
  clear hb U6 B6f O6f BGf OMf O7 B7 x1 x2 x3 x4 x5 x6 y1 y2 y3 y4 y5 y6
  obtain ⟨y1, y2, y3, y4, y5, y6⟩ := BGg.out.tri6
  go_wp2_with fail
  refine (heldDyadic r1 _ r2.length _ r4 1 _ _ (Nat.le_refl _) (by omega) OMg.out.ints (by omega) (by omega)).mono ?_
  rintro e v8 ⟨rfl, hb⟩
  have U8 := Lib.hid (U7.out.trans (hb.mono U7.out.size))
  clear hb U7
  go_wp2_with fail
  go_ret
  exact ⟨rfl, U8.out⟩
end Go.Proofs.YtfjfmlofhifkmaaDoor
