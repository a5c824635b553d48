/-
  The walk of laws.FnExactParseDyadic. Conditions: none.
-/
import Derived.Test.YtpchcigpppdfiabDr
import Derived.Test.YtpchcigpppdfiabLx
import Derived.Test.YtpchcigpppdfiabQa
import Derived.Deep.DeepCutAuto
import Derived.Deep.RegionHeld3
namespace Go.Proofs.Ytpchcigpppdfiab
set_option linter.unusedVariables false
open Go Go.RowKit

set_option maxRecDepth 100000 in
set_option maxHeartbeats 8000000 in
theorem ParseDyadic_walk (t : ByteArray) (w : World) (ht : t.size ≤ maxLen) : Calls Try.prog 3 #[.string t] w (LawDone w) := by
  obtain ⟨l, rfl⟩ : ∃ l : List UInt8, t = ⟨l.toArray⟩ := ⟨t.data.toList, by cases t; simp⟩
  have hlz : ({ data := l.toArray } : ByteArray).size = l.length := by simp [ByteArray.size]
  by_cases hbig : l.length ≤ 1048576
  · have hbI : decide ((1048576 : Int) < (l.length : Int)) = false := decide_eq_false (by omega)
    obtain ⟨⟨r1, r2, r4, r3⟩, hr⟩ : ∃ r : Int × List Int × Int × Int, r = pdR l := ⟨_, rfl⟩
    have HSP := Lib.hid (show ∀ W, Below w.heap.size w W → Calls Try.prog 7 #[.string ⟨l.toArray⟩] W fun e w' => ∃ a c, e = .returned (.tuple #[.agg #[.int .i64 r1, .slice a r2.length c, .int .i64 r4], .int .i64 r3]) ∧ r2.length ≤ c ∧ Own w' W.heap.size a r2 ∧ Below W.heap.size W w' from fun W hW => by
      have := sParseDyadic l hbig W
      rw [← hr] at this
      exact this)
    have HIM := Lib.hid (show ∀ W, Below w.heap.size w W → Calls Try.prog 8 #[.string ⟨l.toArray⟩] W fun e w' => ∃ a c, e = .returned (.tuple #[.agg #[.int .i64 r1, .slice a r2.length c, .int .i64 r4], .int .i64 r3]) ∧ r2.length ≤ c ∧ Own w' W.heap.size a r2 ∧ Below W.heap.size W w' from fun W hW => by
      have := iParseDyadic l hbig W
      rw [← hr] at this
      exact this)
    have HR2 := Lib.hid (show r2.length ≤ 4611686018427387904 from (by have h1 : r2 = (pdR l).2.1 := congrArg (fun r => r.2.1) hr; rw [h1]; exact Nat.le_trans (pdR_len _) (by omega)))
    have hr3 : (r3 != r3) = false := by simp
    have hr4 : (r4 != r4) = false := by simp
    have hT : Below w.heap.size w w := Below.refl _ _
    clear hbig hr
    go_enter Try.func3, Try.ntmps3
    go_wp2_with fail
    refine (HSP.out _ hT).mono ?_
    rintro e w1 ⟨a6, c6, rfl, hc6, ho6, hb⟩
    have hWs : w.heap.size ≤ w1.heap.size := hb.size
    have hU := Lib.hid (hb.alloc hb.size (.cells #[.int .i64 r1, .slice a6 r2.length c6, .int .i64 r4] 26))
    have B6 := Lib.hid (BoxAt.new w1 26 #[.int .i64 r1, .slice a6 r2.length c6, .int .i64 r4])
    have O6 := Lib.hid ((Own2.of ho6).alloc (.cells #[.int .i64 r1, .slice a6 r2.length c6, .int .i64 r4] 26))
    clear ho6 hb hc6
    go_wp2_with fail
    refine (HIM.out _ hU.out).mono ?_
    rintro e w2 ⟨a7, c7, rfl, hcx, ho, hb⟩
    have hsz_w2 := hb.size
    (try simp at hsz_w2)
    have hU_1 := Lib.hid (hU.out.trans (hb.mono hU.out.size))
    clear hU
    have B6_2 := Lib.hid (B6.out.below hb)
    have O6_3 := Lib.hid (O6.out.below hb (by first | omega | (simp; done) | (simp; omega)))
    clear B6 O6
    have OG := Lib.hid (Own2.of ho)
    clear ho hb hcx
    have B6_4 := Lib.hid (B6_2.out.alloc (.cells #[.int .i64 r1, .slice a7 r2.length c7, .int .i64 r4] 26))
    have O6_5 := Lib.hid (O6_3.out.alloc (.cells #[.int .i64 r1, .slice a7 r2.length c7, .int .i64 r4] 26))
    have OG_6 := Lib.hid (OG.out.alloc (.cells #[.int .i64 r1, .slice a7 r2.length c7, .int .i64 r4] 26))
    clear B6_2 O6_3 OG
    have hU_7 := Lib.hid (below_alloc hU_1.out (.cells #[.int .i64 r1, .slice a7 r2.length c7, .int .i64 r4] 26))
    clear hU_1
    have BG := Lib.hid (BoxAt.new w2 26 #[.int .i64 r1, .slice a7 r2.length c7, .int .i64 r4])
    obtain ⟨y8_0, y8_1, y8_2, y8_3, y8_4, y8_5⟩ := BG.out.tri6
    obtain ⟨y9_0, y9_1, y9_2, y9_3, y9_4, y9_5⟩ := B6_4.out.tri6
    go_wp2_with fail
    refine (eqDyadic_yes r1 _ _ r2 _ _ _ r4 rfl _ _ _ (by (try simp only [size_al]); omega) (by (try simp only [size_al]); omega) (Own2.ints OG_6.out) (Own2.ints O6_5.out) (by have := HR2.out; omega)).mono ?_
    rintro e w3 ⟨rfl, hb⟩
    have hsz_w3 := hb.size
    (try simp at hsz_w3)
    clear y8_0 y8_1 y8_2 y8_3 y8_4 y8_5 y9_0 y9_1 y9_2 y9_3 y9_4 y9_5
    have hU_10 := Lib.hid (hU_7.out.trans (hb.mono hU_7.out.size))
    clear hU_7
    have B6_11 := Lib.hid (B6_4.out.below hb)
    have BG_12 := Lib.hid (BG.out.below hb)
    have O6_13 := Lib.hid (O6_5.out.below hb (by first | omega | (simp; done) | (simp; omega)))
    have OG_14 := Lib.hid (OG_6.out.below hb (by first | omega | (simp; done) | (simp; omega)))
    clear B6_4 BG O6_5 OG_6
    clear hb
    obtain ⟨y15_0, y15_1, y15_2, y15_3, y15_4, y15_5⟩ := BG_12.out.tri6
    go_wp2_with fail
    refine (markDyadic r1 _ r2 _ r4 1 _ _ (by have := HR2.out; omega) (Own2.own OG_14.out) (by omega) (by omega)).mono ?_
    rintro e w4 ⟨rfl, hom, row, hgr, hrow⟩
    have hrw := Own2.row_ge OG_14.out rfl hrow
    have hsz_w4 := hgr.size
    clear y15_0 y15_1 y15_2 y15_3 y15_4 y15_5
    have B6_16 := Lib.hid (B6_11.out.grown hgr (fun e => by have := hrw _ e.symm; (try simp only [size_al] at this); (try simp only [size_al]); omega))
    have BG_17 := Lib.hid (BG_12.out.grown hgr (fun e => by have := hrw _ e.symm; (try simp only [size_al] at this); (try simp only [size_al]); omega))
    have O6_18 := Lib.hid (O6_13.out.grown hgr (fun g e => by have := hrw g e; (try simp only [size_al] at this); (try simp only [size_al]); omega))
    clear B6_11 BG_12 O6_13
    have hU_19 := Lib.hid (hU_10.out.trans (below_of_grown hgr hU_10.out.size (fun g e => by have := hrw g e; (try simp only [size_al] at this); have := hWs; omega)))
    clear hU_10
    clear hgr hrow hrw OG_14
    have OM := Lib.hid hom
    clear hom
    have hmneg2 : decide ((1 : Int) + (r2.length : Int) < 0) = false := decide_eq_false (by omega)
    have hmne : ((1 : Int) + (r2.length : Int) != (1 : Int) + (r2.length : Int)) = false := by simp
    obtain ⟨y20_0, y20_1, y20_2, y20_3, y20_4, y20_5⟩ := BG_17.out.tri6
    go_wp2_with fail
    refine (heldDyadic r1 _ r2.length _ r4 1 _ _ (Nat.le_refl _) (by have := HR2.out; omega) OM.out.ints (by omega) (by omega)).mono ?_
    rintro e w5 ⟨rfl, hb⟩
    have hsz_w5 := hb.size
    (try simp at hsz_w5)
    clear y20_0 y20_1 y20_2 y20_3 y20_4 y20_5
    have hU_21 := Lib.hid (hU_19.out.trans (hb.mono hU_19.out.size))
    clear hU_19
    have B6_22 := Lib.hid (B6_16.out.below hb)
    have BG_23 := Lib.hid (BG_17.out.below hb)
    have O6_24 := Lib.hid (O6_18.out.below hb (by first | omega | (simp; done) | (simp; omega)))
    have OM_25 := Lib.hid (OM.out.below hb)
    clear B6_16 BG_17 O6_18 OM
    clear hb
    go_wp2_with fail
    refine (HIM.out _ hU_21.out).mono ?_
    rintro e w6 ⟨a8, c8, rfl, hcx, ho, hb⟩
    have hsz_w6 := hb.size
    (try simp at hsz_w6)
    have hU_26 := Lib.hid (hU_21.out.trans (hb.mono hU_21.out.size))
    clear hU_21
    have B6_27 := Lib.hid (B6_22.out.below hb)
    have BG_28 := Lib.hid (BG_23.out.below hb)
    have O6_29 := Lib.hid (O6_24.out.below hb (by first | omega | (simp; done) | (simp; omega)))
    have OM_30 := Lib.hid (OM_25.out.below hb)
    clear B6_22 BG_23 O6_24 OM_25
    have OH := Lib.hid (Own2.of ho)
    clear ho hb hcx
    have B6_31 := Lib.hid (B6_27.out.alloc (.cells #[.int .i64 r1, .slice a8 r2.length c8, .int .i64 r4] 26))
    have BG_32 := Lib.hid (BG_28.out.alloc (.cells #[.int .i64 r1, .slice a8 r2.length c8, .int .i64 r4] 26))
    have O6_33 := Lib.hid (O6_29.out.alloc (.cells #[.int .i64 r1, .slice a8 r2.length c8, .int .i64 r4] 26))
    have OH_34 := Lib.hid (OH.out.alloc (.cells #[.int .i64 r1, .slice a8 r2.length c8, .int .i64 r4] 26))
    have OM_35 := Lib.hid (OM_30.out.alloc (.cells #[.int .i64 r1, .slice a8 r2.length c8, .int .i64 r4] 26))
    clear B6_27 BG_28 O6_29 OH OM_30
    have hU_36 := Lib.hid (below_alloc hU_26.out (.cells #[.int .i64 r1, .slice a8 r2.length c8, .int .i64 r4] 26))
    clear hU_26
    have BH := Lib.hid (BoxAt.new w6 26 #[.int .i64 r1, .slice a8 r2.length c8, .int .i64 r4])
    obtain ⟨y37_0, y37_1, y37_2, y37_3, y37_4, y37_5⟩ := BH.out.tri6
    obtain ⟨y38_0, y38_1, y38_2, y38_3, y38_4, y38_5⟩ := B6_31.out.tri6
    go_wp2_with fail
    refine (eqDyadic_yes r1 _ _ r2 _ _ _ r4 rfl _ _ _ (by (try simp only [size_al]); omega) (by (try simp only [size_al]); omega) (Own2.ints OH_34.out) (Own2.ints O6_33.out) (by have := HR2.out; omega)).mono ?_
    rintro e w7 ⟨rfl, hb⟩
    have hsz_w7 := hb.size
    (try simp at hsz_w7)
    clear y37_0 y37_1 y37_2 y37_3 y37_4 y37_5 y38_0 y38_1 y38_2 y38_3 y38_4 y38_5
    have hU_39 := Lib.hid (hU_36.out.trans (hb.mono hU_36.out.size))
    clear hU_36
    have B6_40 := Lib.hid (B6_31.out.below hb)
    have BG_41 := Lib.hid (BG_32.out.below hb)
    have BH_42 := Lib.hid (BH.out.below hb)
    have O6_43 := Lib.hid (O6_33.out.below hb (by first | omega | (simp; done) | (simp; omega)))
    have OH_44 := Lib.hid (OH_34.out.below hb (by first | omega | (simp; done) | (simp; omega)))
    have OM_45 := Lib.hid (OM_35.out.below hb)
    clear B6_31 BG_32 BH O6_33 OH_34 OM_35
    clear hb
    obtain ⟨y46_0, y46_1, y46_2, y46_3, y46_4, y46_5⟩ := BG_41.out.tri6
    go_wp2_with fail
    refine (heldDyadic r1 _ r2.length _ r4 1 _ _ (Nat.le_refl _) (by have := HR2.out; omega) OM_45.out.ints (by omega) (by omega)).mono ?_
    rintro e w8 ⟨rfl, hb⟩
    have hsz_w8 := hb.size
    (try simp at hsz_w8)
    clear y46_0 y46_1 y46_2 y46_3 y46_4 y46_5
    have hU_47 := Lib.hid (hU_39.out.trans (hb.mono hU_39.out.size))
    clear hU_39
    have B6_48 := Lib.hid (B6_40.out.below hb)
    have BG_49 := Lib.hid (BG_41.out.below hb)
    have BH_50 := Lib.hid (BH_42.out.below hb)
    have O6_51 := Lib.hid (O6_43.out.below hb (by first | omega | (simp; done) | (simp; omega)))
    have OH_52 := Lib.hid (OH_44.out.below hb (by first | omega | (simp; done) | (simp; omega)))
    have OM_53 := Lib.hid (OM_45.out.below hb)
    clear B6_40 BG_41 BH_42 O6_43 OH_44 OM_45
    clear hb
    go_wp2_with fail
    go_ret
    exact ⟨rfl, hU_47.out⟩
  · have hbI : (1048576 : Int) < (l.length : Int) := by omega
    clear hbig
    go_enter Try.func3, Try.ntmps3
    go_wp2
    go_ret
    exact ⟨rfl, Below.refl _ _⟩
end Go.Proofs.Ytpchcigpppdfiab
