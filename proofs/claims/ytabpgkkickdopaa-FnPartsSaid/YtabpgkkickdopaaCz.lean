/-
  The walk of laws.FnParts. Conditions: the code's bytes can be read.
-/
import Derived.Test.YtabpgkkickdopaaCy

import Derived.Deep.DeepCutAuto
namespace Go.Proofs.Ytabpgkkickdopaa
set_option linter.unusedVariables false
open Go Go.RowKit

set_option maxRecDepth 100000 in
set_option maxHeartbeats 16000000 in
theorem parts_walk (a : Option Addr) (len cap : Nat) (w : World) (hlen : len ≤ 9223372036854775807) (hcode : Code8 w.heap.size a len w) :
    Calls Try.prog 4 #[.slice a len cap] w (LawDone w) := by
  by_cases hbig : (len : Int) ≤ 4096
  rotate_left
  · have HBG := Lib.hid (big_yes a len cap (by omega))
    clear hlen hcode hbig
    go_enter Try.func4, Try.ntmps4
    go_wp2_with (go_at_call 6; refine (HBG.out _).mono ?_; rintro e w' ⟨rfl, rfl⟩)
    go_ret
    exact ⟨rfl, Below.refl _ _⟩
  · have HL := Lib.hid hlen
    have HC := Lib.hid hcode
    have HBG := Lib.hid (big_any a len cap hbig)
    have U := Lib.hid (Below.refl w.heap.size w)
    clear hlen hcode hbig
    go_enter Try.func4, Try.ntmps4
    go_wp2_with (go_at_call 6; refine (HBG.out _).mono ?_; rintro e w' ⟨rfl, rfl⟩)
    clear HBG
    go_wp2_with fail
    refine (drawMul a len cap _ HL.out (HC.out.below U.out U.out.size)).mono ?_
    rintro e w1 ⟨xp, ps, cp, xq, qs, cq, rfl, hl1, hm1, hcells, hcells2, hb⟩
    replace U := Lib.hid (U.out.trans (hb.mono U.out.size))
    have C_xp := Lib.hid hcells
    have C_xq := Lib.hid hcells2
    clear hcells hcells2 hb
    go_wp2_with fail
    refine (iMultiplyPartsP xp xq ps qs cp cq _ C_xp.out C_xq.out).mono ?_
    rintro e w2 ⟨v2, rfl, ho, hb⟩
    obtain ⟨xa, dxa, hv, hx1, hx2, hcells⟩ := ho.parts
    subst hv
    clear ho hx1 hx2
    replace C_xp := Lib.hid (C_xp.out.below (Nat.le_refl _) hb)
    replace C_xq := Lib.hid (C_xq.out.below (Nat.le_refl _) hb)
    replace U := Lib.hid (U.out.trans (hb.mono U.out.size))
    clear hb
    have C_xa := Lib.hid hcells
    clear hcells
    go_wp2_with fail
    refine (sMultiplyPartsP xp xq ps qs cp cq _ C_xp.out C_xq.out).mono ?_
    rintro e w3 ⟨v3, rfl, ho, hb⟩
    obtain ⟨xb, dxb, hv, hx1, hx2, hcells⟩ := ho.parts
    subst hv
    clear ho hx1 hx2
    replace C_xp := Lib.hid (C_xp.out.below (Nat.le_refl _) hb)
    replace C_xq := Lib.hid (C_xq.out.below (Nat.le_refl _) hb)
    replace C_xa := Lib.hid (C_xa.out.below (Nat.le_refl _) hb)
    replace U := Lib.hid (U.out.trans (hb.mono U.out.size))
    clear hb
    have C_xb := Lib.hid hcells
    clear hcells
    have hne : ((mulL ps qs).2 != (mulL ps qs).2) = false := by simp
    go_wp2_with fail
    refine (list5_same xa xb (mulL ps qs).1 dxa dxb _ C_xa.out C_xb.out (mulL_fin ps qs)).mono ?_
    rintro e w4 ⟨n4, rfl, rfl⟩
    replace C_xp := Lib.hid (C_xp.out.drewN n4)
    replace C_xq := Lib.hid (C_xq.out.drewN n4)
    replace C_xa := Lib.hid (C_xa.out.drewN n4)
    replace C_xb := Lib.hid (C_xb.out.drewN n4)
    replace U := Lib.hid (below_drewN U.out n4)
    try rw [World.drewN_drewN] at C_xp
    try rw [World.drewN_drewN] at C_xq
    try rw [World.drewN_drewN] at C_xa
    try rw [World.drewN_drewN] at C_xb
    try rw [World.drewN_drewN] at U
    clear hne
    go_upto_region 8 with fail
    have HR := Lib.hid (And.intro C_xp.out (And.intro C_xq.out (And.intro C_xa.out U.out)))
    clear C_xp C_xq C_xa C_xb
    go_cut [74] (fun u W => ∃ bb : Bool, u = .bool bb ∧ Hid (bb = true → ps.length = 1 ∧ (mulL ps qs).2 = 0) ∧ Hid (Cells W xp ps ∧ Cells W xq qs ∧ Cells W xa (mulL ps qs).1 ∧ Below w.heap.size w W))
    case first =>
      by_cases hp1 : ps.length = 1
      · have hpb : ((ps.length : Int) == 1) = true := beq_iff_eq.2 (by omega)
        have HP1 := Lib.hid hp1
        clear hp1
        by_cases hc0 : (mulL ps qs).2 = 0
        · have hcb : ((mulL ps qs).2 == 0) = true := beq_iff_eq.2 hc0
          have HC0 := Lib.hid hc0
          clear hc0
          go_wp2_with fail
          go_meet
          case rel => exact ⟨true, rfl, Lib.hid (fun _ => ⟨HP1.out, HC0.out⟩), HR⟩
        · have hcb : ((mulL ps qs).2 == 0) = false := code_ne hc0
          clear hc0
          go_wp2_with fail
          go_meet
          case rel => exact ⟨false, rfl, Lib.hid (fun h => Bool.noConfusion h), HR⟩
      · have hpb : ((ps.length : Int) == 1) = false := beq_eq_false_iff_ne.2 (by omega)
        clear hp1
        go_wp2_with fail
        go_meet
        case rel => exact ⟨false, rfl, Lib.hid (fun h => Bool.noConfusion h), HR⟩
    case rest => as_aux_lemma =>
      clear HR U
      obtain ⟨bb, rfl, hbb, HR⟩ := hcut
      go_upto_if 74 with fail
      go_cut [] (fun W => Below w.heap.size w W)
      case first =>
        cases bb
        · go_wp2_with fail
          go_meet
          case rel => exact HR.out.2.2.2
        · have HT := Lib.hid (mulL_turn (qs := qs) (hbb.out rfl).1)
          have HC0 := Lib.hid (hbb.out rfl).2
          have C_xp := Lib.hid HR.out.1
          have C_xq := Lib.hid HR.out.2.1
          have C_xa := Lib.hid HR.out.2.2.1
          have U := Lib.hid HR.out.2.2.2
          clear HR hbb
          go_wp2_with fail
          refine (iMultiplyPartsP xq xp qs ps cq cp _ C_xq.out C_xp.out).mono ?_
          rw [HT.out]
          rintro e w5 ⟨v5, rfl, ho, hb⟩
          obtain ⟨xc, dxc, hv, hx1, hx2, hcells⟩ := ho.parts
          subst hv
          clear ho hx1 hx2
          replace C_xp := Lib.hid (C_xp.out.below (Nat.le_refl _) hb)
          replace C_xq := Lib.hid (C_xq.out.below (Nat.le_refl _) hb)
          replace C_xa := Lib.hid (C_xa.out.below (Nat.le_refl _) hb)
          replace U := Lib.hid (U.out.trans (hb.mono U.out.size))
          clear hb
          have C_xc := Lib.hid hcells
          clear hcells
          have hcz : ((mulL ps qs).2 != 0) = false := by simp [HC0.out]
          go_wp2_with fail
          refine (list5_same xc xa (mulL ps qs).1 dxc dxa _ C_xc.out C_xa.out (mulL_fin ps qs)).mono ?_
          rintro e w6 ⟨n6, rfl, rfl⟩
          replace C_xp := Lib.hid (C_xp.out.drewN n6)
          replace C_xq := Lib.hid (C_xq.out.drewN n6)
          replace C_xa := Lib.hid (C_xa.out.drewN n6)
          replace C_xc := Lib.hid (C_xc.out.drewN n6)
          replace U := Lib.hid (below_drewN U.out n6)
          try rw [World.drewN_drewN] at C_xp
          try rw [World.drewN_drewN] at C_xq
          try rw [World.drewN_drewN] at C_xa
          try rw [World.drewN_drewN] at C_xc
          try rw [World.drewN_drewN] at U
          go_wp2_with fail
          go_meet
          case rel => exact U.out
      case rest => as_aux_lemma =>
        clear HR hbb
        have U := Lib.hid hcut
        clear hcut
        go_wp2_with fail
        refine (drawAddP a len cap _ HL.out (HC.out.below U.out U.out.size)).mono ?_
        rintro e w7 ⟨xp, ps, cp, xq, qs, cq, rfl, hl7, hm7, hcells, hcells2, hb⟩
        replace U := Lib.hid (U.out.trans (hb.mono U.out.size))
        have C_xp := Lib.hid hcells
        have C_xq := Lib.hid hcells2
        clear hcells hcells2 hb
        go_wp2_with fail
        refine (iAddPartsP xp xq ps qs cp cq _ C_xp.out C_xq.out).mono ?_
        rintro e w8 ⟨v8, rfl, ho, hb⟩
        obtain ⟨xa, dxa, hv, hx1, hx2, hcells⟩ := ho.parts
        subst hv
        clear ho hx1 hx2
        replace C_xp := Lib.hid (C_xp.out.below (Nat.le_refl _) hb)
        replace C_xq := Lib.hid (C_xq.out.below (Nat.le_refl _) hb)
        replace U := Lib.hid (U.out.trans (hb.mono U.out.size))
        clear hb
        have C_xa := Lib.hid hcells
        clear hcells
        go_wp2_with fail
        refine (sAddParts4 xp xq ps qs cp cq _ C_xp.out C_xq.out).mono ?_
        rintro e w9 ⟨v9, rfl, ho, hb⟩
        obtain ⟨xb, dxb, hv, hx1, hx2, hcells⟩ := ho.parts
        subst hv
        clear ho hx1 hx2
        replace C_xp := Lib.hid (C_xp.out.below (Nat.le_refl _) hb)
        replace C_xq := Lib.hid (C_xq.out.below (Nat.le_refl _) hb)
        replace C_xa := Lib.hid (C_xa.out.below (Nat.le_refl _) hb)
        replace U := Lib.hid (U.out.trans (hb.mono U.out.size))
        clear hb
        have C_xb := Lib.hid hcells
        clear hcells
        go_wp2_with fail
        refine (iAddPartsP xq xp qs ps cq cp _ C_xq.out C_xp.out).mono ?_
        rw [addL_turn ps qs]
        rintro e w10 ⟨v10, rfl, ho, hb⟩
        obtain ⟨xc, dxc, hv, hx1, hx2, hcells⟩ := ho.parts
        subst hv
        clear ho hx1 hx2
        replace C_xp := Lib.hid (C_xp.out.below (Nat.le_refl _) hb)
        replace C_xq := Lib.hid (C_xq.out.below (Nat.le_refl _) hb)
        replace C_xa := Lib.hid (C_xa.out.below (Nat.le_refl _) hb)
        replace C_xb := Lib.hid (C_xb.out.below (Nat.le_refl _) hb)
        replace U := Lib.hid (U.out.trans (hb.mono U.out.size))
        clear hb
        have C_xc := Lib.hid hcells
        clear hcells
        have hne : ((addL ps qs).2 != (addL ps qs).2) = false := by simp
        go_wp2_with fail
        refine (list5_same xa xb (addL ps qs).1 dxa dxb _ C_xa.out C_xb.out (addL_fin ps qs)).mono ?_
        rintro e w11 ⟨n11, rfl, rfl⟩
        replace C_xp := Lib.hid (C_xp.out.drewN n11)
        replace C_xq := Lib.hid (C_xq.out.drewN n11)
        replace C_xa := Lib.hid (C_xa.out.drewN n11)
        replace C_xb := Lib.hid (C_xb.out.drewN n11)
        replace C_xc := Lib.hid (C_xc.out.drewN n11)
        replace U := Lib.hid (below_drewN U.out n11)
        try rw [World.drewN_drewN] at C_xp
        try rw [World.drewN_drewN] at C_xq
        try rw [World.drewN_drewN] at C_xa
        try rw [World.drewN_drewN] at C_xb
        try rw [World.drewN_drewN] at C_xc
        try rw [World.drewN_drewN] at U
        go_wp2_with fail
        refine (list5_same xc xa (addL ps qs).1 dxc dxa _ C_xc.out C_xa.out (addL_fin ps qs)).mono ?_
        rintro e w12 ⟨n12, rfl, rfl⟩
        replace C_xp := Lib.hid (C_xp.out.drewN n12)
        replace C_xq := Lib.hid (C_xq.out.drewN n12)
        replace C_xa := Lib.hid (C_xa.out.drewN n12)
        replace C_xb := Lib.hid (C_xb.out.drewN n12)
        replace C_xc := Lib.hid (C_xc.out.drewN n12)
        replace U := Lib.hid (below_drewN U.out n12)
        try rw [World.drewN_drewN] at C_xp
        try rw [World.drewN_drewN] at C_xq
        try rw [World.drewN_drewN] at C_xa
        try rw [World.drewN_drewN] at C_xb
        try rw [World.drewN_drewN] at C_xc
        try rw [World.drewN_drewN] at U
        clear hne
        go_upto_if 131 with fail
        go_cut [] (fun W => Below w.heap.size w W)
        case first =>
          go_wp2_with fail
          go_meet
          case rel => exact U.out
        case rest => as_aux_lemma =>
          clear C_xp C_xq C_xa C_xb C_xc U
          have U := Lib.hid hcut
          clear hcut
          go_wp2_with fail
          refine (drawMon a len cap _ HL.out (HC.out.below U.out U.out.size)).mono ?_
          rintro e w13 ⟨xp, ps, cp, rfl, hl13, hc13, hd13, hcells, hb⟩
          replace U := Lib.hid (U.out.trans (hb.mono U.out.size))
          have C_xp := Lib.hid hcells
          clear hcells hb
          go_wp2_with fail
          refine (iMakeMonicP xp ps cp _ C_xp.out hc13 hd13).mono ?_
          rintro e w14 ⟨v14, rfl, ho, hb⟩
          obtain ⟨xa, dxa, hv, hx1, hx2, hcells⟩ := ho.parts
          subst hv
          clear ho hx1 hx2
          replace C_xp := Lib.hid (C_xp.out.below (Nat.le_refl _) hb)
          replace U := Lib.hid (U.out.trans (hb.mono U.out.size))
          clear hb
          have C_xa := Lib.hid hcells
          clear hcells
          go_wp2_with fail
          refine (sMakeMonicP xp ps cp _ C_xp.out).mono ?_
          rintro e w15 ⟨v15, rfl, ho, hb⟩
          obtain ⟨xb, dxb, hv, hx1, hx2, hcells⟩ := ho.parts
          subst hv
          clear ho hx1 hx2
          replace C_xp := Lib.hid (C_xp.out.below (Nat.le_refl _) hb)
          replace C_xa := Lib.hid (C_xa.out.below (Nat.le_refl _) hb)
          replace U := Lib.hid (U.out.trans (hb.mono U.out.size))
          clear hb
          have C_xb := Lib.hid hcells
          clear hcells
          have hne : ((monL ps).2 != (monL ps).2) = false := by simp
          go_upto_region 21 with fail
          go_cut [172] (fun u W => u = .bool false ∧ Below w.heap.size w W)
          case first =>
            by_cases hc0 : (monL ps).2 = 0
            · obtain ⟨hq1, hq2, hq3, hq4⟩ := monL_zero hc0
              have hcb : ((monL ps).2 == 0) = true := beq_iff_eq.2 hc0
              have hlb : (((monL ps).1.length : Int) != (ps.length : Int)) = false := by simp [hq1]
              have hi1 : ((ps.length : Int) - 1).toNat = ps.length - 1 := by omega
              have hi2 : (0 : Int) ≤ (ps.length : Int) - 1 := by omega
              have hi3 : (ps.length : Int) - 1 < ((monL ps).1.length : Int) := by omega
              obtain ⟨g1, g2, hg, hgc⟩ := C_xa.out.2 (ps.length - 1) hq3
              subst hg
              rw [hq4] at hgc
              have hgc2 : ∀ n, (World.drewN _ n).cell? ⟨g1, g2 + (ps.length - 1), none⟩ = some (.complex .f64 one 0) := fun n => hgc
              have ho1 : FloatKind.f64.format.order one 4607182418800017408 = some .eq := by decide +kernel
              have ho2 : FloatKind.f64.format.order 0 0 = some .eq := by decide +kernel
              clear hq1 hq2 hq3 hq4 hc0
              go_wp2_with fail
              refine (list5_same _ xb (monL ps).1 dxa dxb _ C_xa.out C_xb.out (monL_fin ps)).mono ?_
              rintro e w' ⟨n, rfl, rfl⟩
              replace U := Lib.hid (below_drewN U.out n)
              go_wp2_with fail
              go_meet
              case rel => exact ⟨rfl, U.out⟩
            · have hcb : ((monL ps).2 == 0) = false := code_ne hc0
              clear hc0
              go_wp2_with fail
              refine (list5_same xa xb (monL ps).1 dxa dxb _ C_xa.out C_xb.out (monL_fin ps)).mono ?_
              rintro e w' ⟨n, rfl, rfl⟩
              replace U := Lib.hid (below_drewN U.out n)
              go_wp2_with fail
              go_meet
              case rel => exact ⟨rfl, U.out⟩
          case rest => as_aux_lemma =>
            obtain ⟨rfl, hcut⟩ := hcut
            clear C_xp C_xa C_xb U hne
            have U := Lib.hid hcut
            clear hcut
            go_wp2_with fail
            refine (drawDer a len cap _ HL.out (HC.out.below U.out U.out.size)).mono ?_
            rintro e w16 ⟨xp, ps, cp, rfl, hl16, hc16, hd16, hcells, hb⟩
            replace U := Lib.hid (U.out.trans (hb.mono U.out.size))
            have C_xp := Lib.hid hcells
            clear hcells hb
            go_wp2_with fail
            refine (iDerivP xp ps cp _ C_xp.out hc16 hd16).mono ?_
            rintro e w17 ⟨v17, rfl, ho, hb⟩
            obtain ⟨xa, dxa, hv, hx1, hx2, hcells⟩ := ho.parts
            subst hv
            clear ho hx1 hx2
            replace C_xp := Lib.hid (C_xp.out.below (Nat.le_refl _) hb)
            replace U := Lib.hid (U.out.trans (hb.mono U.out.size))
            clear hb
            have C_xa := Lib.hid hcells
            clear hcells
            go_wp2_with fail
            refine (sDerivP xp ps cp _ C_xp.out).mono ?_
            rintro e w18 ⟨v18, rfl, ho, hb⟩
            obtain ⟨xb, dxb, hv, hx1, hx2, hcells⟩ := ho.parts
            subst hv
            clear ho hx1 hx2
            replace C_xp := Lib.hid (C_xp.out.below (Nat.le_refl _) hb)
            replace C_xa := Lib.hid (C_xa.out.below (Nat.le_refl _) hb)
            replace U := Lib.hid (U.out.trans (hb.mono U.out.size))
            clear hb
            have C_xb := Lib.hid hcells
            clear hcells
            have hne : ((derL ps).2 != (derL ps).2) = false := by simp
            go_wp2_with fail
            refine (list5_same xa xb (derL ps).1 dxa dxb _ C_xa.out C_xb.out (derL_fin ps)).mono ?_
            rintro e w19 ⟨n19, rfl, rfl⟩
            replace C_xp := Lib.hid (C_xp.out.drewN n19)
            replace C_xa := Lib.hid (C_xa.out.drewN n19)
            replace C_xb := Lib.hid (C_xb.out.drewN n19)
            replace U := Lib.hid (below_drewN U.out n19)
            try rw [World.drewN_drewN] at C_xp
            try rw [World.drewN_drewN] at C_xa
            try rw [World.drewN_drewN] at C_xb
            try rw [World.drewN_drewN] at U
            clear hne
            go_upto_if 193 with fail
            go_cut [] (fun W => Below w.heap.size w W)
            case first =>
              go_wp2_with fail
              go_meet
              case rel => exact U.out
            case rest => as_aux_lemma =>
              clear C_xp C_xa C_xb U
              have U := Lib.hid hcut
              clear hcut
              go_wp2_with fail
              refine (drawSclP a len cap _ HL.out (HC.out.below U.out U.out.size)).mono ?_
              rintro e w20 ⟨xp, ps, cp, k, rfl, hl20, hk20, hcells, hb⟩
              replace U := Lib.hid (U.out.trans (hb.mono U.out.size))
              have C_xp := Lib.hid hcells
              clear hcells hb
              obtain ⟨k1, k2⟩ := hk20
              go_wp2_with fail
              refine (iScaleP xp ps cp k _ C_xp.out).mono ?_
              rintro e w21 ⟨v21, rfl, ho, hb⟩
              obtain ⟨xa, dxa, hv, hx1, hx2, hcells⟩ := ho.parts
              subst hv
              clear ho hx1 hx2
              replace C_xp := Lib.hid (C_xp.out.below (Nat.le_refl _) hb)
              replace U := Lib.hid (U.out.trans (hb.mono U.out.size))
              clear hb
              have C_xa := Lib.hid hcells
              clear hcells
              go_wp2_with fail
              refine (sScaleP xp ps cp k _ C_xp.out (by omega) (by omega)).mono ?_
              rintro e w22 ⟨v22, rfl, ho, hb⟩
              obtain ⟨xb, dxb, hv, hx1, hx2, hcells⟩ := ho.parts
              subst hv
              clear ho hx1 hx2
              replace C_xp := Lib.hid (C_xp.out.below (Nat.le_refl _) hb)
              replace C_xa := Lib.hid (C_xa.out.below (Nat.le_refl _) hb)
              replace U := Lib.hid (U.out.trans (hb.mono U.out.size))
              clear hb
              have C_xb := Lib.hid hcells
              clear hcells
              have hne : ((sclL ps k).2 != (sclL ps k).2) = false := by simp
              go_wp2_with fail
              refine (list5_same xa xb (sclL ps k).1 dxa dxb _ C_xa.out C_xb.out (sclL_fin ps k)).mono ?_
              rintro e w23 ⟨n23, rfl, rfl⟩
              replace C_xp := Lib.hid (C_xp.out.drewN n23)
              replace C_xa := Lib.hid (C_xa.out.drewN n23)
              replace C_xb := Lib.hid (C_xb.out.drewN n23)
              replace U := Lib.hid (below_drewN U.out n23)
              try rw [World.drewN_drewN] at C_xp
              try rw [World.drewN_drewN] at C_xa
              try rw [World.drewN_drewN] at C_xb
              try rw [World.drewN_drewN] at U
              clear hne
              go_upto_if 219 with fail
              go_cut [] (fun W => Below w.heap.size w W)
              case first =>
                go_wp2_with fail
                go_meet
                case rel => exact U.out
              case rest => as_aux_lemma =>
                clear C_xp C_xa C_xb U k1 k2
                have U := Lib.hid hcut
                clear hcut
                go_wp2_with fail
                refine (drawRootsP a len cap _ HL.out (HC.out.below U.out U.out.size)).mono ?_
                rintro e w24 ⟨xp, ps, cp, rfl, hl24, hc24, hd24, hcells, hb⟩
                replace U := Lib.hid (U.out.trans (hb.mono U.out.size))
                have C_xp := Lib.hid hcells
                clear hcells hb
                go_wp2_with fail
                refine (iOfRoots xp ps cp _ C_xp.out).mono ?_
                rintro e w25 ⟨v25, rfl, ho, hb⟩
                obtain ⟨xa, dxa, hv, hx1, hx2, hcells⟩ := ho.parts
                subst hv
                clear ho hx1 hx2
                replace C_xp := Lib.hid (C_xp.out.below (Nat.le_refl _) hb)
                replace U := Lib.hid (U.out.trans (hb.mono U.out.size))
                clear hb
                have C_xa := Lib.hid hcells
                clear hcells
                go_wp2_with fail
                refine (sOfRootsP xp ps cp _ C_xp.out).mono ?_
                rintro e w26 ⟨v26, rfl, ho, hb⟩
                obtain ⟨xb, dxb, hv, hx1, hx2, hcells⟩ := ho.parts
                subst hv
                clear ho hx1 hx2
                replace C_xp := Lib.hid (C_xp.out.below (Nat.le_refl _) hb)
                replace C_xa := Lib.hid (C_xa.out.below (Nat.le_refl _) hb)
                replace U := Lib.hid (U.out.trans (hb.mono U.out.size))
                clear hb
                have C_xb := Lib.hid hcells
                clear hcells
                have heq : ((ofRootsL ps).2 == (ofRootsL ps).2) = true := by simp
                by_cases hc0 : (ofRootsL ps).2 = 0
                · obtain ⟨hq1, hq3, hq4⟩ := ofRootsL_zero hc0
                  have hcb : ((ofRootsL ps).2 != 0) = false := by simp [hc0]
                  have hlb : (((ofRootsL ps).1.length : Int) == (ps.length : Int) + 1) = true := beq_iff_eq.2 (by omega)
                  have hi3 : (ps.length : Int) < ((ofRootsL ps).1.length : Int) := by omega
                  obtain ⟨g1, g2, hg, hgc⟩ := C_xa.out.2 ps.length hq3
                  subst hg
                  rw [hq4] at hgc
                  have hgc2 : ∀ n, (World.drewN _ n).cell? ⟨g1, g2 + ps.length, none⟩ = some (.complex .f64 one 0) := fun n => hgc
                  have ho1 : FloatKind.f64.format.order one 4607182418800017408 = some .eq := by decide +kernel
                  have ho2 : FloatKind.f64.format.order 0 0 = some .eq := by decide +kernel
                  clear hq1 hq3 hq4 hc0
                  go_wp2_with fail
                  refine (list5_same _ xb (ofRootsL ps).1 dxa dxb _ C_xa.out C_xb.out (ofRootsL_fin ps)).mono ?_
                  rintro e w' ⟨n, rfl, rfl⟩
                  replace U := Lib.hid (below_drewN U.out n)
                  go_wp2_with fail
                  go_ret
                  exact ⟨rfl, U.out⟩
                · have hcb : ((ofRootsL ps).2 != 0) = true := by simpa using hc0
                  clear hc0
                  go_wp2_with fail
                  refine (list5_same xa xb (ofRootsL ps).1 dxa dxb _ C_xa.out C_xb.out (ofRootsL_fin ps)).mono ?_
                  rintro e w' ⟨n, rfl, rfl⟩
                  replace U := Lib.hid (below_drewN U.out n)
                  go_wp2_with fail
                  go_ret
                  exact ⟨rfl, U.out⟩
end Go.Proofs.Ytabpgkkickdopaa
