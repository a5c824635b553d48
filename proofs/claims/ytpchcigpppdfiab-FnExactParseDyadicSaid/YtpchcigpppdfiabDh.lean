/-
  Contracts: l02Read and ParseWhole of the model. Conditions: none.
-/
import Derived.Test.YtpchcigpppdfiabDg
import Derived.Test.YtpchcigpppdfiabTd
import Derived.Test.YtpchcigpppdfiabTe
namespace Go.Proofs.Ytpchcigpppdfiab
set_option linter.unusedVariables false
open Go Go.RowKit

/-- The call returned a whole number and whether there is one. -/
def RetRd (s : Int) (n : Nat) (ok : Bool) (w : World) (e : Ending) (w' : World) : Prop := ∃ a c, e = .returned (.tuple #[.agg #[.int .i64 s, .slice a (lim n).length c], .bool ok]) ∧ (lim n).length ≤ c ∧ Own w' w.heap.size a (lim n) ∧ Below w.heap.size w w'
theorem retRd_no {w W0 W : World} (P3 : Below w.heap.size w W0) (P4 : W0.heap.size = w.heap.size + 1) (hb : Below W0.heap.size W0 W) (u v : Value) :
    RetRd 0 0 false w (.returned (.tuple #[.agg #[.int .i64 0, .slice none 0 0], .bool false])) ((W.setCell ⟨w.heap.size, 0, none⟩ u).setCell ⟨w.heap.size, 1, none⟩ v) :=
  ⟨none, 0, by rw [lim_zero]; rfl, by rw [lim_zero]; exact Nat.le_refl _, by rw [lim_zero]; exact Own.nil, ((P3.trans (hb.mono (by omega))).setCell (by simp <;> omega) _).setCell (by simp <;> omega) _⟩
theorem retRd_yes {w W0 W : World} {s : Int} {n : Nat} {a : Option Addr} {c : Nat} (P3 : Below w.heap.size w W0) (P4 : W0.heap.size = w.heap.size + 1) (hb : Below W0.heap.size W0 W) (u v : Value) (ho : Own W W0.heap.size a (lim n)) (hc : (lim n).length ≤ c) :
    RetRd s n true w (.returned (.tuple #[.agg #[.int .i64 s, .slice a (lim n).length c], .bool true])) ((W.setCell ⟨w.heap.size, 0, none⟩ u).setCell ⟨w.heap.size, 1, none⟩ v) :=
  ⟨a, c, rfl, hc, ((ho.setFar (by simp; omega) _).setFar (by simp; omega) _).mono (by omega), ((P3.trans (hb.mono (by omega))).setCell (by simp <;> omega) _).setCell (by simp <;> omega) _⟩
theorem dig_one {c : Nat} (h : c ≠ 0) (h2 : c < 16777216) : dig c = [c] := by
  rw [dig_pos h, show c / 16777216 = 0 by omega, dig_zero, show c % 16777216 = c by omega]
/-- The text's digits end the number: step by step. -/
theorem dv_digit {b : List UInt8} {k : Nat} (hk : k < b.length) (h : isDig b[k]) : ∃ d : Nat, d < 10 ∧ b[k].toNat = d + 48 ∧ dv (b.take (k + 1)) = dv (b.take k) * 10 + d := by
  unfold isDig at h
  exact ⟨b[k].toNat - 48, by omega, by omega, dv_take b k hk⟩
theorem isDec_of {x : UInt8} {r : List UInt8} (h : ∀ b ∈ x :: r, isDig b) (h0 : x ≠ 48 ∨ r = []) : IsDec (x :: r) := by
  refine ⟨h, ?_⟩
  by_cases e : x = 48
  · subst e
    rcases h0 with h0 | h0
    · exact absurd rfl h0
    · exact .inl (by rw [h0])
  · exact .inr ⟨by simp, by simpa using e⟩

set_option maxRecDepth 100000 in
set_option maxHeartbeats 8000000 in
theorem sReadYes (l : List UInt8) (x : UInt8) (r : List UInt8) (sg : Int) (hl : l.length ≤ 1048576) (hcut : (l = 45 :: x :: r ∧ sg = -1 ∧ x ≠ 48) ∨ (l = x :: r ∧ sg = 1 ∧ x ≠ 45 ∧ (x ≠ 48 ∨ r = []))) (hd : ∀ b ∈ x :: r, isDig b) (w : World) :
    Calls Try.prog 94 #[.string ⟨l.toArray⟩] w (RetRd (sgnOf sg (dv ((x :: r).take 2000))) (dv ((x :: r).take 2000)) true w) := by
  obtain ⟨W0, hW0⟩ : ∃ W0 : World, w.alloc (.cells #[.int .i64 0, .slice none 0 0] 24) = W0 := ⟨_, rfl⟩
  obtain ⟨p2, p3, p4⟩ := one_box w 24 #[.int .i64 0, .slice none 0 0]
  rw [hW0] at p2 p3 p4
  have HW0 := Lib.hid hW0
  have P3 := Lib.hid p3
  have P4 := Lib.hid p4
  have SR := Lib.hid (show ∀ W, Below W0.heap.size W0 W → (W.cell? ⟨w.heap.size, 0, none⟩ = some (.int .i64 0) ∧ W.cell? ⟨w.heap.size, 1, none⟩ = some (.slice none 0 0) ∧ W.frozen? ⟨w.heap.size, 0, none⟩ = false ∧ W.frozen? ⟨w.heap.size, 1, none⟩ = false) from
    fun W hW => (p2.below hW).two)
  have hT : Below W0.heap.size W0 W0 := Below.refl _ _
  have HD := Lib.hid hd
  obtain ⟨m, hm⟩ : ∃ m, m = min ((x :: r).length) 2000 := ⟨_, rfl⟩
  have hlr : r.length + 1 ≤ 1048576 := by
    rcases hcut with ⟨rfl, _⟩ | ⟨rfl, _⟩ <;> simp at hl <;> omega
  have HM := Lib.hid (show m = min (r.length + 1) 2000 by rw [hm]; rfl)
  have HTK := Lib.hid (show (x :: r).take m = (x :: r).take 2000 by
    rw [hm]
    by_cases h : (x :: r).length ≤ 2000
    · rw [Nat.min_eq_left h, List.take_of_length_le (Nat.le_refl _), List.take_of_length_le h]
    · rw [Nat.min_eq_right (by omega)])
  have hmI : (m : Int) ≤ (r.length : Int) + 1 := by have := HM.out; omega
  clear p2 p3 p4 hW0 hd hm
  have hposI : (0 : Int) < (r.length : Int) + 1 := by omega
  have hrI : (r.length : Int) ≤ 1048576 := by omega
  have HLR := Lib.hid hlr
  clear hlr hl
  rcases hcut with ⟨rfl, rfl, hx48⟩ | ⟨rfl, rfl, hx45, hx48⟩
  · have hx2 := extract_tail 45 (x :: r) (r.length + 2) rfl
    have hb48 : (x == 48) = false := by simpa using hx48
    have hn48 : ((x.toNat : Int) == 48) = false := beq_eq_false_iff_ne.2 (fun h => hx48 (UInt8.toNat_inj.1 (by
      have : (48 : UInt8).toNat = 48 := rfl
      omega)))
    have hpos2 : (1 : Int) ≤ (r.length : Int) + 1 + 1 := by omega
    have hg : (({ data := ((45 : UInt8) :: x :: r).toArray } : ByteArray)[0]'(by simp [ByteArray.size])).toNat = 45 := rfl
    have hg2 : (({ data := (x :: r).toArray } : ByteArray)[0]'(by simp [ByteArray.size])).toNat = x.toNat := rfl
    go_enter Try.func94, Try.ntmps94
    go_wp2
    rw [HW0.out]
    go_loop [6] (fun i => ∃ k : Nat, k ≤ (x :: r).length ∧ i = .int .i64 (k : Int)) (fun i => (x :: r).length - (intOf i).toNat)
    case atStart => exact ⟨0, Nat.zero_le _, rfl⟩
    case round =>
      obtain ⟨k, hk, rfl⟩ := hrel
      by_cases hkl : k < (x :: r).length
      · have hdg := HD.out _ (List.getElem_mem hkl)
        unfold isDig at hdg
        obtain ⟨d, hdd⟩ : ∃ d : Nat, d = (x :: r)[k].toNat := ⟨_, rfl⟩
        have hgk : ∀ h : k < ({ data := (x :: r).toArray } : ByteArray).size, (({ data := (x :: r).toArray } : ByteArray)[k]'h).toNat = d := fun _ => hdd.symm
        rw [← hdd] at hdg
        have hkI : (k : Int) < (r.length : Int) + 1 := by simp at hkl; omega
        have h48I : decide ((d : Int) < 48) = false := decide_eq_false (by omega)
        have h57I : decide ((57 : Int) < (d : Int)) = false := decide_eq_false (by omega)
        have HK := Lib.hid hkl
        clear hdd hdg hk hkl
        go_wp2
        go_round
        case rel => exact ⟨k + 1, HK.out, by go_num⟩
        case measure => have := HK.out; simp [intOf]; simp at this; omega
      · obtain rfl : k = r.length + 1 := by simp at hkl hk; omega
        clear hk hkl
        have hdd : decide ((r.length : Int) + 1 < (r.length : Int) + 1) = false := decide_eq_false (by omega)
        go_wp2
        go_loopw [8, 7] (fun i v wr => ∃ (k N : Nat), k ≤ m ∧ i = .int .i64 (k : Int) ∧ Hid (N = dv ((x :: r).take k)) ∧ Hid (OwnV wr W0.heap.size v (lim N)) ∧ Hid (Below W0.heap.size W0 wr)) (fun i _ _ => m - (intOf i).toNat)
        case atStart => exact ⟨0, 0, Nat.zero_le _, rfl, Lib.hid rfl, Lib.hid (by rw [lim_zero]; exact OwnV.empty W0 _ (Nat.le_refl _)), Lib.hid (hT.alloc (Nat.le_refl _) _)⟩
        case round =>
          obtain ⟨k, N, hk, rfl, HN, HO, HB⟩ := hrel
          by_cases hkm : k < m
          · have hkl : k < (x :: r).length := by have := HM.out; simp; omega
            obtain ⟨d, hd10, hdx, hdv⟩ := dv_digit hkl (HD.out _ (List.getElem_mem hkl))
            have hgk : ∀ h : k < ({ data := (x :: r).toArray } : ByteArray).size, (({ data := (x :: r).toArray } : ByteArray)[k]'h).toNat = d + 48 := fun _ => hdx
            have HNN := Lib.hid (show N * 10 + d = dv ((x :: r).take (k + 1)) by rw [hdv, HN.out])
            have hkI : (k : Int) < (r.length : Int) + 1 := by simp at hkl; omega
            have hk2 : (k : Int) < 2000 := by have := HM.out; omega
            obtain ⟨a, c1, rfl, hc1, hc2, ho⟩ := OwnV.parts HO.out
            have HC1 := Lib.hid hc1
            have hlN : (lim N).length ≤ 1000 := by
              rw [HN.out]
              exact dv_lim (fun b hb => HD.out b (List.mem_of_mem_take hb)) (by rw [List.length_take]; omega)
            have hlNI : ((lim N).length : Int) ≤ 1000 := by omega
            have HLN := Lib.hid hlN
            obtain ⟨db, hdb⟩ : ∃ db : Nat, db = d + 48 := ⟨_, rfl⟩
            rw [← hdb] at hgk
            have hdI : (d : Int) < 10 := by omega
            have hw3 : IntKind.u8.wrap ((db : Int) - 48) = (d : Int) := by rw [IntKind.wrap_u8]; omega
            have hw5 : wrap64 (d : Int) = (d : Int) := by unfold wrap64; omega
            have HD10 := Lib.hid hd10
            have HKM := Lib.hid hkm
            clear hdx hdv hkl hkm hk hc1 hc2 ho hlN hdb hd10
            have hdd2 : True := trivial
            go_wp2
            go_loopw [10, 9] (fun j q wr2 => ∃ (t : Nat) (L : List Nat) (cr : Nat), t ≤ (lim N).length ∧ j = .int .i64 (t : Int) ∧ q = .int .i64 (cr : Int) ∧ Hid (ExtInv (dig N) L 10 d cr t) ∧ Hid (OwnV wr2 W0.heap.size (.slice a (lim N).length c1) (ofN L)) ∧ Hid (Below W0.heap.size W0 wr2)) (fun j _ _ => (lim N).length - (intOf j).toNat)
            case atStart => exact ⟨0, dig N, d, Nat.zero_le _, rfl, rfl, Lib.hid (extInv_start (small_dig N) HD10.out), Lib.hid HO.out, Lib.hid HB.out⟩
            case round =>
              obtain ⟨t, L, cr, ht, rfl, rfl, HI, HW, HBB⟩ := hrel
              have hll : L.length = (lim N).length := by rw [HI.out.len, lim_length]
              by_cases htn : t < (lim N).length
              · have htL : t < L.length := by rw [hll]; exact htn
                have hst := extInv_step HI.out htL
                have hxb := HI.out.small t htL
                have hcb := HI.out.hi
                obtain ⟨y, hy⟩ : ∃ y, y = L[t] := ⟨_, rfl⟩
                rw [← hy] at hst hxb
                obtain ⟨g, cap, ea, hr1, hr2⟩ := World.ownsRow.form HW.out (by rw [ofN_length]; omega)
                injection ea with ea1 ea2 ea3
                subst ea1
                have hOV := Lib.hid (show OwnV wr W0.heap.size (.slice (some ⟨g, 0, none⟩) L.length c1) (ofN L) from by have := HW.out; rwa [← hll] at this)
                have hcell : wr.cell? ⟨g, t, none⟩ = some (.int .i64 (y : Int)) := by
                  have h := World.ownsRow.cellAt (w := wr) (base := W0.heap.size) (e := 2) (size := 1) (g := g) (n := (ofN L).length) (cap := c1) (xs := (ofN L).map (Value.int .i64)) (by have := hOV.out; unfold OwnV at this; rw [ofN_length] at this ⊢; exact this) t (by rw [ofN_length]; omega)
                  rw [h, List.getElem?_map, List.getElem?_eq_getElem (by rw [ofN_length]; exact htL), ofN_at, hy]
                  rfl
                have hfr : wr.frozen? ⟨g, t, none⟩ = false := World.ownsRow.frozenAt (w := wr) (base := W0.heap.size) (e := 2) (size := 1) (g := g) (n := (ofN L).length) (cap := c1) (xs := (ofN L).map (Value.int .i64)) (by have := hOV.out; unfold OwnV at this; rw [ofN_length] at this ⊢; exact this) t
                rw [Nat.mul_comm y 10] at hst
                have HSET := Lib.hid (OwnV.set hOV.out t ((cr + 10 * y) % 16777216))
                have HSTP := Lib.hid hst
                have HGR := Lib.hid hr1
                have HLS := Lib.hid hll
                have HTN := Lib.hid htn
                have htI : (t : Int) < ((lim N).length : Int) := by omega
                have hcr : (cr : Int) ≤ 9 := by omega
                have hyb : (y : Int) < 16777216 := by omega
                have HE1 := Lib.hid (show (((cr + 10 * y) % 16777216 : Nat) : Int) = ((cr : Int) + 10 * (y : Int)) % 16777216 by rw [Int.natCast_emod, Int.natCast_add, Int.natCast_mul]; rfl)
                have HE2 := Lib.hid (show ((cr : Int) + 10 * (y : Int)) / 16777216 = (((cr + 10 * y) / 16777216 : Nat) : Int) by rw [Int.natCast_ediv, Int.natCast_add, Int.natCast_mul]; rfl)
                clear hst hxb hcb hy htL hll hr1 hr2 ea2 ea3 hOV HI ht htn
                go_wp2
                go_roundw
                case rel =>
                  have e := HSET.out
                  rw [HE1.out] at e
                  refine ⟨t + 1, _, (cr + 10 * y) / 16777216, HTN.out, by go_num, congrArg (Value.int .i64) HE2.out, HSTP, Lib.hid ?_, Lib.hid (HBB.out.setCell (p := ⟨g, t, none⟩) HGR.out (.int .i64 (((cr : Int) + 10 * (y : Int)) % 16777216)))⟩
                  have hls := HLS.out
                  rw [List.length_set, hls] at e
                  exact e
                case measure =>
                  have := HTN.out
                  simp [intOf]
                  omega
              · obtain rfl : t = (lim N).length := by omega
                have hdg : L ++ dig cr = dig (N * 10 + d) := extInv_dig (by have := HI.out; rwa [← hll] at this) (by omega)
                have hcb := HI.out.hi
                have hdd3 : decide (((lim N).length : Int) < ((lim N).length : Int)) = false := decide_eq_false (by omega)
                by_cases hc0 : cr = 0
                · subst hc0
                  have HEQ := Lib.hid (show ofN L = lim (N * 10 + d) by rw [lim, ← hdg, dig_zero, List.append_nil])
                  clear hdg hcb HI hll ht htn
                  go_wp2
                  go_roundw
                  case rel => exact ⟨k + 1, N * 10 + d, HKM.out, by go_num, HNN, Lib.hid (by rw [← HEQ.out]; exact HW.out), HBB⟩
                  case measure => have := HKM.out; simp [intOf]; omega
                · have HEQ := Lib.hid (show ofN L ++ [(cr : Int)] = lim (N * 10 + d) by rw [lim, ← hdg, dig_one hc0 (by omega), ofN_append]; rfl)
                  have hcp : (0 : Int) < (cr : Int) := by omega
                  have HSZ := Lib.hid (show W0.heap.size ≤ wr.heap.size from HBB.out.size)
                  have HLL := Lib.hid hll
                  clear hdg hcb HI hll ht htn hc0
                  go_wp2_with (at_builtin; refine wp_app1 rfl _ _ 22 rfl Try.underlying22 wr (cr : Int) rfl W0.heap.size _ (ofN L) HW.out rfl rfl (by rw [ofN_length, HLL.out]; have := HLN.out; omega) HSZ.out ?_; intro v' w' hown hb hs; have OW2 := Lib.hid hown; have HB2 := Lib.hid (hb W0.heap.size HSZ.out (Nat.le_refl _)); clear hown hb)
                  go_roundw
                  case rel => exact ⟨k + 1, N * 10 + d, HKM.out, by go_num, HNN, Lib.hid (by rw [← HEQ.out]; exact OW2.out), Lib.hid (HBB.out.trans HB2.out)⟩
                  case measure => have := HKM.out; simp [intOf]; omega
          · obtain rfl : k = m := by omega
            have hNe : N = dv ((x :: r).take 2000) := by rw [HN.out, HTK.out]
            obtain ⟨a, c1, rfl, hc1, hc2, ho⟩ := OwnV.parts HO.out
            have hlN : (lim N).length ≤ 1000 := by
              rw [HN.out]
              exact dv_lim (fun b hb => HD.out b (List.mem_of_mem_take hb)) (by have := HM.out; rw [List.length_take]; omega)
            have HMK := Lib.hid (show Calls Try.prog 130 #[.int .i64 (-1), .slice a (lim N).length c1] wr fun e w' => ∃ a c, e = .returned (.agg #[.int .i64 (sgnOf (-1) N), .slice a (lim N).length c]) ∧ (lim N).length ≤ c ∧ Own w' W0.heap.size a (lim N) ∧ Below W0.heap.size W0 w' from
              (sMakeL (-1) a N c1 wr wr.heap.size (Nat.le_refl _) ho.ints hc1 (by omega)).mono fun e w' ⟨a, c, he, hc, ho, hb⟩ => ⟨a, c, he, hc, ho.mono HB.out.size, HB.out.trans (hb.mono HB.out.size)⟩)
            obtain ⟨z, hz⟩ : ∃ z, z = sgnOf (-1) N := ⟨_, rfl⟩
            rw [← hz] at HMK
            have HZ := Lib.hid hz
            have HNE := Lib.hid hNe
            have HKK := Lib.hid HM.out
            clear hNe hz hc1 hc2 ho hlN hkm hk HN HO hmI
            rcases Nat.lt_or_ge r.length 2000 with hr2 | hr2
            · have hkd : decide ((k : Int) < (r.length : Int) + 1) = false := decide_eq_false (by have := HKK.out; omega)
              clear hr2
              go_wp2_with fail
              refine HMK.out.mono ?_
              rintro e w2 ⟨a2, c2, rfl, hc2, ho2, hb2⟩
              have HC := Lib.hid hc2
              have HO := Lib.hid ho2
              clear hc2 ho2
              obtain ⟨q1, q2, q3, q4⟩ := SR.out _ hb2
              go_wp2_with fail
              refine bodyPost_ret (v := .tuple #[.agg #[.int .i64 z, .slice a2 (lim N).length c2], .bool true]) (by simp [results, Try.results94, go_sem, *]) rfl ?_
              rw [← HNE.out, ← HZ.out]
              exact retRd_yes P3.out P4.out hb2 _ _ HO.out HC.out
            · have hkd : (k : Int) < (r.length : Int) + 1 := by have := HKK.out; omega
              have hkd2 : decide ((k : Int) < 2000) = false := decide_eq_false (by have := HKK.out; omega)
              clear hr2
              go_wp2_with fail
              refine HMK.out.mono ?_
              rintro e w2 ⟨a2, c2, rfl, hc2, ho2, hb2⟩
              have HC := Lib.hid hc2
              have HO := Lib.hid ho2
              clear hc2 ho2
              obtain ⟨q1, q2, q3, q4⟩ := SR.out _ hb2
              go_wp2_with fail
              refine bodyPost_ret (v := .tuple #[.agg #[.int .i64 z, .slice a2 (lim N).length c2], .bool true]) (by simp [results, Try.results94, go_sem, *]) rfl ?_
              rw [← HNE.out, ← HZ.out]
              exact retRd_yes P3.out P4.out hb2 _ _ HO.out HC.out
  · have hb45 : (x == 45) = false := by simpa using hx45
    have hg2 : (({ data := (x :: r).toArray } : ByteArray)[0]'(by simp [ByteArray.size])).toNat = x.toNat := rfl
    by_cases hx : x = 48
    · have hr : r = [] := by
        rcases hx48 with h | h
        · exact absurd hx h
        · exact h
      have hb48 : (x == 48) = true := by simpa using hx
      have hn48 : ((x.toNat : Int) == 48) = true := by rw [hx]; rfl
      have hr1I : decide ((1 : Int) < (r.length : Int) + 1) = false := by rw [hr]; rfl
      clear hr hx hx48
      go_enter Try.func94, Try.ntmps94
      go_wp2
      rw [HW0.out]
      go_loop [6] (fun i => ∃ k : Nat, k ≤ (x :: r).length ∧ i = .int .i64 (k : Int)) (fun i => (x :: r).length - (intOf i).toNat)
      case atStart => exact ⟨0, Nat.zero_le _, rfl⟩
      case round =>
        obtain ⟨k, hk, rfl⟩ := hrel
        by_cases hkl : k < (x :: r).length
        · have hdg := HD.out _ (List.getElem_mem hkl)
          unfold isDig at hdg
          obtain ⟨d, hdd⟩ : ∃ d : Nat, d = (x :: r)[k].toNat := ⟨_, rfl⟩
          have hgk : ∀ h : k < ({ data := (x :: r).toArray } : ByteArray).size, (({ data := (x :: r).toArray } : ByteArray)[k]'h).toNat = d := fun _ => hdd.symm
          rw [← hdd] at hdg
          have hkI : (k : Int) < (r.length : Int) + 1 := by simp at hkl; omega
          have h48I : decide ((d : Int) < 48) = false := decide_eq_false (by omega)
          have h57I : decide ((57 : Int) < (d : Int)) = false := decide_eq_false (by omega)
          have HK := Lib.hid hkl
          clear hdd hdg hk hkl
          go_wp2
          go_round
          case rel => exact ⟨k + 1, HK.out, by go_num⟩
          case measure => have := HK.out; simp [intOf]; simp at this; omega
        · obtain rfl : k = r.length + 1 := by simp at hkl hk; omega
          clear hk hkl
          have hdd : decide ((r.length : Int) + 1 < (r.length : Int) + 1) = false := decide_eq_false (by omega)
          go_wp2
          go_loopw [8, 7] (fun i v wr => ∃ (k N : Nat), k ≤ m ∧ i = .int .i64 (k : Int) ∧ Hid (N = dv ((x :: r).take k)) ∧ Hid (OwnV wr W0.heap.size v (lim N)) ∧ Hid (Below W0.heap.size W0 wr)) (fun i _ _ => m - (intOf i).toNat)
          case atStart => exact ⟨0, 0, Nat.zero_le _, rfl, Lib.hid rfl, Lib.hid (by rw [lim_zero]; exact OwnV.empty W0 _ (Nat.le_refl _)), Lib.hid (hT.alloc (Nat.le_refl _) _)⟩
          case round =>
            obtain ⟨k, N, hk, rfl, HN, HO, HB⟩ := hrel
            by_cases hkm : k < m
            · have hkl : k < (x :: r).length := by have := HM.out; simp; omega
              obtain ⟨d, hd10, hdx, hdv⟩ := dv_digit hkl (HD.out _ (List.getElem_mem hkl))
              have hgk : ∀ h : k < ({ data := (x :: r).toArray } : ByteArray).size, (({ data := (x :: r).toArray } : ByteArray)[k]'h).toNat = d + 48 := fun _ => hdx
              have HNN := Lib.hid (show N * 10 + d = dv ((x :: r).take (k + 1)) by rw [hdv, HN.out])
              have hkI : (k : Int) < (r.length : Int) + 1 := by simp at hkl; omega
              have hk2 : (k : Int) < 2000 := by have := HM.out; omega
              obtain ⟨a, c1, rfl, hc1, hc2, ho⟩ := OwnV.parts HO.out
              have HC1 := Lib.hid hc1
              have hlN : (lim N).length ≤ 1000 := by
                rw [HN.out]
                exact dv_lim (fun b hb => HD.out b (List.mem_of_mem_take hb)) (by rw [List.length_take]; omega)
              have hlNI : ((lim N).length : Int) ≤ 1000 := by omega
              have HLN := Lib.hid hlN
              obtain ⟨db, hdb⟩ : ∃ db : Nat, db = d + 48 := ⟨_, rfl⟩
              rw [← hdb] at hgk
              have hdI : (d : Int) < 10 := by omega
              have hw3 : IntKind.u8.wrap ((db : Int) - 48) = (d : Int) := by rw [IntKind.wrap_u8]; omega
              have hw5 : wrap64 (d : Int) = (d : Int) := by unfold wrap64; omega
              have HD10 := Lib.hid hd10
              have HKM := Lib.hid hkm
              clear hdx hdv hkl hkm hk hc1 hc2 ho hlN hdb hd10
              have hdd2 : True := trivial
              go_wp2
              go_loopw [10, 9] (fun j q wr2 => ∃ (t : Nat) (L : List Nat) (cr : Nat), t ≤ (lim N).length ∧ j = .int .i64 (t : Int) ∧ q = .int .i64 (cr : Int) ∧ Hid (ExtInv (dig N) L 10 d cr t) ∧ Hid (OwnV wr2 W0.heap.size (.slice a (lim N).length c1) (ofN L)) ∧ Hid (Below W0.heap.size W0 wr2)) (fun j _ _ => (lim N).length - (intOf j).toNat)
              case atStart => exact ⟨0, dig N, d, Nat.zero_le _, rfl, rfl, Lib.hid (extInv_start (small_dig N) HD10.out), Lib.hid HO.out, Lib.hid HB.out⟩
              case round =>
                obtain ⟨t, L, cr, ht, rfl, rfl, HI, HW, HBB⟩ := hrel
                have hll : L.length = (lim N).length := by rw [HI.out.len, lim_length]
                by_cases htn : t < (lim N).length
                · have htL : t < L.length := by rw [hll]; exact htn
                  have hst := extInv_step HI.out htL
                  have hxb := HI.out.small t htL
                  have hcb := HI.out.hi
                  obtain ⟨y, hy⟩ : ∃ y, y = L[t] := ⟨_, rfl⟩
                  rw [← hy] at hst hxb
                  obtain ⟨g, cap, ea, hr1, hr2⟩ := World.ownsRow.form HW.out (by rw [ofN_length]; omega)
                  injection ea with ea1 ea2 ea3
                  subst ea1
                  have hOV := Lib.hid (show OwnV wr W0.heap.size (.slice (some ⟨g, 0, none⟩) L.length c1) (ofN L) from by have := HW.out; rwa [← hll] at this)
                  have hcell : wr.cell? ⟨g, t, none⟩ = some (.int .i64 (y : Int)) := by
                    have h := World.ownsRow.cellAt (w := wr) (base := W0.heap.size) (e := 2) (size := 1) (g := g) (n := (ofN L).length) (cap := c1) (xs := (ofN L).map (Value.int .i64)) (by have := hOV.out; unfold OwnV at this; rw [ofN_length] at this ⊢; exact this) t (by rw [ofN_length]; omega)
                    rw [h, List.getElem?_map, List.getElem?_eq_getElem (by rw [ofN_length]; exact htL), ofN_at, hy]
                    rfl
                  have hfr : wr.frozen? ⟨g, t, none⟩ = false := World.ownsRow.frozenAt (w := wr) (base := W0.heap.size) (e := 2) (size := 1) (g := g) (n := (ofN L).length) (cap := c1) (xs := (ofN L).map (Value.int .i64)) (by have := hOV.out; unfold OwnV at this; rw [ofN_length] at this ⊢; exact this) t
                  rw [Nat.mul_comm y 10] at hst
                  have HSET := Lib.hid (OwnV.set hOV.out t ((cr + 10 * y) % 16777216))
                  have HSTP := Lib.hid hst
                  have HGR := Lib.hid hr1
                  have HLS := Lib.hid hll
                  have HTN := Lib.hid htn
                  have htI : (t : Int) < ((lim N).length : Int) := by omega
                  have hcr : (cr : Int) ≤ 9 := by omega
                  have hyb : (y : Int) < 16777216 := by omega
                  have HE1 := Lib.hid (show (((cr + 10 * y) % 16777216 : Nat) : Int) = ((cr : Int) + 10 * (y : Int)) % 16777216 by rw [Int.natCast_emod, Int.natCast_add, Int.natCast_mul]; rfl)
                  have HE2 := Lib.hid (show ((cr : Int) + 10 * (y : Int)) / 16777216 = (((cr + 10 * y) / 16777216 : Nat) : Int) by rw [Int.natCast_ediv, Int.natCast_add, Int.natCast_mul]; rfl)
                  clear hst hxb hcb hy htL hll hr1 hr2 ea2 ea3 hOV HI ht htn
                  go_wp2
                  go_roundw
                  case rel =>
                    have e := HSET.out
                    rw [HE1.out] at e
                    refine ⟨t + 1, _, (cr + 10 * y) / 16777216, HTN.out, by go_num, congrArg (Value.int .i64) HE2.out, HSTP, Lib.hid ?_, Lib.hid (HBB.out.setCell (p := ⟨g, t, none⟩) HGR.out (.int .i64 (((cr : Int) + 10 * (y : Int)) % 16777216)))⟩
                    have hls := HLS.out
                    rw [List.length_set, hls] at e
                    exact e
                  case measure =>
                    have := HTN.out
                    simp [intOf]
                    omega
                · obtain rfl : t = (lim N).length := by omega
                  have hdg : L ++ dig cr = dig (N * 10 + d) := extInv_dig (by have := HI.out; rwa [← hll] at this) (by omega)
                  have hcb := HI.out.hi
                  have hdd3 : decide (((lim N).length : Int) < ((lim N).length : Int)) = false := decide_eq_false (by omega)
                  by_cases hc0 : cr = 0
                  · subst hc0
                    have HEQ := Lib.hid (show ofN L = lim (N * 10 + d) by rw [lim, ← hdg, dig_zero, List.append_nil])
                    clear hdg hcb HI hll ht htn
                    go_wp2
                    go_roundw
                    case rel => exact ⟨k + 1, N * 10 + d, HKM.out, by go_num, HNN, Lib.hid (by rw [← HEQ.out]; exact HW.out), HBB⟩
                    case measure => have := HKM.out; simp [intOf]; omega
                  · have HEQ := Lib.hid (show ofN L ++ [(cr : Int)] = lim (N * 10 + d) by rw [lim, ← hdg, dig_one hc0 (by omega), ofN_append]; rfl)
                    have hcp : (0 : Int) < (cr : Int) := by omega
                    have HSZ := Lib.hid (show W0.heap.size ≤ wr.heap.size from HBB.out.size)
                    have HLL := Lib.hid hll
                    clear hdg hcb HI hll ht htn hc0
                    go_wp2_with (at_builtin; refine wp_app1 rfl _ _ 22 rfl Try.underlying22 wr (cr : Int) rfl W0.heap.size _ (ofN L) HW.out rfl rfl (by rw [ofN_length, HLL.out]; have := HLN.out; omega) HSZ.out ?_; intro v' w' hown hb hs; have OW2 := Lib.hid hown; have HB2 := Lib.hid (hb W0.heap.size HSZ.out (Nat.le_refl _)); clear hown hb)
                    go_roundw
                    case rel => exact ⟨k + 1, N * 10 + d, HKM.out, by go_num, HNN, Lib.hid (by rw [← HEQ.out]; exact OW2.out), Lib.hid (HBB.out.trans HB2.out)⟩
                    case measure => have := HKM.out; simp [intOf]; omega
            · obtain rfl : k = m := by omega
              have hNe : N = dv ((x :: r).take 2000) := by rw [HN.out, HTK.out]
              obtain ⟨a, c1, rfl, hc1, hc2, ho⟩ := OwnV.parts HO.out
              have hlN : (lim N).length ≤ 1000 := by
                rw [HN.out]
                exact dv_lim (fun b hb => HD.out b (List.mem_of_mem_take hb)) (by have := HM.out; rw [List.length_take]; omega)
              have HMK := Lib.hid (show Calls Try.prog 130 #[.int .i64 1, .slice a (lim N).length c1] wr fun e w' => ∃ a c, e = .returned (.agg #[.int .i64 (sgnOf 1 N), .slice a (lim N).length c]) ∧ (lim N).length ≤ c ∧ Own w' W0.heap.size a (lim N) ∧ Below W0.heap.size W0 w' from
                (sMakeL 1 a N c1 wr wr.heap.size (Nat.le_refl _) ho.ints hc1 (by omega)).mono fun e w' ⟨a, c, he, hc, ho, hb⟩ => ⟨a, c, he, hc, ho.mono HB.out.size, HB.out.trans (hb.mono HB.out.size)⟩)
              obtain ⟨z, hz⟩ : ∃ z, z = sgnOf 1 N := ⟨_, rfl⟩
              rw [← hz] at HMK
              have HZ := Lib.hid hz
              have HNE := Lib.hid hNe
              have HKK := Lib.hid HM.out
              clear hNe hz hc1 hc2 ho hlN hkm hk HN HO hmI
              rcases Nat.lt_or_ge r.length 2000 with hr2 | hr2
              · have hkd : decide ((k : Int) < (r.length : Int) + 1) = false := decide_eq_false (by have := HKK.out; omega)
                clear hr2
                go_wp2_with fail
                refine HMK.out.mono ?_
                rintro e w2 ⟨a2, c2, rfl, hc2, ho2, hb2⟩
                have HC := Lib.hid hc2
                have HO := Lib.hid ho2
                clear hc2 ho2
                obtain ⟨q1, q2, q3, q4⟩ := SR.out _ hb2
                go_wp2_with fail
                refine bodyPost_ret (v := .tuple #[.agg #[.int .i64 z, .slice a2 (lim N).length c2], .bool true]) (by simp [results, Try.results94, go_sem, *]) rfl ?_
                rw [← HNE.out, ← HZ.out]
                exact retRd_yes P3.out P4.out hb2 _ _ HO.out HC.out
              · have hkd : (k : Int) < (r.length : Int) + 1 := by have := HKK.out; omega
                have hkd2 : decide ((k : Int) < 2000) = false := decide_eq_false (by have := HKK.out; omega)
                clear hr2
                go_wp2_with fail
                refine HMK.out.mono ?_
                rintro e w2 ⟨a2, c2, rfl, hc2, ho2, hb2⟩
                have HC := Lib.hid hc2
                have HO := Lib.hid ho2
                clear hc2 ho2
                obtain ⟨q1, q2, q3, q4⟩ := SR.out _ hb2
                go_wp2_with fail
                refine bodyPost_ret (v := .tuple #[.agg #[.int .i64 z, .slice a2 (lim N).length c2], .bool true]) (by simp [results, Try.results94, go_sem, *]) rfl ?_
                rw [← HNE.out, ← HZ.out]
                exact retRd_yes P3.out P4.out hb2 _ _ HO.out HC.out
    · have hb48 : (x == 48) = false := by simpa using hx
      have hn48 : ((x.toNat : Int) == 48) = false := beq_eq_false_iff_ne.2 (fun h => hx (UInt8.toNat_inj.1 (by
        have : (48 : UInt8).toNat = 48 := rfl
        omega)))
      have hn45 : ((x.toNat : Int) == 45) = false := beq_eq_false_iff_ne.2 (fun h => hx45 (UInt8.toNat_inj.1 (by
        have : (45 : UInt8).toNat = 45 := rfl
        omega)))
      clear hx48
      go_enter Try.func94, Try.ntmps94
      go_wp2
      rw [HW0.out]
      go_loop [6] (fun i => ∃ k : Nat, k ≤ (x :: r).length ∧ i = .int .i64 (k : Int)) (fun i => (x :: r).length - (intOf i).toNat)
      case atStart => exact ⟨0, Nat.zero_le _, rfl⟩
      case round =>
        obtain ⟨k, hk, rfl⟩ := hrel
        by_cases hkl : k < (x :: r).length
        · have hdg := HD.out _ (List.getElem_mem hkl)
          unfold isDig at hdg
          obtain ⟨d, hdd⟩ : ∃ d : Nat, d = (x :: r)[k].toNat := ⟨_, rfl⟩
          have hgk : ∀ h : k < ({ data := (x :: r).toArray } : ByteArray).size, (({ data := (x :: r).toArray } : ByteArray)[k]'h).toNat = d := fun _ => hdd.symm
          rw [← hdd] at hdg
          have hkI : (k : Int) < (r.length : Int) + 1 := by simp at hkl; omega
          have h48I : decide ((d : Int) < 48) = false := decide_eq_false (by omega)
          have h57I : decide ((57 : Int) < (d : Int)) = false := decide_eq_false (by omega)
          have HK := Lib.hid hkl
          clear hdd hdg hk hkl
          go_wp2
          go_round
          case rel => exact ⟨k + 1, HK.out, by go_num⟩
          case measure => have := HK.out; simp [intOf]; simp at this; omega
        · obtain rfl : k = r.length + 1 := by simp at hkl hk; omega
          clear hk hkl
          have hdd : decide ((r.length : Int) + 1 < (r.length : Int) + 1) = false := decide_eq_false (by omega)
          go_wp2
          go_loopw [8, 7] (fun i v wr => ∃ (k N : Nat), k ≤ m ∧ i = .int .i64 (k : Int) ∧ Hid (N = dv ((x :: r).take k)) ∧ Hid (OwnV wr W0.heap.size v (lim N)) ∧ Hid (Below W0.heap.size W0 wr)) (fun i _ _ => m - (intOf i).toNat)
          case atStart => exact ⟨0, 0, Nat.zero_le _, rfl, Lib.hid rfl, Lib.hid (by rw [lim_zero]; exact OwnV.empty W0 _ (Nat.le_refl _)), Lib.hid (hT.alloc (Nat.le_refl _) _)⟩
          case round =>
            obtain ⟨k, N, hk, rfl, HN, HO, HB⟩ := hrel
            by_cases hkm : k < m
            · have hkl : k < (x :: r).length := by have := HM.out; simp; omega
              obtain ⟨d, hd10, hdx, hdv⟩ := dv_digit hkl (HD.out _ (List.getElem_mem hkl))
              have hgk : ∀ h : k < ({ data := (x :: r).toArray } : ByteArray).size, (({ data := (x :: r).toArray } : ByteArray)[k]'h).toNat = d + 48 := fun _ => hdx
              have HNN := Lib.hid (show N * 10 + d = dv ((x :: r).take (k + 1)) by rw [hdv, HN.out])
              have hkI : (k : Int) < (r.length : Int) + 1 := by simp at hkl; omega
              have hk2 : (k : Int) < 2000 := by have := HM.out; omega
              obtain ⟨a, c1, rfl, hc1, hc2, ho⟩ := OwnV.parts HO.out
              have HC1 := Lib.hid hc1
              have hlN : (lim N).length ≤ 1000 := by
                rw [HN.out]
                exact dv_lim (fun b hb => HD.out b (List.mem_of_mem_take hb)) (by rw [List.length_take]; omega)
              have hlNI : ((lim N).length : Int) ≤ 1000 := by omega
              have HLN := Lib.hid hlN
              obtain ⟨db, hdb⟩ : ∃ db : Nat, db = d + 48 := ⟨_, rfl⟩
              rw [← hdb] at hgk
              have hdI : (d : Int) < 10 := by omega
              have hw3 : IntKind.u8.wrap ((db : Int) - 48) = (d : Int) := by rw [IntKind.wrap_u8]; omega
              have hw5 : wrap64 (d : Int) = (d : Int) := by unfold wrap64; omega
              have HD10 := Lib.hid hd10
              have HKM := Lib.hid hkm
              clear hdx hdv hkl hkm hk hc1 hc2 ho hlN hdb hd10
              have hdd2 : True := trivial
              go_wp2
              go_loopw [10, 9] (fun j q wr2 => ∃ (t : Nat) (L : List Nat) (cr : Nat), t ≤ (lim N).length ∧ j = .int .i64 (t : Int) ∧ q = .int .i64 (cr : Int) ∧ Hid (ExtInv (dig N) L 10 d cr t) ∧ Hid (OwnV wr2 W0.heap.size (.slice a (lim N).length c1) (ofN L)) ∧ Hid (Below W0.heap.size W0 wr2)) (fun j _ _ => (lim N).length - (intOf j).toNat)
              case atStart => exact ⟨0, dig N, d, Nat.zero_le _, rfl, rfl, Lib.hid (extInv_start (small_dig N) HD10.out), Lib.hid HO.out, Lib.hid HB.out⟩
              case round =>
                obtain ⟨t, L, cr, ht, rfl, rfl, HI, HW, HBB⟩ := hrel
                have hll : L.length = (lim N).length := by rw [HI.out.len, lim_length]
                by_cases htn : t < (lim N).length
                · have htL : t < L.length := by rw [hll]; exact htn
                  have hst := extInv_step HI.out htL
                  have hxb := HI.out.small t htL
                  have hcb := HI.out.hi
                  obtain ⟨y, hy⟩ : ∃ y, y = L[t] := ⟨_, rfl⟩
                  rw [← hy] at hst hxb
                  obtain ⟨g, cap, ea, hr1, hr2⟩ := World.ownsRow.form HW.out (by rw [ofN_length]; omega)
                  injection ea with ea1 ea2 ea3
                  subst ea1
                  have hOV := Lib.hid (show OwnV wr W0.heap.size (.slice (some ⟨g, 0, none⟩) L.length c1) (ofN L) from by have := HW.out; rwa [← hll] at this)
                  have hcell : wr.cell? ⟨g, t, none⟩ = some (.int .i64 (y : Int)) := by
                    have h := World.ownsRow.cellAt (w := wr) (base := W0.heap.size) (e := 2) (size := 1) (g := g) (n := (ofN L).length) (cap := c1) (xs := (ofN L).map (Value.int .i64)) (by have := hOV.out; unfold OwnV at this; rw [ofN_length] at this ⊢; exact this) t (by rw [ofN_length]; omega)
                    rw [h, List.getElem?_map, List.getElem?_eq_getElem (by rw [ofN_length]; exact htL), ofN_at, hy]
                    rfl
                  have hfr : wr.frozen? ⟨g, t, none⟩ = false := World.ownsRow.frozenAt (w := wr) (base := W0.heap.size) (e := 2) (size := 1) (g := g) (n := (ofN L).length) (cap := c1) (xs := (ofN L).map (Value.int .i64)) (by have := hOV.out; unfold OwnV at this; rw [ofN_length] at this ⊢; exact this) t
                  rw [Nat.mul_comm y 10] at hst
                  have HSET := Lib.hid (OwnV.set hOV.out t ((cr + 10 * y) % 16777216))
                  have HSTP := Lib.hid hst
                  have HGR := Lib.hid hr1
                  have HLS := Lib.hid hll
                  have HTN := Lib.hid htn
                  have htI : (t : Int) < ((lim N).length : Int) := by omega
                  have hcr : (cr : Int) ≤ 9 := by omega
                  have hyb : (y : Int) < 16777216 := by omega
                  have HE1 := Lib.hid (show (((cr + 10 * y) % 16777216 : Nat) : Int) = ((cr : Int) + 10 * (y : Int)) % 16777216 by rw [Int.natCast_emod, Int.natCast_add, Int.natCast_mul]; rfl)
                  have HE2 := Lib.hid (show ((cr : Int) + 10 * (y : Int)) / 16777216 = (((cr + 10 * y) / 16777216 : Nat) : Int) by rw [Int.natCast_ediv, Int.natCast_add, Int.natCast_mul]; rfl)
                  clear hst hxb hcb hy htL hll hr1 hr2 ea2 ea3 hOV HI ht htn
                  go_wp2
                  go_roundw
                  case rel =>
                    have e := HSET.out
                    rw [HE1.out] at e
                    refine ⟨t + 1, _, (cr + 10 * y) / 16777216, HTN.out, by go_num, congrArg (Value.int .i64) HE2.out, HSTP, Lib.hid ?_, Lib.hid (HBB.out.setCell (p := ⟨g, t, none⟩) HGR.out (.int .i64 (((cr : Int) + 10 * (y : Int)) % 16777216)))⟩
                    have hls := HLS.out
                    rw [List.length_set, hls] at e
                    exact e
                  case measure =>
                    have := HTN.out
                    simp [intOf]
                    omega
                · obtain rfl : t = (lim N).length := by omega
                  have hdg : L ++ dig cr = dig (N * 10 + d) := extInv_dig (by have := HI.out; rwa [← hll] at this) (by omega)
                  have hcb := HI.out.hi
                  have hdd3 : decide (((lim N).length : Int) < ((lim N).length : Int)) = false := decide_eq_false (by omega)
                  by_cases hc0 : cr = 0
                  · subst hc0
                    have HEQ := Lib.hid (show ofN L = lim (N * 10 + d) by rw [lim, ← hdg, dig_zero, List.append_nil])
                    clear hdg hcb HI hll ht htn
                    go_wp2
                    go_roundw
                    case rel => exact ⟨k + 1, N * 10 + d, HKM.out, by go_num, HNN, Lib.hid (by rw [← HEQ.out]; exact HW.out), HBB⟩
                    case measure => have := HKM.out; simp [intOf]; omega
                  · have HEQ := Lib.hid (show ofN L ++ [(cr : Int)] = lim (N * 10 + d) by rw [lim, ← hdg, dig_one hc0 (by omega), ofN_append]; rfl)
                    have hcp : (0 : Int) < (cr : Int) := by omega
                    have HSZ := Lib.hid (show W0.heap.size ≤ wr.heap.size from HBB.out.size)
                    have HLL := Lib.hid hll
                    clear hdg hcb HI hll ht htn hc0
                    go_wp2_with (at_builtin; refine wp_app1 rfl _ _ 22 rfl Try.underlying22 wr (cr : Int) rfl W0.heap.size _ (ofN L) HW.out rfl rfl (by rw [ofN_length, HLL.out]; have := HLN.out; omega) HSZ.out ?_; intro v' w' hown hb hs; have OW2 := Lib.hid hown; have HB2 := Lib.hid (hb W0.heap.size HSZ.out (Nat.le_refl _)); clear hown hb)
                    go_roundw
                    case rel => exact ⟨k + 1, N * 10 + d, HKM.out, by go_num, HNN, Lib.hid (by rw [← HEQ.out]; exact OW2.out), Lib.hid (HBB.out.trans HB2.out)⟩
                    case measure => have := HKM.out; simp [intOf]; omega
            · obtain rfl : k = m := by omega
              have hNe : N = dv ((x :: r).take 2000) := by rw [HN.out, HTK.out]
              obtain ⟨a, c1, rfl, hc1, hc2, ho⟩ := OwnV.parts HO.out
              have hlN : (lim N).length ≤ 1000 := by
                rw [HN.out]
                exact dv_lim (fun b hb => HD.out b (List.mem_of_mem_take hb)) (by have := HM.out; rw [List.length_take]; omega)
              have HMK := Lib.hid (show Calls Try.prog 130 #[.int .i64 1, .slice a (lim N).length c1] wr fun e w' => ∃ a c, e = .returned (.agg #[.int .i64 (sgnOf 1 N), .slice a (lim N).length c]) ∧ (lim N).length ≤ c ∧ Own w' W0.heap.size a (lim N) ∧ Below W0.heap.size W0 w' from
                (sMakeL 1 a N c1 wr wr.heap.size (Nat.le_refl _) ho.ints hc1 (by omega)).mono fun e w' ⟨a, c, he, hc, ho, hb⟩ => ⟨a, c, he, hc, ho.mono HB.out.size, HB.out.trans (hb.mono HB.out.size)⟩)
              obtain ⟨z, hz⟩ : ∃ z, z = sgnOf 1 N := ⟨_, rfl⟩
              rw [← hz] at HMK
              have HZ := Lib.hid hz
              have HNE := Lib.hid hNe
              have HKK := Lib.hid HM.out
              clear hNe hz hc1 hc2 ho hlN hkm hk HN HO hmI
              rcases Nat.lt_or_ge r.length 2000 with hr2 | hr2
              · have hkd : decide ((k : Int) < (r.length : Int) + 1) = false := decide_eq_false (by have := HKK.out; omega)
                clear hr2
                go_wp2_with fail
                refine HMK.out.mono ?_
                rintro e w2 ⟨a2, c2, rfl, hc2, ho2, hb2⟩
                have HC := Lib.hid hc2
                have HO := Lib.hid ho2
                clear hc2 ho2
                obtain ⟨q1, q2, q3, q4⟩ := SR.out _ hb2
                go_wp2_with fail
                refine bodyPost_ret (v := .tuple #[.agg #[.int .i64 z, .slice a2 (lim N).length c2], .bool true]) (by simp [results, Try.results94, go_sem, *]) rfl ?_
                rw [← HNE.out, ← HZ.out]
                exact retRd_yes P3.out P4.out hb2 _ _ HO.out HC.out
              · have hkd : (k : Int) < (r.length : Int) + 1 := by have := HKK.out; omega
                have hkd2 : decide ((k : Int) < 2000) = false := decide_eq_false (by have := HKK.out; omega)
                clear hr2
                go_wp2_with fail
                refine HMK.out.mono ?_
                rintro e w2 ⟨a2, c2, rfl, hc2, ho2, hb2⟩
                have HC := Lib.hid hc2
                have HO := Lib.hid ho2
                clear hc2 ho2
                obtain ⟨q1, q2, q3, q4⟩ := SR.out _ hb2
                go_wp2_with fail
                refine bodyPost_ret (v := .tuple #[.agg #[.int .i64 z, .slice a2 (lim N).length c2], .bool true]) (by simp [results, Try.results94, go_sem, *]) rfl ?_
                rw [← HNE.out, ← HZ.out]
                exact retRd_yes P3.out P4.out hb2 _ _ HO.out HC.out
end Go.Proofs.Ytpchcigpppdfiab
