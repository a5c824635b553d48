/-
  Contract: (*magnitude).extend. Conditions: the limbs lie in a row of their own.
-/
import Derived.Test.YtpchcigpppdfiabDc
import Derived.Test.YtpchcigpppdfiabVf
import Derived.Laws.OwnMore
import Derived.Deep.AppendLies
import Derived.Deep.RegionLaw
import Derived.BigRegion
namespace Go.Proofs.Ytpchcigpppdfiab
set_option linter.unusedVariables false
open Go Go.RowKit

theorem OwnV.set {w : World} {lo r c : Nat} {L : List Nat} (h : OwnV w lo (.slice (some ⟨r, 0, none⟩) L.length c) (ofN L)) (j x : Nat) :
    OwnV (w.setCell ⟨r, j, none⟩ (.int .i64 (x : Int))) lo (.slice (some ⟨r, 0, none⟩) (L.set j x).length c) (ofN (L.set j x)) := by
  have h' : w.ownsRow lo 2 1 (.slice (some ⟨r, 0, none⟩) L.length c) L.length ((ofN L).map (Value.int .i64)) := by
    have := h; unfold OwnV at this; rwa [ofN_length] at this
  have := (World.ownsRow.stored h' j (.int .i64 (x : Int))).1
  unfold OwnV
  rw [ofN_length, List.length_set, ← ofN_set, List.map_set]
  exact this
theorem OwnV.belowH {w w' : World} {lo : Nat} {v : Value} {xs : List Int} (h : OwnV w lo v xs) (hb : Below w.heap.size w w') : OwnV w' lo v xs :=
  World.ownsRow.kept h (grown_of_below hb none) (by cases e : v.ownBlock; exact .inl rfl; exact .inr (by simp))
theorem OwnV.ownBlock_ge {w : World} {lo : Nat} {v : Value} {xs : List Int} (h : OwnV w lo v xs) {g : Nat} (hg : g < lo) : some g ≠ v.ownBlock := fun e => by
  have := OwnV.lt h g e.symm
  omega
theorem OwnV.setBox {w : World} {lo : Nat} {v : Value} {xs : List Int} (h : OwnV w lo v xs) {g : Nat} (hg : g < lo) (u : Value) : OwnV (w.setCell ⟨g, 0, none⟩ u) lo v xs :=
  World.ownsRow.kept h (grown_set (grown_of_below (Below.refl _ _) (some g)) 0 u) (.inr (fun e => h.ownBlock_ge hg e.symm))
theorem ext_bounds {c x sc : Nat} (hc : c < sc) (hx : x < 16777216) (hs : sc ≤ 100000000000) : c + x * sc ≤ 9223372036854775807 ∧ x * sc ≤ 9223372036854775807 := by
  have h1 : x * sc ≤ 16777215 * 100000000000 := Nat.mul_le_mul (by omega) hs
  omega

set_option maxRecDepth 100000 in
theorem iMagOf0 (w : World) : Calls Try.prog 149 #[.int .u64 0] w fun e w' => e = .returned (.slice none 0 0) ∧ w = w' := by
  go_enter Try.func149, Try.ntmps149
  go_wp2
  go_loopw [0, 3] (fun q v wr => q = .int .u64 0 ∧ v = .slice none 0 0 ∧ w = wr) (fun q _ _ => (intOf q).toNat)
  case atStart => exact ⟨rfl, rfl, rfl⟩
  case round =>
    obtain ⟨rfl, rfl, rfl⟩ := hrel
    go_wp2
    go_ret
    exact ⟨rfl, rfl⟩
/-- Numbers are appended, at a step of a region that draws. -/
theorem step_appN {ops : Array Oper} {o : Oper} {a : Act} {K : Act → World → Prop} {Q : Exit → Act → World → Prop} {E : Prop} {w : World} (hgd : o.guard = none) (s x : Operand) (t : TypeId)
    (ho : o.op = .call { callee := .builtin .append, args := #[s, x], argTypes := #[t, t] }) (ht : Try.prog.underlying t = some (.slice 2))
    (lo : Nat) (v : Value) (xs : List Int) (hown : OwnV w lo v xs) (hs : a.eval s = v) (ad : Option Addr) (m c : Nat) (ys : List Int)
    (hx : a.eval x = .slice ad m c) (hm : m = ys.length) (h0 : 0 < ys.length) (B : Nat) (hy : Ints w B ad ys) (hlen : xs.length + ys.length ≤ 8388607) (hbase : lo ≤ w.heap.size)
    (h : ∀ v' w', OwnV w' lo v' (xs ++ ys) → w.grownBy w' v.ownBlock → K (a.put o.dst v') w') :
    if Region.wanted o (yielded ops a.tmps) = true then Oper.wp Try.prog o a w K Q else E := by
  obtain ⟨b, f, had, _, _⟩ := hy 0 h0
  subst had
  subst hm
  obtain ⟨i0, hi, hz0, hz1, hz2⟩ := info_parts info_i64
  refine step_append_lies _ hgd s x t ho lo 2 i0 (.int .i64 0) 1 8 ht hi hz0 hz1 hz2 rfl (by decide) v xs.length (xs.map (Value.int .i64)) hs hown ⟨b, f, none⟩ ys.length c (ys.map (Value.int .i64)) hx (by simp) ?_ (by intro u hu; simp at hu; obtain ⟨_, _, rfl⟩ := hu; rfl) h0 (by unfold maxLen; omega) (by omega) hbase _ rfl ?_
  · intro j u hu
    rw [List.getElem?_map, Option.map_eq_some_iff] at hu
    obtain ⟨y, hy', rfl⟩ := hu
    obtain ⟨hj, rfl⟩ := List.getElem?_eq_some_iff.1 hy'
    exact ints_add hy j hj
  · intro g cap w' h1 h2 _ _
    refine h _ w' ?_ h2
    unfold OwnV
    rw [List.length_append, List.map_append]
    exact h1
set_option maxRecDepth 100000 in
set_option maxHeartbeats 2000000 in
theorem iExtend (g N c1 sc v : Nat) (a : Option Addr) (w : World) (lo : Nat) (hg : g < lo) (hlo : lo ≤ w.heap.size) (hbox : BoxAt w g 109 #[.slice a (lim N).length c1]) (hown : OwnV w lo (.slice a (lim N).length c1) (lim N)) (hl : (lim N).length ≤ 1000) (h1 : 1 ≤ sc) (h2 : sc ≤ 100000000000) (hv : v < sc) :
    Calls Try.prog 133 #[.pointer (some ⟨g, 0, none⟩), .int .i64 (sc : Int), .int .i64 (v : Int)] w fun e w' => e = .returned (.tuple #[]) ∧ ∃ a' c', BoxAt w' g 109 #[.slice a' (lim (N * sc + v)).length c'] ∧ OwnV w' lo (.slice a' (lim (N * sc + v)).length c') (lim (N * sc + v)) ∧ Below g w w' := by
  have HLL := Lib.hid (lim_length N)
  have HB0 := Lib.hid hbox
  have HO0 := Lib.hid hown
  have hp := hbox.cell 0
  have hpf := hbox.frozen 0
  simp at hp
  have hmask := i64_mask24
  have scI : (sc : Int) ≤ 100000000000 := by omega
  have hl2 : ((lim N).length : Int) ≤ 1000 := by omega
  clear hbox hown
  go_enter Try.func133, Try.ntmps133
  go_wp2
  go_loopw [14, 6] (fun i q wr => ∃ (k : Nat) (L : List Nat) (cr : Nat), k ≤ (lim N).length ∧ i = .int .i64 (k : Int) ∧ q = .int .i64 (cr : Int) ∧ Hid (ExtInv (dig N) L sc v cr k) ∧ Hid (OwnV wr lo (.slice a (lim N).length c1) (ofN L)) ∧ BoxAt wr g 109 #[.slice a (lim N).length c1] ∧ Below lo w wr) (fun i _ _ => (lim N).length - (intOf i).toNat)
  case atStart => exact ⟨0, dig N, v, Nat.zero_le _, rfl, rfl, Lib.hid (extInv_start (small_dig N) hv), Lib.hid HO0.out, HB0.out, Below.refl _ _⟩
  case round =>
    obtain ⟨k, L, cr, hk, rfl, rfl, hinv, hown, hbox, hbel⟩ := hrel
    have HBX := Lib.hid hbox
    have HB := Lib.hid hbel
    have hp2 := hbox.cell 0
    have hpf2 := hbox.frozen 0
    simp at hp2
    have hll : L.length = (lim N).length := by rw [hinv.out.len, HLL.out]
    clear hbox hbel hp hpf
    by_cases hkn : k < (lim N).length
    · have hkL : k < L.length := by rw [hll]; exact hkn
      have hst := extInv_step hinv.out hkL
      obtain ⟨b1, b2⟩ := ext_bounds hinv.out.hi (hinv.out.small k hkL) h2
      obtain ⟨x, hx⟩ : ∃ x, x = L[k] := ⟨_, rfl⟩
      rw [← hx] at hst b1 b2
      obtain ⟨r, cap, ea, hr1, hr2⟩ := World.ownsRow.form hown.out (by rw [ofN_length]; omega)
      injection ea with ea1 ea2 ea3
      subst ea1
      have hOV := Lib.hid (show OwnV wr lo (.slice (some ⟨r, 0, none⟩) L.length c1) (ofN L) from by have := hown.out; rwa [← hll] at this)
      have hcell : wr.cell? ⟨r, k, none⟩ = some (.int .i64 (x : Int)) := by
        have h := World.ownsRow.cellAt (w := wr) (base := lo) (e := 2) (size := 1) (g := r) (n := (ofN L).length) (cap := c1) (xs := (ofN L).map (Value.int .i64)) (by have := hOV.out; unfold OwnV at this; rw [ofN_length] at this ⊢; exact this) k (by rw [ofN_length]; omega)
        rw [h, List.getElem?_map, List.getElem?_eq_getElem (by rw [ofN_length]; exact hkL), ofN_at, hx]
        rfl
      have hfr : wr.frozen? ⟨r, k, none⟩ = false := World.ownsRow.frozenAt (w := wr) (base := lo) (e := 2) (size := 1) (g := r) (n := (ofN L).length) (cap := c1) (xs := (ofN L).map (Value.int .i64)) (by have := hOV.out; unfold OwnV at this; rw [ofN_length] at this ⊢; exact this) k
      have HSET := Lib.hid (OwnV.set hOV.out k ((cr + x * sc) % 16777216))
      have HSTP := Lib.hid hst
      have HK := Lib.hid hk
      have hkI : (k : Int) < ((lim N).length : Int) := by omega
      obtain ⟨y, hy⟩ : ∃ y : Nat, y = x * sc := ⟨_, rfl⟩
      obtain ⟨t, ht⟩ : ∃ t : Nat, t = cr + y := ⟨_, rfl⟩
      rw [← hy] at b1 b2 HSET HSTP
      rw [← ht] at b1 HSET HSTP
      have hyI : (x : Int) * (sc : Int) = (y : Int) := by rw [hy]; simp
      have hw1 : wrap64 ((x : Int) * (sc : Int)) = (y : Int) := wrap64_nat hyI b2
      have hw2 : wrap64 ((cr : Int) + (y : Int)) = (t : Int) := wrap64_nat (by rw [ht]; simp) b1
      have htI : (t : Int) ≤ 9223372036854775807 := Int.ofNat_le.2 b1
      have hgr : g ≠ r := by omega
      have HGR := Lib.hid hr1
      have HLS := Lib.hid hll
      clear hinv hown hst b1 b2 hyI hx hy ht hll hkL hr1 hr2 ea2 ea3 hk HO0
      go_wp2
      go_roundw
      case rel =>
        have e := HSET.out
        rw [Int.natCast_emod] at e
        have hb6 := HB.out.setCell (p := ⟨r, k, none⟩) HGR.out (.int .i64 ((t : Int) % 16777216))
        refine ⟨k + 1, _, t / 16777216, by have := HK.out; omega, by go_num, by rw [Int.natCast_ediv]; rfl, HSTP, Lib.hid ?_, HBX.out.far (by simpa using hgr) _, hb6⟩
        have hls := HLS.out
        rw [List.length_set, hls] at e
        exact e
      case measure => simp [intOf]; omega
    · obtain rfl : k = (lim N).length := by omega
      have hdg : L ++ dig cr = dig (N * sc + v) := extInv_dig (by have := hinv.out; rwa [← hll] at this) h1
      have hcb : cr < 18446744073709551616 := by have := hinv.out.hi; omega
      have hcI : (cr : Int) ≤ 100000000000 := by have := hinv.out.hi; omega
      have hOV := Lib.hid (show OwnV wr lo (.slice a (lim N).length c1) (ofN L) from hown.out)
      have HDG := Lib.hid (show ofN L ++ lim cr = lim (N * sc + v) by rw [lim, lim, ← ofN_append, hdg])
      have HLE := Lib.hid (show (ofN L).length ≤ 1000 by rw [ofN_length, hll]; exact hl)
      have hlo2 : lo ≤ wr.heap.size := Nat.le_trans hlo (by have := HB.out.size; omega)
      by_cases hc0 : cr = 0
      · subst hc0
        have HMG := Lib.hid iMagOf0
        have hBd : Below lo w wr.drew := HB.out.drew
        have HBXd := Lib.hid (show BoxAt wr.drew g 109 #[.slice a (lim N).length c1] from HBX.out)
        have HOVd := Lib.hid (show OwnV wr.drew lo (.slice a (lim N).length c1) (ofN L) from hOV.out)
        have hcap : (lim N).length ≤ c1 := by
          obtain ⟨a', c', e, h, _⟩ := OwnV.parts hown.out
          injection e with _ _ e3
          subst e3
          have hh := HLE.out
          rw [ofN_length, hll] at h
          exact h
        have e2 : (lim N).length = (lim (N * sc + v)).length := by
          have h := HDG.out
          rw [lim_zero, List.append_nil] at h
          rw [← h, ofN_length, hll]
        have HE1 := Lib.hid (show ofN L = lim (N * sc + v) by have h := HDG.out; rwa [lim_zero, List.append_nil] at h)
        have hp3 : wr.drew.cell? ⟨g, 0, none⟩ = some (.slice a (lim N).length c1) := hp2
        have hpf3 : wr.drew.frozen? ⟨g, 0, none⟩ = false := hpf2
        have hs1 : ∀ u, BoxAt (wr.drew.setCell ⟨g, 0, none⟩ u) g 109 #[u] := fun u => by simpa using HBXd.out.set_ 0 u
        have hs2 : ∀ u, OwnV (wr.drew.setCell ⟨g, 0, none⟩ u) lo (.slice a (lim N).length c1) (ofN L) := fun u => OwnV.setBox HOVd.out hg u
        have hs3 : ∀ u, Below g w (wr.drew.setCell ⟨g, 0, none⟩ u) := fun u => (show Below g w wr.drew from hBd.mono (by omega)).setCell (p := ⟨g, 0, none⟩) (Nat.le_refl _) u
        have HEND := Lib.hid (show (∃ a' c', BoxAt wr.drew g 109 #[.slice a' (lim (N * sc + v)).length c'] ∧ OwnV wr.drew lo (.slice a' (lim (N * sc + v)).length c') (lim (N * sc + v)) ∧ Below g w wr.drew) ∧
            (∃ a' c', BoxAt (wr.drew.setCell ⟨g, 0, none⟩ (.slice a (lim N).length c1)) g 109 #[.slice a' (lim (N * sc + v)).length c'] ∧ OwnV (wr.drew.setCell ⟨g, 0, none⟩ (.slice a (lim N).length c1)) lo (.slice a' (lim (N * sc + v)).length c') (lim (N * sc + v)) ∧ Below g w (wr.drew.setCell ⟨g, 0, none⟩ (.slice a (lim N).length c1))) from by
          have h1 := hs1 (.slice a (lim N).length c1)
          have h2 := hs2 (.slice a (lim N).length c1)
          have h3 := hs3 (.slice a (lim N).length c1)
          have h4 := HBXd.out
          have h5 := HOVd.out
          rw [HE1.out, e2] at h2 h5
          rw [e2] at h1 h3 h4 ⊢
          exact ⟨⟨a, c1, h4, h5, hBd.mono (by omega)⟩, ⟨a, c1, h1, h2, h3⟩⟩)
        clear hinv hown hdg hcb hll hk hkn hs1 hs2 hs3 HBXd HOVd HBX hOV HB0 HO0 e2
        rcases a with _ | a
        all_goals
          go_wp2
          go_region_law ((first
            | (go_simp; go_at_call 149; refine (HMG.out _).mono ?_; rintro e w1 ⟨rfl, rfl⟩)))
          all_goals
            refine bodyPost_end (v := .tuple #[]) (by simp [results, Try.results133, go_sem]) rfl ?_
            first
            | exact ⟨rfl, HEND.out.1⟩
            | exact ⟨rfl, HEND.out.2⟩
      · have hpos : 0 < (lim cr).length := by have := (not_congr (@lim_len_zero cr)).2 hc0; omega
        have HPO := Lib.hid hpos
        have HC3 := Lib.hid (show (lim cr).length ≤ 3 by rw [lim_length]; exact dig_small hcb)
        have HMG := Lib.hid (fun W => iMagOf cr hcb W)
        have hwu : IntKind.u64.wrap (cr : Int) = (cr : Int) := by rw [IntKind.wrap_u64]; omega
        have hBd : Below lo w wr.drew := HB.out.drew
        have hV : Below wr.heap.size wr wr := Below.refl _ _
        have HBXd := Lib.hid (show BoxAt wr.drew g 109 #[.slice a (lim N).length c1] from HBX.out)
        have HOVd := Lib.hid (show OwnV wr.drew lo (.slice a (lim N).length c1) (ofN L) from hOV.out)
        clear hinv hown hdg hcb hll hc0 hpos hk hkn
        go_wp2
        go_region_law ((first
          | (go_simp; go_at_call 149; refine (HMG.out _).mono ?_; rintro e w1 ⟨a1, d1, rfl, hd1, ho1, hb1⟩; have HX1 := Lib.hid (BoxAt.below HBXd.out hb1); have hp3 := HX1.out.cell 0; have hpf3 := HX1.out.frozen 0; (try simp at hp3); have HO1 := Lib.hid ho1; have HOV1 := Lib.hid (OwnV.belowH HOVd.out hb1); have HB1 := Lib.hid (hBd.trans (hb1.mono (Nat.le_trans hlo2 (Nat.le_refl _)))); clear ho1 hb1)
          | (refine step_appN (by rfl) _ _ 109 (by rfl) Try.underlying109 lo _ (ofN L) HOV1.out (by rfl) _ _ _ (lim cr) (by rfl) (by rfl) HPO.out _ HO1.out.ints (by have := HLE.out; have := HC3.out; omega) (by have := HB1.out.size; omega) ?_; intro v' w' hown' hgr'; have HOV2 := Lib.hid hown'; obtain ⟨a2, d2, rfl, hd2, _, _⟩ := OwnV.parts hown'; have HX2 := Lib.hid (BoxAt.grown HX1.out hgr' (HOV1.out.ownBlock_ge hg)); have hp4 := HX2.out.cell 0; have hpf4 := HX2.out.frozen 0; (try simp at hp4))))
        all_goals
          have e2 : (ofN L).length + (lim cr).length = (lim (N * sc + v)).length := by rw [← HDG.out, List.length_append]
          rw [e2]
          refine bodyPost_end (v := .tuple #[]) (by simp [results, Try.results133, go_sem]) rfl ?_
          refine ⟨rfl, a2, d2, ?_, ?_, ?_⟩
          · have := HX2.out.set_ 0 (.slice a2 (lim (N * sc + v)).length d2)
            simpa using this
          · have h := HOV2.out
            rw [HDG.out] at h
            exact OwnV.setBox h hg _
          · have h6 := grown_below (B := g) hgr' (by have := HB1.out.size; omega) (fun k hk => by have := OwnV.lt HOV1.out k hk; omega)
            exact ((HB1.out.mono (by omega)).trans h6).setCell (Nat.le_refl _) _
end Go.Proofs.Ytpchcigpppdfiab
