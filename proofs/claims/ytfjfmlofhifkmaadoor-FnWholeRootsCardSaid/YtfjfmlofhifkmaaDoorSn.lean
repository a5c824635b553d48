/-
  Draws of whole numbers, one: what stays, l02Make of any limbs, l02Draw. Conditions: the limbs can be read. Draws of whole numbers, two: l02Spoil. No conditions. Draws of whole numbers, three: l02Two and the draws of pairs. Conditions: the code's bytes can be read. Draws of whole numbers, four: DrawDivideWholes, DrawAddWholes, DrawWholeOf, DrawIntegerOf. Conditions: the code's bytes can be read.
-/
import Derived.Test.YtfjfmlofhifkmaaDoorSh
import Derived.Test.YtfjfmlofhifkmaaDoorTd
import Derived.Test.YtfjfmlofhifkmaaDoorUg
import Derived.Test.YtfjfmlofhifkmaaDoorVl
import Derived.Deep.RegionLaw
import Derived.Deep.RegionHeldLaw
import Derived.Deep.RegionHeld3
namespace Go.Proofs.YtfjfmlofhifkmaaDoor
set_option linter.unusedVariables false
open Go Go.RowKit

section
variable {B : Nat} {a : Option Addr} {len cap b : Nat} {w V w' : World}
theorem Src.below (h : Src B a len cap V b) (hb : Below (b + 1) V w') : Src B a len cap w' b := by
  have hlt : b < b + 1 := Nat.lt_succ_self b
  refine ⟨h.lo, Nat.lt_of_lt_of_le h.hi hb.size, h.fit, by rw [hb.cell (p := ⟨b, 0, none⟩) hlt]; exact h.c0, ?_, ?_, fun i => ?_, fun i hi => ?_⟩
  · obtain ⟨k, hk, c1⟩ := h.c1
    exact ⟨k, hk, by rw [hb.cell (p := ⟨b, 1, none⟩) hlt]; exact c1⟩
  · obtain ⟨x, c2⟩ := h.c2
    exact ⟨x, by rw [hb.cell (p := ⟨b, 2, none⟩) hlt]; exact c2⟩
  · rw [World.frozen?_of_block (w := V) (hb.block b hlt)]; exact h.fz i
  · obtain ⟨c, o', u, ha, hc, hu, hcell⟩ := h.code i hi
    exact ⟨c, o', u, ha, hc, hu, by rw [hb.cell (p := ⟨c, o' + i, none⟩) (by have := h.lo; show c < b + 1; omega)]; exact hcell⟩
theorem Stay.low (h : Stay B a len cap b w V) (hw : b < w.heap.size) (hb : Below w.heap.size V w') : Stay B a len cap b w w' :=
  ⟨hb.os.trans h.os, hb.tape.trans h.tape, hb.output.trans h.output, Nat.le_trans h.size hb.size, fun k hk hne => (hb.block k hk).trans (h.block k hk hne), h.src.below (hb.mono hw)⟩
theorem Stay.grown (h : Stay B a len cap b w w') : w.grownBy w' (some b) :=
  ⟨h.os, h.tape, h.output, h.size, fun k hk hne => h.block k hk (fun e => hne (by rw [e]))⟩
theorem OwnV.stay {lo : Nat} {v : Value} {xs : List Int} (h : OwnV w lo v xs) (g : Stay B a len cap b w w') (hb : b < lo) : OwnV w' lo v xs :=
  World.ownsRow.kept h g.grown (.inr (fun e => by have := OwnV.lt h b e; omega))
theorem BoxAt.stay {g : Nat} {t : TypeId} {cs : Array Value} (h : BoxAt w g t cs) (st : Stay B a len cap b w w') (hb : g ≠ b) : BoxAt w' g t cs := (st.block g h.lt hb).trans h
theorem Own.stay {lo : Nat} {x : Option Addr} {xs : List Int} (h : Own w lo x xs) (g : Stay B a len cap b w w') (hb : b < lo) : Own w' lo x xs :=
  h.grown g.grown (fun k e => by injection e with e; omega)
end

/-- The call returned some whole number, or what is none, in new memory. -/
def RetA (k : Nat) (w : World) (e : Ending) (w' : World) : Prop := ∃ s xs v, e = .returned (.agg #[.int .i64 s, v]) ∧ xs.length ≤ k ∧ OwnV w' w.heap.size v xs ∧ Below w.heap.size w w'
/-- The same, and the source was drawn from. -/
def RetSW (k : Nat) (B : Nat) (a : Option Addr) (len cap b : Nat) (w : World) (e : Ending) (w' : World) : Prop := ∃ s xs v, e = .returned (.agg #[.int .i64 s, v]) ∧ xs.length ≤ k ∧ OwnV w' w.heap.size v xs ∧ Stay B a len cap b w w'

theorem OwnV.setBoxI {w : World} {lo : Nat} {v : Value} {xs : List Int} (h : OwnV w lo v xs) {g : Nat} (hg : g < lo) (i : Nat) (u : Value) : OwnV (w.setCell ⟨g, i, none⟩ u) lo v xs :=
  World.ownsRow.kept h ⟨rfl, rfl, rfl, by simp, fun k _ hne => Below.heap_setCell w ⟨g, i, none⟩ u k (fun e => hne (by rw [e]))⟩ (.inr (fun e => by have := OwnV.lt h g e; omega))
theorem OwnV.lower {w : World} {lo lo' : Nat} {v : Value} {xs : List Int} (h : OwnV w lo v xs) (hl : lo' ≤ lo) : OwnV w lo' v xs := by
  obtain ⟨h1, h2 | ⟨g, cap, cur, e, hb, hr⟩⟩ := h
  · exact ⟨h1, .inl h2⟩
  · exact ⟨h1, .inr ⟨g, cap, cur, e, Nat.le_trans hl hb, hr⟩⟩
set_option maxHeartbeats 400000 in
theorem sOwnV (a : Option Addr) (xs : List Int) (c : Nat) (w : World) (B : Nat) (hB : B ≤ w.heap.size) (hl : xs.length ≤ 8388608) (hx : Ints w B a xs) :
    Calls Tryd.prog 140 #[.slice a xs.length c] w fun e w' => ∃ v, e = .returned v ∧ OwnV w' w.heap.size v xs ∧ Below w.heap.size w w' := by
  cases a with
  | none =>
    have h0 : xs = [] := by
      rcases Nat.eq_zero_or_pos xs.length with h | h
      · exact List.eq_nil_of_length_eq_zero h
      · obtain ⟨_, _, he, _⟩ := hx 0 h; cases he
    subst h0
    clear hx hl
    simp only [List.length_nil]
    go_enter Tryd.func140, Tryd.ntmps140
    go_wp2
    go_ret
    exact ⟨_, rfl, OwnV.empty w _ (Nat.le_refl _), (by repeat (first | exact Below.refl _ _ | assumption | refine Below.alloc ?_ (by simp <;> omega) _ | refine Below.setCell ?_ (by simp <;> omega) _ | refine below_drewN ?_ _))⟩
  | some ad =>
    have HX := Lib.hid hx
    have HL := Lib.hid hl
    clear hx hl
    go_enter Tryd.func140, Tryd.ntmps140
    go_wp2_with (at_builtin; refine wp_app rfl _ _ 24 rfl Tryd.underlying24 w.heap.size _ [] (OwnV.empty w _ (Nat.le_refl _)) rfl ad xs.length c xs rfl rfl (ints_add (HX.out.alloc hB _)) (by have := HL.out; simp; omega) (by simp) ?_; intro v' w' hown hgrow)
    have HB := Lib.hid ((Below.alloc (Below.refl w.heap.size w) (Nat.le_refl _) (.cells #[] 2)).grown hgrow (by simp) (fun g hg => by simp [Value.ownBlock] at hg; omega))
    have HO := Lib.hid hown
    clear hgrow hown
    go_wp2_with fail
    go_ret
    exact ⟨_, rfl, HO.out, HB.out⟩
set_option maxHeartbeats 800000 in
theorem sMakeAny (s : Int) (a : Option Addr) (xs : List Int) (c : Nat) (w : World) (B : Nat) (hB : B ≤ w.heap.size) (hx : Ints w B a xs) (hc : xs.length ≤ c) (hl : xs.length ≤ 8388608) :
    Calls Tryd.prog 96 #[.int .i64 s, .slice a xs.length c] w (RetA xs.length w) := by
  have HX := Lib.hid hx
  have HL := Lib.hid hl
  have P0 := Lib.hid (BoxAt.new w 26 #[.int .i64 0, .slice none 0 0])
  have HO := Lib.hid (show ∀ (k : Nat) (hk : k ≤ xs.length) o, Calls Tryd.prog 140 #[.slice a k c] (w.alloc o) (fun e w' => ∃ v, e = .returned v ∧ OwnV w' (w.alloc o).heap.size v (xs.take k) ∧ Below (w.alloc o).heap.size (w.alloc o) w') from fun k hk o => by
    have hlen : (xs.take k).length = k := by rw [List.length_take]; omega
    have := sOwnV a (xs.take k) c (w.alloc o) B (by simp; omega) (by rw [hlen]; omega) ((hx.take k).alloc hB o)
    rwa [hlen] at this)
  clear hx
  go_enter Tryd.func96, Tryd.ntmps96
  go_wp2
  go_loop [5] (fun i => ∃ k : Nat, k ≤ xs.length ∧ i = .int .i64 k) (fun i => (intOf i).toNat)
  case atStart => exact ⟨xs.length, Nat.le_refl _, rfl⟩
  case round =>
    obtain ⟨k, hk, rfl⟩ := hrel
    by_cases h0 : 0 < k
    · obtain ⟨b, o, ha, hcB, hcell⟩ := HX.out (k - 1) (by omega)
      subst ha
      have hi1 : ((k : Int) - 1).toNat = k - 1 := by omega
      have hi2 : (0 : Int) ≤ (k : Int) - 1 := by omega
      have hi3 : (k : Int) - 1 < (xs.length : Int) := by omega
      have h0I : (0 : Int) < (k : Int) := by omega
      have hkb : (k : Int) ≤ 9223372036854775807 := by have := HL.out; omega
      obtain ⟨x, hxk⟩ : ∃ x : Int, x = xs[k - 1] := ⟨_, rfl⟩
      rw [← hxk] at hcell
      have hcell2 : ∀ o', (w.alloc o').cell? ⟨b, o + (k - 1), none⟩ = some (.int .i64 x) := fun o' => by rw [World.cell?_alloc_lt w _ ⟨b, o + (k - 1), none⟩ (by show b < _; omega)]; exact hcell
      have HK := Lib.hid hk
      clear hxk hcell
      by_cases hx0 : x = 0
      · subst hx0
        go_wp2
        go_round
        case rel => exact ⟨k - 1, by omega, by (try simp); omega⟩
        case measure => simp [intOf]; omega
      · have hne : (x == 0) = false := by simpa using hx0
        have hkz : ((k : Int) == 0) = false := by simp; omega
        have hkc : (k : Int) ≤ (c : Int) := by omega
        have hlen : (xs.take k).length = k := by rw [List.length_take]; omega
        have HLN := Lib.hid hlen
        clear hlen
        go_wp2_with fail
        refine (HO.out k HK.out _).mono ?_
        rintro e w1 ⟨v1, rfl, ho1, hb1⟩
        obtain ⟨a1, c1, rfl, _, _, _⟩ := ho1.parts
        have HO1 := Lib.hid ho1
        have HB1 := Lib.hid hb1
        have P1 := Lib.hid (P0.out.below hb1)
        obtain ⟨q1, q2, q3, q4⟩ := P1.out.two
        clear ho1 hb1
        go_wp2_with fail
        refine bodyPost_ret (v := .agg #[.int .i64 s, .slice a1 (xs.take k).length c1]) (by simp [results, Tryd.results96, go_sem, *]) rfl ⟨s, xs.take k, .slice a1 (xs.take k).length c1, rfl, by rw [HLN.out]; exact HK.out, ((HO1.out.setBoxI (by simp) _ _).setBoxI (by simp) _ _).lower (by simp), (((Below.refl _ w).alloc (Nat.le_refl _) _).trans (HB1.out.mono (by simp)) |>.setCell (by simp) _).setCell (by simp) _⟩
    · obtain rfl : k = 0 := by omega
      go_wp2
      refine bodyPost_ret (v := .agg #[.int .i64 0, .slice none 0 0]) (by simp [results, Tryd.results96, go_sem]) rfl ⟨0, [], .slice none 0 0, rfl, Nat.zero_le _, OwnV.nil _ _, (by repeat (first | exact Below.refl _ _ | assumption | refine Below.alloc ?_ (by simp <;> omega) _ | refine Below.setCell ?_ (by simp <;> omega) _ | refine below_drewN ?_ _))⟩

set_option maxRecDepth 100000 in
set_option maxHeartbeats 1600000 in
theorem drawW (B : Nat) (a : Option Addr) (len cap b : Nat) (m : Nat) (hm : m ≤ 200) (w : World) (hs : Src B a len cap w b) :
    Calls Tryd.prog 66 #[.pointer (some ⟨b, 0, none⟩), .int .i64 (m : Int)] w (RetSW m B a len cap b w) := by
  have hbl := hs.hi
  have h1 := ((Stay.refl hs).alloc' (.cells #[.int .i64 0, .slice none 0 0] 26)).alloc' (.cells #[] 2)
  obtain ⟨W1, hW1⟩ : ∃ W1 : World, (w.alloc (.cells #[.int .i64 0, .slice none 0 0] 26)).alloc (.cells #[] 2) = W1 := ⟨_, rfl⟩
  have hov : OwnV W1 (w.heap.size + 1) (.slice (some ⟨w.heap.size + 1, 0, none⟩) 0 0) [] := by
    rw [← hW1]
    have := OwnV.empty (w.alloc (.cells #[.int .i64 0, .slice none 0 0] 26)) (w.heap.size + 1) (by simp)
    simpa using this
  have hsz : W1.heap.size = w.heap.size + 1 + 1 := by rw [← hW1]; simp
  have hbx : BoxAt W1 w.heap.size 26 #[.int .i64 0, .slice none 0 0] := by rw [← hW1]; exact (BoxAt.new w _ _).alloc _
  rw [hW1] at h1
  have HW1 := Lib.hid hW1
  have mI : (m : Int) ≤ 200 := by omega
  clear hW1
  go_enter Tryd.func66, Tryd.ntmps66
  go_wp2_with fail
  rw [HW1.out]
  refine (next_any B a len cap b ((m : Int) + 1) W1 h1.src (by omega) (by omega)).mono ?_
  rintro e w1 ⟨v, hv, rfl, hst⟩
  have h2 := Lib.hid (h1.trans hst)
  have hov1 := Lib.hid (hov.stay hst (by omega))
  have hbx1 := Lib.hid (hbx.stay hst (by omega))
  have hvm := Lib.hid (show v ≤ m by omega)
  have hsz1 := Lib.hid (show w.heap.size + 1 + 1 ≤ w1.heap.size by have := hst.size; omega)
  have HM := Lib.hid hm
  have HBL := Lib.hid hbl
  clear hst h1 hov hbx hs hv hsz hm mI
  go_wp2_with fail
  go_loopw [5, 6] (fun u i wr => ∃ (j : Nat) (L : List Int), i = .int .i64 (j : Int) ∧ L.length + j ≤ m ∧ OwnV wr (w.heap.size + 1) u L ∧ BoxAt wr w.heap.size 26 #[.int .i64 0, .slice none 0 0] ∧ Stay B a len cap b w wr ∧ w.heap.size + 1 + 1 ≤ wr.heap.size) (fun _ i _ => (intOf i).toNat)
  case atStart => exact ⟨v, [], rfl, by have := hvm.out; simpa using this, hov1.out, hbx1.out, h2.out, hsz1.out⟩
  case round =>
    obtain ⟨j, L, rfl, hlen, hov, hbx, hst, hsz⟩ := hrel
    have HLEN := Lib.hid hlen
    have HOV := Lib.hid hov
    have HBX := Lib.hid hbx
    have HST := Lib.hid hst
    have HSZ := Lib.hid hsz
    by_cases hj : j = 0
    · subst hj
      obtain ⟨a', c', rfl, hc', _, ho⟩ := HOV.out.parts
      have HO := Lib.hid ho
      have HC := Lib.hid hc'
      clear ho hc' hlen hov hbx hst hsz hbl
      go_wp2_with fail
      refine (pick_from (Stay.refl HST.out.src) [1, -1] 2 2 rfl (by omega) (by omega) (by intro x hx; simp at hx; unfold InI64; rcases hx with h | h <;> rw [h] <;> omega) _ rfl).mono ?_
      rintro e wD ⟨z, hz1, hz2, rfl, sD⟩
      have HSD := Lib.hid sD
      have hlenL := HLEN.out
      have HLL := Lib.hid (show L.length ≤ 8388608 by have := HM.out; omega)
      clear hz1 hz2 sD hlenL
      have OD := Lib.hid (HO.out.stay HSD.out (by have := HBL.out; omega))
      go_wp2_with fail
      refine (sMakeAny z a' L c' wD wD.heap.size (Nat.le_refl _) OD.out.ints HC.out HLL.out).mono ?_
      rintro e wE ⟨s', xs', v2, rfl, hx1, ho, hb⟩
      obtain ⟨a2, c2, rfl, _, _, _⟩ := ho.parts
      have hbE := (HBX.out.stay HSD.out (by have := HBL.out; omega)).below hb
      obtain ⟨q1, q2, q3, q4⟩ := hbE.two
      have hstE := (HST.out.trans HSD.out).low HBL.out (hb.mono (by have := HSD.out.size; have := HSZ.out; omega))
      have hlo : w.heap.size < wD.heap.size := by have := HSD.out.size; have := HSZ.out; omega
      have HX1 := Lib.hid hx1
      have HOE := Lib.hid ho
      have HSE := Lib.hid hstE
      clear hx1 ho hb hbE hstE
      go_wp2_with fail
      refine bodyPost_ret (v := .agg #[.int .i64 s', .slice a2 xs'.length c2]) (by simp [results, Tryd.results66, go_sem, *]) rfl ⟨s', xs', .slice a2 xs'.length c2, rfl, by have := HX1.out; have := HLEN.out; omega, ((HOE.out.setBoxI (by omega) _ _).setBoxI (by omega) _ _).lower (by omega), HSE.out.low HBL.out (((Below.refl _ _).setCell (by simp) _).setCell (by simp) _)⟩
    · have hj0 : (0 : Int) < (j : Int) := by omega
      have hjb : (j : Int) ≤ 9223372036854775807 := by have := HM.out; omega
      have HJ := Lib.hid hj
      clear hlen hov hbx hst hsz hbl hj
      go_wp2_with fail
      refine (next_any B a len cap b 16777216 wr HST.out.src (by omega) (by omega)).mono ?_
      rintro e wA ⟨x1, hx1, rfl, sA⟩
      have X1 := Lib.hid (show InI64 (x1 : Int) from by unfold InI64; omega)
      have SA := Lib.hid sA
      clear hx1 sA
      go_wp2_with fail
      refine (next_any B a len cap b 16777216 wA SA.out.src (by omega) (by omega)).mono ?_
      rintro e wB ⟨x2, hx2, rfl, sB⟩
      have X2 := Lib.hid (show InI64 (x2 : Int) from by unfold InI64; omega)
      have SB := Lib.hid (SA.out.trans sB)
      clear hx2 sB
      go_wp2_with fail
      refine (next_any B a len cap b 1000 wB SB.out.src (by omega) (by omega)).mono ?_
      rintro e wC ⟨x3, hx3, rfl, sC⟩
      have X3 := Lib.hid (show InI64 (x3 : Int) from by unfold InI64; omega)
      have SC := Lib.hid (SB.out.trans sC)
      clear hx3 sC
      go_wp2_with fail
      refine (pick_from SC.out [0, 1, 16777215, 8388608, (x1 : Int), (x2 : Int), (x3 : Int)] 2 7 rfl (by omega) (by omega) (by
        intro x hx
        simp at hx
        have := X1.out
        have := X2.out
        have := X3.out
        unfold InI64 at *
        rcases hx with h | h | h | h | h | h | h <;> rw [h] <;> omega) _ rfl).mono ?_
      rintro e wD ⟨z, hz1, hz2, rfl, sD⟩
      have SD := Lib.hid sD
      clear hz1 hz2 sD
      have OW := Lib.hid (HOV.out.stay SD.out (by have := HBL.out; omega))
      have hszD : w.heap.size + 1 ≤ wD.heap.size := by have := SD.out.size; have := HSZ.out; omega
      go_wp2_with (at_builtin; refine wp_app1 rfl _ _ 24 rfl Tryd.underlying24 wD z rfl (w.heap.size + 1) _ L OW.out rfl rfl (by have := HLEN.out; have := HM.out; omega) hszD ?_; intro v' w' hown hb hs; have OW2 := Lib.hid hown; have HB2 := Lib.hid (hb (w.heap.size + 1) hszD (Nat.le_refl _)); have HS2 := Lib.hid hs; clear hown hb hs)
      go_roundw
      case rel =>
        refine ⟨j - 1, L ++ [z], ?_, ?_, OW2.out, (HB2.out.block w.heap.size (Nat.lt_succ_self _)).trans (HBX.out.stay SD.out (by have := HBL.out; omega)), (HST.out.trans SD.out).low HBL.out (HB2.out.mono (Nat.le_succ _)), by have := SD.out.size; have := HSZ.out; have := HS2.out; omega⟩
        · have := HJ.out
          first | go_num | (congr 1; omega)
        · have := HLEN.out
          have := HJ.out
          simp
          omega
      case measure => have := HJ.out; simp [intOf]; omega

section
variable {B : Nat} {a : Option Addr} {len cap b : Nat} {w W : World}
theorem pickP_from (p : Int → Prop) (h : Stay B a len cap b w W) (xs : List Int) (t : TypeId) (m : Nat) (hm : m = xs.length) (hm1 : 1 ≤ m) (hm2 : m ≤ 1000) (hx : ∀ x ∈ xs, p x) (V : World) (hV : V = W.alloc (.cells (xs.map (Value.int .i64)).toArray t)) :
    Calls Tryd.prog 71 #[.pointer (some ⟨b, 0, none⟩), .slice (some ⟨W.heap.size, 0, none⟩) m m] V (SomeP p B a len cap b w) := by
  subst hm hV
  have h2 := h.alloc' (.cells (xs.map (Value.int .i64)).toArray t)
  have hb := h.src.hi
  refine (pickP_any p B a len cap b W.heap.size xs.length xs.length _ h2.src hm1 hm2 (by simp) (by omega) fun i hi => ?_).mono fun _ _ ⟨x, h1, he, hst⟩ => ⟨x, h1, he, h2.trans hst⟩
  exact ⟨xs[i], hx xs[i] (List.getElem_mem _), by simp [List.getElem?_eq_getElem hi]⟩
end
/-- A row of numbers is no variable that holds a whole number. -/
theorem OwnV.ne_box {w : World} {lo g : Nat} {v : Value} {xs : List Int} {cs : Array Value} (h : OwnV w lo v xs) (hb : BoxAt w g 26 cs) : v.ownBlock ≠ some g := by
  obtain ⟨_, h2 | ⟨k, cap, cur, e, _, hc, _⟩⟩ := h
  · rw [h2.1]; exact fun e => by cases e
  · rw [e]
    intro e2
    have e3 : k = g := by injection e2
    subst e3
    unfold BoxAt at hb
    rw [hb] at hc
    injection hc with hc
    injection hc with _ hc
    exact absurd hc (by decide)
theorem OwnV.setNe {w : World} {lo : Nat} {v : Value} {xs : List Int} (h : OwnV w lo v xs) {g : Nat} (hg : v.ownBlock ≠ some g) (i : Nat) (u : Value) : OwnV (w.setCell ⟨g, i, none⟩ u) lo v xs :=
  World.ownsRow.kept h ⟨rfl, rfl, rfl, by simp, fun k _ hne => Below.heap_setCell w ⟨g, i, none⟩ u k (fun e => hne (by rw [e]))⟩ (.inr hg)
/-- One number is appended to numbers of the call's own; what else it changes. -/
theorem wp_app1G {ops : Array Oper} {rest : List Oper} {o : Oper} {a : Act} {Q : Exit → Act → World → Prop} {w : World} (hgd : o.guard = none) (s x : Operand) (t : TypeId)
    (ho : o.op = .call { callee := .builtin .append, args := #[s, x], argTypes := #[t, t] }) (ht : Tryd.prog.underlying t = some (.slice 2))
    (V : World) (z : Int) (hW : w = V.alloc (.cells #[.int .i64 z] 2)) (lo : Nat) (v : Value) (xs : List Int) (hown : OwnV V lo v xs) (hs : a.eval s = v)
    (hx : a.eval x = .slice (some ⟨V.heap.size, 0, none⟩) 1 1) (hlen : xs.length ≤ 8388607) (hbase : lo ≤ V.heap.size)
    (h : ∀ v' w', OwnV w' lo v' (xs ++ [z]) → V.grownBy w' v.ownBlock → wpList Tryd.prog ops Q rest (a.put o.dst v') w') : wpList Tryd.prog ops Q (o :: rest) a w := by
  subst hW
  refine wp_app hgd s x t ho ht lo v xs (hown.alloc _) hs ⟨V.heap.size, 0, none⟩ 1 1 [z] hx rfl ?_ (by simp; omega) (by simp; omega) ?_
  · intro i hi
    simp at hi
    subst hi
    simp [Addr.add]
  · intro v' w' h1 h2
    exact h v' w' h1 ⟨h2.os, h2.tape, h2.output, Nat.le_trans (by simp) h2.size, fun k hk hne => (h2.block k (by simp; omega) hne).trans (Below.heap_alloc V _ k hk)⟩

/-- One number is appended at a step of a region that draws; what else it changes. -/
theorem step_app1G {ops : Array Oper} {o : Oper} {a : Act} {K : Act → World → Prop} {Q : Exit → Act → World → Prop} {E : Prop} {w : World} (hgd : o.guard = none) (s x : Operand) (t : TypeId)
    (ho : o.op = .call { callee := .builtin .append, args := #[s, x], argTypes := #[t, t] }) (ht : Tryd.prog.underlying t = some (.slice 2))
    (V : World) (z : Int) (hW : w = V.alloc (.cells #[.int .i64 z] 2)) (lo : Nat) (v : Value) (xs : List Int) (hown : OwnV V lo v xs) (hs : a.eval s = v)
    (hx : a.eval x = .slice (some ⟨V.heap.size, 0, none⟩) 1 1) (hlen : xs.length ≤ 8388607) (hbase : lo ≤ V.heap.size)
    (h : ∀ v' w', OwnV w' lo v' (xs ++ [z]) → V.grownBy w' v.ownBlock → K (a.put o.dst v') w') :
    if Region.wanted o (yielded ops a.tmps) = true then Oper.wp Tryd.prog o a w K Q else E := by
  subst hW
  obtain ⟨i0, hi, hz0, hz1, hz2⟩ := info_parts info_i64
  refine step_append_lies _ hgd s x t ho lo 2 i0 (.int .i64 0) 1 8 ht hi hz0 hz1 hz2 rfl (by decide) v xs.length (xs.map (Value.int .i64)) hs (hown.alloc _) ⟨V.heap.size, 0, none⟩ 1 1 [.int .i64 z] hx rfl ?_ (by intro u hu; simp at hu; subst hu; rfl) (by omega) (by unfold maxLen; omega) (by omega) (by simp; omega) _ rfl ?_
  · intro j u hj
    match j with
    | 0 =>
      simp at hj
      subst hj
      simp [Addr.add]
    | j + 1 => simp at hj
  · intro g cap w' h1 h2 _ _
    refine h _ w' ?_ ⟨h2.os, h2.tape, h2.output, Nat.le_trans (by simp) h2.size, fun k hk hne => (h2.block k (by simp; omega) hne).trans (Below.heap_alloc V _ k hk)⟩
    unfold OwnV
    rw [List.length_append, List.map_append]
    exact h1
/-- The call returned some whole number, or what is none, in memory of its own; the source was drawn from. -/
def RetSO (k : Nat) (B : Nat) (a : Option Addr) (len cap b : Nat) (w : World) (e : Ending) (w' : World) : Prop := ∃ s xs x c, e = .returned (.agg #[.int .i64 s, .slice x xs.length c]) ∧ xs.length ≤ k ∧ xs.length ≤ c ∧ Own w' w.heap.size x xs ∧ Stay B a len cap b w w'
theorem lim_shift_len {n K : Nat} (hn : n ≤ 3) (hK : K ≤ 4800) : (lim (n * 2 ^ K)).length ≤ 202 := by
  rw [lim_length]
  refine dig_length_le (k := 202) ?_
  rw [two24]
  obtain ⟨E, hE⟩ : ∃ E, E = 24 * 202 := ⟨_, rfl⟩
  rw [← hE]
  have h1 : n * 2 ^ K < 2 ^ 2 * 2 ^ K := Nat.mul_lt_mul_of_pos_right (by omega) (Nat.two_pow_pos K)
  rw [← Nat.pow_add] at h1
  exact Nat.lt_of_lt_of_le h1 (Nat.pow_le_pow_right (by omega) (by omega))

set_option maxRecDepth 100000 in
set_option maxHeartbeats 4000000 in
theorem spoilW (B : Nat) (a : Option Addr) (len cap b : Nat) (w : World) (hs : Src B a len cap w b) :
    Calls Tryd.prog 49 #[.pointer (some ⟨b, 0, none⟩)] w (RetSO 1000 B a len cap b w) := by
  have hbl := hs.hi
  obtain ⟨W1, hW1⟩ : ∃ W1 : World, w.alloc (.cells #[.int .i64 0, .slice none 0 0] 26) = W1 := ⟨_, rfl⟩
  have hsz : w.heap.size + 1 = W1.heap.size := by rw [← hW1]; simp
  have h1 := (Stay.refl hs).alloc' (.cells #[.int .i64 0, .slice none 0 0] 26)
  have hbx := BoxAt.new w 26 #[.int .i64 0, .slice none 0 0]
  rw [hW1] at h1 hbx
  have H1 := Lib.hid h1
  have HX := Lib.hid hbx
  have HW1 := Lib.hid hW1
  have HSZ := Lib.hid hsz
  have HBL := Lib.hid hbl
  clear hs hbl h1 hbx hW1 hsz
  go_enter Tryd.func49, Tryd.ntmps49
  go_wp2_with fail
  rw [HW1.out, HSZ.out]
  refine (pickP_from (fun x => ∃ m : Nat, x = (m : Int) ∧ m ≤ 200) (Stay.refl H1.out.src) [1, 2, 4, 8, 8, 20, 200] 2 7 rfl (by omega) (by omega) (by
    intro x hx
    simp at hx
    rcases hx with h | h | h | h | h | h <;> exact ⟨x.toNat, by rw [h]; rfl, by rw [h]; decide⟩) _ rfl).mono ?_
  rintro e wA ⟨x, ⟨m, rfl, hm⟩, rfl, sA⟩
  have SA := Lib.hid sA
  have HM := Lib.hid hm
  clear sA hm
  go_wp2_with fail
  refine (drawW B a len cap b m HM.out wA SA.out.src).mono ?_
  rintro e wB ⟨s1, xs1, v1, rfl, hx1, ho1, sB⟩
  obtain ⟨a1, c1, rfl, hc1, _, _⟩ := ho1.parts
  have SB := Lib.hid (H1.out.trans (SA.out.trans sB))
  have HX1 := Lib.hid hx1
  have HB := Lib.hid (HX.out.stay (SA.out.trans sB) (by have := HBL.out; omega))
  have HO := Lib.hid (ho1.lower (show W1.heap.size ≤ wA.heap.size from SA.out.size))
  have HSB := Lib.hid (show W1.heap.size ≤ wB.heap.size from Nat.le_trans SA.out.size sB.size)
  clear hx1 ho1 sB hc1
  obtain ⟨W2, hW2⟩ : ∃ W2 : World, wB.alloc (.cells #[.int .i64 s1, .slice a1 xs1.length c1] 26) = W2 := ⟨_, rfl⟩
  have b2 := BoxAt.new wB 26 #[.int .i64 s1, .slice a1 xs1.length c1]
  have st2 := SB.out.alloc' (.cells #[.int .i64 s1, .slice a1 xs1.length c1] 26)
  have o2 := HO.out.alloc (.cells #[.int .i64 s1, .slice a1 xs1.length c1] 26)
  have r2 := HB.out.alloc (.cells #[.int .i64 s1, .slice a1 xs1.length c1] 26)
  have z2 : W2.heap.size = wB.heap.size + 1 := by rw [← hW2]; simp
  rw [hW2] at b2 st2 o2 r2
  have HW2 := Lib.hid hW2
  have ST2 := Lib.hid st2
  have O2 := Lib.hid o2
  have R2 := Lib.hid r2
  have B2 := Lib.hid b2
  have Z2 := Lib.hid z2
  clear hW2 b2 st2 o2 r2 z2 SA SB
  go_wp2_with fail
  rw [HW2.out]
  refine (next_any B a len cap b 30 W2 ST2.out.src (by omega) (by omega)).mono ?_
  rintro e wC ⟨v, hv, rfl, sC⟩
  have hneb : wB.heap.size ≠ b := by have := HBL.out; have := HSB.out; have := HSZ.out; omega
  have SC := Lib.hid (ST2.out.trans sC)
  have OC := Lib.hid (O2.out.stay sC (by have := HBL.out; have := HSZ.out; omega))
  have RC := Lib.hid (R2.out.stay sC (by have := HBL.out; omega))
  have BC := Lib.hid (B2.out.stay sC hneb)
  have ZC := Lib.hid (show wB.heap.size < wC.heap.size by have := sC.size; have := Z2.out; omega)
  have HS0 := Lib.hid (show w.heap.size < W1.heap.size by have := HSZ.out; omega)
  have hlo : w.heap.size < wB.heap.size := by have := HSB.out; have := HSZ.out; omega
  clear sC hneb ST2 O2 R2 B2
  by_cases v0 : v = 0
  · subst v0
    go_wp2_with fail
    refine (pick_from (Stay.refl SC.out.src) [0, 2, -2] 2 3 rfl (by omega) (by omega) (by intro x hx; simp at hx; unfold InI64; rcases hx with h | h | h <;> rw [h] <;> omega) _ rfl).mono ?_
    rintro e wD ⟨z, hz1, hz2, rfl, sD⟩
    have SD := Lib.hid sD
    clear hz1 hz2 sD
    have bD := BC.out.stay SD.out (by have := HBL.out; omega)
    have NB := (OC.out.stay SD.out (by have := HBL.out; have := HS0.out; omega)).ne_box bD
    have OD := Lib.hid ((OC.out.stay SD.out (by have := HBL.out; have := HS0.out; omega)).setNe NB 0 (.int .i64 z))
    obtain ⟨m1, m2, m3, m4⟩ := bD.two
    obtain ⟨q1, q2, q3, q4⟩ := (RC.out.stay SD.out (by have := HBL.out; omega)).two
    have hne3 : wB.heap.size ≠ w.heap.size := by omega
    obtain ⟨_, _, e9, hcap, _, hown⟩ := OD.out.parts
    injection e9 with e9a e9b e9c
    subst e9a e9c
    have HCAP := Lib.hid hcap
    have HOWN := Lib.hid hown
    clear hcap hown bD NB
    go_wp2_with fail
    refine bodyPost_ret (v := .agg #[.int .i64 z, .slice a1 xs1.length c1]) (by simp [results, Tryd.results49, go_sem, *]) rfl ⟨z, xs1, a1, c1, rfl, by have := HX1.out; have := HM.out; omega, HCAP.out, ((HOWN.out.setFar (p := ⟨w.heap.size, 0, none⟩) HS0.out _).setFar (p := ⟨w.heap.size, 1, none⟩) HS0.out _).mono (Nat.le_of_lt HS0.out), (SC.out.trans SD.out).low HBL.out ((((Below.refl _ _).setCell (by simp; omega) _).setCell (by simp) _).setCell (by simp) _)⟩
  by_cases v1 : v = 1
  · subst v1
    have hlenA : xs1.length ≤ 8388607 := by have := HX1.out; have := HM.out; omega
    obtain ⟨n1, n2, n3, n4⟩ := BC.out.two
    have hbase : W1.heap.size ≤ wC.heap.size := by have := HSB.out; have := ZC.out; omega
    go_wp2_with (at_builtin; refine wp_app1G rfl _ _ 24 rfl Tryd.underlying24 wC 0 rfl W1.heap.size _ xs1 OC.out rfl rfl hlenA hbase ?_; intro v' w' hown hgr; obtain ⟨xs2, hxs2⟩ : ∃ xs2, xs2 = xs1 ++ [0] := ⟨_, rfl⟩; rw [← hxs2] at hown; have HXS := Lib.hid (show xs2.length ≤ 1000 by rw [hxs2]; have := HX1.out; have := HM.out; simp; omega); clear hxs2; obtain ⟨a2, c2, rfl, hc2, _, hown2⟩ := hown.parts; have bD := BC.out.grown hgr (fun e => OC.out.ne_box BC.out e.symm); have rD := RC.out.grown hgr (fun e => OC.out.ne_box RC.out e.symm); have NB := hown.ne_box bD; have OD := Lib.hid (hown.setNe NB 1 (.slice a2 xs2.length c2)); have HCAP := Lib.hid hc2; have SD := Lib.hid (SC.out.low HBL.out ((Below.refl _ wC).grown hgr (by have := ZC.out; omega) (fun g hg => by have := OwnV.lt OC.out g hg; have := HS0.out; omega))); obtain ⟨m1, m2, m3, m4⟩ := bD.two; obtain ⟨q1, q2, q3, q4⟩ := rD.two; clear hown hgr hown2 hc2 bD rD NB n1 n2 n3 n4)
    obtain ⟨_, _, e9, hcap, _, hown⟩ := OD.out.parts
    injection e9 with e9a e9b e9c
    subst e9a e9c
    have HOWN := Lib.hid hown
    clear hcap hown
    go_wp2_with fail
    refine bodyPost_ret (v := .agg #[.int .i64 s1, .slice a2 xs2.length c2]) (by simp [results, Tryd.results49, go_sem, *]) rfl ⟨s1, xs2, a2, c2, rfl, HXS.out, HCAP.out, ((HOWN.out.setFar (p := ⟨w.heap.size, 0, none⟩) HS0.out _).setFar (p := ⟨w.heap.size, 1, none⟩) HS0.out _).mono (Nat.le_of_lt HS0.out), SD.out.low HBL.out ((((Below.refl _ _).setCell (by simp; omega) _).setCell (by simp) _).setCell (by simp) _)⟩
  by_cases v2 : v = 2
  · subst v2
    have hlenA : xs1.length ≤ 8388607 := by have := HX1.out; have := HM.out; omega
    have HPK := Lib.hid (show Calls Tryd.prog 71 #[.pointer (some ⟨b, 0, none⟩), .slice (some ⟨wC.heap.size, 0, none⟩) 3 3] ((wC.alloc (.cells #[.int .i64 16777216, .int .i64 (-1), .int .i64 1099511627776] 2)).drew) (SomeI B a len cap b wC) from
      pick_from (W := wC.drew) ((Stay.refl SC.out.src).drewN 1) [16777216, -1, 1099511627776] 2 3 rfl (by omega) (by omega) (by intro x hx; simp at hx; unfold InI64; rcases hx with h | h | h <;> rw [h] <;> omega) _ rfl)
    have hbase : W1.heap.size ≤ wC.heap.size := by have := HSB.out; have := ZC.out; omega
    obtain ⟨n1, n2, n3, n4⟩ := BC.out.two
    have nA : ∀ o, (wC.alloc o).cell? ⟨wB.heap.size, 1, none⟩ = some (.slice a1 xs1.length c1) := fun o => by rw [World.cell?_alloc_lt wC _ ⟨wB.heap.size, 1, none⟩ ZC.out]; exact n2
    clear v0 v1 hv
    go_wp2_with fail
    go_region_law ((first
      | (go_simp; go_at_call 71; refine (HPK.out).mono ?_; rintro e wD ⟨z, hz1, hz2, rfl, sD⟩; clear hz1 hz2; have bD := BC.out.stay sD (by have := HBL.out; omega); obtain ⟨m1, m2, m3, m4⟩ := bD.two; have OWD := Lib.hid (OC.out.stay sD (by have := HBL.out; have := HS0.out; omega)); have BD := Lib.hid bD; have SD := Lib.hid sD; have hbaseD : W1.heap.size ≤ wD.heap.size := Nat.le_trans hbase SD.out.size; have RD := Lib.hid (RC.out.stay sD (by have := HBL.out; omega)); have mA : ∀ o, (wD.alloc o).cell? ⟨wB.heap.size, 1, none⟩ = some (.slice a1 xs1.length c1) := fun o => (by rw [World.cell?_alloc_lt wD _ ⟨wB.heap.size, 1, none⟩ (by have := ZC.out; have := SD.out.size; show wB.heap.size < _; omega)]; exact m2); clear bD sD)
      | (refine step_app1G (by rfl) _ _ 24 (by rfl) Tryd.underlying24 wD z (by rfl) W1.heap.size _ xs1 OWD.out (by rfl) (by rfl) hlenA hbaseD ?_; intro v' w' hown hgr; obtain ⟨xs2, hxs2⟩ : ∃ xs2, xs2 = xs1 ++ [z] := ⟨_, rfl⟩; rw [← hxs2] at hown; have HXS := Lib.hid (show xs2.length ≤ 1000 by rw [hxs2]; have := HX1.out; have := HM.out; simp; omega); clear hxs2; obtain ⟨a2, c2, rfl, hc2, _, hown2⟩ := hown.parts; have bE := BD.out.grown hgr (fun e => OWD.out.ne_box BD.out e.symm); have rE := RD.out.grown hgr (fun e => OWD.out.ne_box RD.out e.symm); have NB := hown.ne_box bE; have OE := Lib.hid (hown.setNe NB 1 (.slice a2 xs2.length c2)); have HCAP := Lib.hid hc2; have SE := Lib.hid ((SC.out.trans SD.out).low HBL.out ((Below.refl _ wD).grown hgr (by have := ZC.out; have := SD.out.size; omega) (fun g hg => by have := OwnV.lt OWD.out g hg; have := HS0.out; omega))); obtain ⟨p1, p2, p3, p4⟩ := bE.two; obtain ⟨q1, q2, q3, q4⟩ := rE.two; clear hown hgr hown2 hc2 bE rE NB)))
    all_goals
      obtain ⟨_, _, e9, hcap, _, hown⟩ := OE.out.parts
      injection e9 with e9a e9b e9c
      subst e9a e9c
      have HOWN := Lib.hid hown
      clear hcap hown
      go_wp2_with fail
      refine bodyPost_ret (v := .agg #[.int .i64 s1, .slice a2 xs2.length c2]) (by simp [results, Tryd.results49, go_sem, *]) rfl ⟨s1, xs2, a2, c2, rfl, HXS.out, HCAP.out, ((HOWN.out.setFar (p := ⟨w.heap.size, 0, none⟩) HS0.out _).setFar (p := ⟨w.heap.size, 1, none⟩) HS0.out _).mono (Nat.le_of_lt HS0.out), SE.out.low HBL.out ((((Below.refl _ _).setCell (by simp; omega) _).setCell (by simp) _).setCell (by simp) _)⟩
  by_cases v3 : v = 3
  · subst v3
    go_wp2_with fail
    refine (pickP_from (fun x => (-3 ≤ x ∧ x ≤ 3)) (Stay.refl SC.out.src) [1, -1, 3] 2 3 rfl (by omega) (by omega) (by intro x hx; simp at hx; rcases hx with h | h | h <;> rw [h] <;> omega) _ rfl).mono ?_
    rintro e wD ⟨z, hz, rfl, sD⟩
    have SD := Lib.hid sD
    have HZ := Lib.hid hz
    clear hz sD
    go_wp2_with fail
    refine (sOf z (by have := HZ.out; omega) (by have := HZ.out; omega) wD).mono ?_
    rintro e wE ⟨a5, c5, rfl, hc5, ho5, hb5⟩
    have SE := Lib.hid (SD.out.low (by have := HBL.out; have := ZC.out; omega) (hb5.mono SD.out.size))
    have O5 := Lib.hid ho5
    have Z5 := Lib.hid hb5.size
    clear hc5 ho5 hb5
    go_wp2_with fail
    refine (pickP_from (fun x => ∃ K : Nat, x = (K : Int) ∧ K ≤ 4800) (Stay.refl SE.out.src) [4799, 4798, 4800, 2400] 2 4 rfl (by omega) (by omega) (by
      intro x hx
      simp at hx
      rcases hx with h | h | h | h <;> exact ⟨x.toNat, by rw [h]; rfl, by rw [h]; decide⟩) _ rfl).mono ?_
    rintro e wF ⟨x, ⟨K, rfl, hK⟩, rfl, sF⟩
    have SF := Lib.hid sF
    have O6 := Lib.hid (O5.out.stay sF (by have := HBL.out; have := ZC.out; have := SD.out.size; omega))
    have HK := Lib.hid hK
    have HN := Lib.hid (show z.natAbs ≤ 3 by have := HZ.out; omega)
    clear sF hK
    go_wp2_with fail
    refine (sLeft z.sign a5 z.natAbs c5 K wF wF.heap.size (Nat.le_refl _) O6.out.ints (by have := lim_le_of_le HN.out; have h3 : (lim 3).length = 1 := (by decide +kernel); omega) (by have := HK.out; omega)).mono ?_
    rintro e wG ⟨a6, c6, rfl, hc6, ho6, hb6⟩
    have hlen6 := lim_shift_len HN.out HK.out
    obtain ⟨xs6, hxs6⟩ : ∃ xs6, xs6 = lim (z.natAbs * 2 ^ K) := ⟨_, rfl⟩
    obtain ⟨s6, hs6⟩ : ∃ s6, s6 = sgnOf z.sign (z.natAbs * 2 ^ K) := ⟨_, rfl⟩
    rw [← hxs6] at hc6 ho6 hlen6 ⊢
    rw [← hs6]
    have SG := Lib.hid ((SE.out.trans SF.out).low (by have := HBL.out; have := ZC.out; omega) (hb6.mono (Nat.le_trans SE.out.size SF.out.size)))
    have bG := BC.out.stay SG.out (by have := HBL.out; omega)
    have rG := RC.out.stay SG.out (by have := HBL.out; omega)
    obtain ⟨m1, m2, m3, m4⟩ := bG.two
    obtain ⟨q1, q2, q3, q4⟩ := rG.two
    have hne3 : wB.heap.size ≠ w.heap.size := by omega
    have HCAP := Lib.hid hc6
    have HLEN := Lib.hid hlen6
    have HOWN := Lib.hid (ho6.mono (show wC.heap.size ≤ wF.heap.size from Nat.le_trans SE.out.size SF.out.size))
    clear hc6 ho6 hb6 hxs6 hs6 hlen6 bG rG
    go_wp2_with fail
    refine bodyPost_ret (v := .agg #[.int .i64 s6, .slice a6 xs6.length c6]) (by simp [results, Tryd.results49, go_sem, *]) rfl ⟨s6, xs6, a6, c6, rfl, by have := HLEN.out; omega, HCAP.out, ((((HOWN.out.setFar (p := ⟨wB.heap.size, 0, none⟩) ZC.out _).setFar (p := ⟨wB.heap.size, 1, none⟩) ZC.out _).setFar (p := ⟨w.heap.size, 0, none⟩) (by have := ZC.out; simp; omega) _).setFar (p := ⟨w.heap.size, 1, none⟩) (by have := ZC.out; simp; omega) _).mono (by have := ZC.out; omega), (SC.out.trans SG.out).low HBL.out (((((Below.refl _ _).setCell (by simp; omega) _).setCell (by simp; omega) _).setCell (by simp) _).setCell (by simp) _)⟩
  · have e0 : ((v : Int) == 0) = false := by simp; omega
    have e1 : ((v : Int) == 1) = false := by simp; omega
    have e2 : ((v : Int) == 2) = false := by simp; omega
    have e3 : ((v : Int) == 3) = false := by simp; omega
    clear v0 v1 v2 v3 hv
    obtain ⟨m1, m2, m3, m4⟩ := BC.out.two
    obtain ⟨q1, q2, q3, q4⟩ := RC.out.two
    obtain ⟨_, _, e9, hcap, _, hown⟩ := OC.out.parts
    injection e9 with e9a e9b e9c
    subst e9a e9c
    have HCAP := Lib.hid hcap
    have HOWN := Lib.hid hown
    clear hcap hown
    go_wp2_with fail
    refine bodyPost_ret (v := .agg #[.int .i64 s1, .slice a1 xs1.length c1]) (by simp [results, Tryd.results49, go_sem, *]) rfl ⟨s1, xs1, a1, c1, rfl, by have := HX1.out; have := HM.out; omega, HCAP.out, ((HOWN.out.setFar (p := ⟨w.heap.size, 0, none⟩) HS0.out _).setFar (p := ⟨w.heap.size, 1, none⟩) HS0.out _).mono (Nat.le_of_lt HS0.out), SC.out.low HBL.out (((Below.refl _ _).setCell (by simp) _).setCell (by simp) _)⟩

/-- The call returned two whole numbers, or what is none, in memory of their own. -/
def RetTwo (k : Nat) (w : World) (e : Ending) (w' : World) : Prop := ∃ s xs x c s' xs' x' c', e = .returned (.tuple #[.agg #[.int .i64 s, .slice x xs.length c], .agg #[.int .i64 s', .slice x' xs'.length c']]) ∧ xs.length ≤ k ∧ xs.length ≤ c ∧ xs'.length ≤ k ∧ xs'.length ≤ c' ∧ Own w' w.heap.size x xs ∧ Own w' w.heap.size x' xs' ∧ Below w.heap.size w w'
theorem Code8.below {B B' : Nat} {a : Option Addr} {len : Nat} {w w' : World} (h : Code8 B a len w) (hb : Below B w w') (hB : B ≤ B') : Code8 B' a len w' := fun i hi => by
  obtain ⟨c, o, u, ha, hc, hu, hcell⟩ := h i hi
  exact ⟨c, o, u, ha, by omega, hu, by rw [hb.cell (p := ⟨c, o + i, none⟩) hc]; exact hcell⟩
theorem own_set4 {w : World} {lo g g' : Nat} {x : Option Addr} {xs : List Int} (h : Own w lo x xs) (hg : g < lo) (hg' : g' < lo) (u0 u1 u2 u3 : Value) :
    Own ((((w.setCell ⟨g, 0, none⟩ u0).setCell ⟨g, 1, none⟩ u1).setCell ⟨g', 0, none⟩ u2).setCell ⟨g', 1, none⟩ u3) lo x xs :=
  (((h.setFar (p := ⟨g, 0, none⟩) hg u0).setFar (p := ⟨g, 1, none⟩) hg u1).setFar (p := ⟨g', 0, none⟩) hg' u2).setFar (p := ⟨g', 1, none⟩) hg' u3
theorem below_set4 {w W : World} {B g g' : Nat} (h : Below B w W) (hg : B ≤ g) (hg' : B ≤ g') (u0 u1 u2 u3 : Value) :
    Below B w ((((W.setCell ⟨g, 0, none⟩ u0).setCell ⟨g, 1, none⟩ u1).setCell ⟨g', 0, none⟩ u2).setCell ⟨g', 1, none⟩ u3) :=
  ((((h.setCell hg u0).setCell hg u1).setCell hg' u2).setCell hg' u3)

set_option maxRecDepth 100000 in
set_option maxHeartbeats 4000000 in
theorem twoW (a : Option Addr) (len cap : Nat) (w : World) (hlen : len ≤ 9223372036854775807) (hcode : Code8 w.heap.size a len w) :
    Calls Tryd.prog 65 #[.slice a len cap] w (RetTwo 1000 w) := by
  obtain ⟨W1, hW1⟩ : ∃ W1 : World, (w.alloc (.cells #[.int .i64 0, .slice none 0 0] 26)).alloc (.cells #[.int .i64 0, .slice none 0 0] 26) = W1 := ⟨_, rfl⟩
  obtain ⟨p0, p1, p8, p9⟩ := two_box w 26 #[.int .i64 0, .slice none 0 0] #[.int .i64 0, .slice none 0 0]
  rw [hW1] at p0 p1 p8 p9
  have HW1 := Lib.hid hW1
  have R1 := Lib.hid p0
  have R2 := Lib.hid p1
  have P8 := Lib.hid p8
  have P9 := Lib.hid p9
  have hF := Lib.hid (from_any a len cap W1 hlen (hcode.below p8 (by omega)))
  clear hW1 p0 p1 p8 p9 hlen hcode
  go_enter Tryd.func65, Tryd.ntmps65
  go_wp2_with fail
  rw [HW1.out]
  refine hF.out.mono ?_
  rintro e wA ⟨b, rfl, hbA, sA⟩
  have BA := Lib.hid hbA
  have SA := Lib.hid sA
  clear hbA sA hF
  go_wp2_with fail
  refine (spoilW W1.heap.size a len cap b wA SA.out).mono ?_
  rintro e wB ⟨s1, xs1, a1, c1, rfl, hx1, hc1, ho1, sB⟩
  have SB := Lib.hid sB
  have HX1 := Lib.hid hx1
  have HC1 := Lib.hid hc1
  have O1 := Lib.hid ho1
  clear hx1 hc1 ho1 sB
  go_wp2_with fail
  refine (spoilW W1.heap.size a len cap b wB SB.out.src).mono ?_
  rintro e wC ⟨s2, xs2, a2, c2, rfl, hx2, hc2, ho2, sC⟩
  have hbA : b < wA.heap.size := SA.out.hi
  have hlob : W1.heap.size ≤ b := SA.out.lo
  have SC := Lib.hid (SB.out.trans sC)
  have HX2 := Lib.hid hx2
  have HC2 := Lib.hid hc2
  have O1C := Lib.hid (O1.out.stay sC hbA)
  have O2C := Lib.hid ho2
  have R1C := Lib.hid ((R1.out.below BA.out).stay SC.out (by have := P9.out; omega))
  have R2C := Lib.hid ((R2.out.below BA.out).stay SC.out (by have := P9.out; omega))
  have HBA := Lib.hid hbA
  have HLB := Lib.hid hlob
  have ZB := Lib.hid (show wA.heap.size ≤ wB.heap.size ∧ wB.heap.size ≤ wC.heap.size from ⟨SB.out.size, sC.size⟩)
  clear hx2 hc2 ho2 sC hbA hlob
  obtain ⟨W2, hW2⟩ : ∃ W2 : World, (wC.alloc (.cells #[.int .i64 s1, .slice a1 xs1.length c1] 26)).alloc (.cells #[.int .i64 s2, .slice a2 xs2.length c2] 26) = W2 := ⟨_, rfl⟩
  obtain ⟨b1, b2, b8, b9⟩ := two_box wC 26 #[.int .i64 s1, .slice a1 xs1.length c1] #[.int .i64 s2, .slice a2 xs2.length c2]
  have st2 := (SC.out.alloc' (.cells #[.int .i64 s1, .slice a1 xs1.length c1] 26)).alloc' (.cells #[.int .i64 s2, .slice a2 xs2.length c2] 26)
  rw [hW2] at b1 b2 b8 b9 st2
  have HW2 := Lib.hid hW2
  have B1 := Lib.hid b1
  have B2 := Lib.hid b2
  have B8 := Lib.hid b8
  have B9 := Lib.hid b9
  have ST2 := Lib.hid st2
  clear hW2 b1 b2 b8 b9 st2
  go_wp2_with fail
  rw [HW2.out]
  refine (next_any W1.heap.size a len cap b 8 W2 ST2.out.src (by omega) (by omega)).mono ?_
  rintro e wD ⟨v, hv, rfl, sD⟩
  have SD := Lib.hid (ST2.out.trans sD)
  have ZD := Lib.hid (show wC.heap.size + 1 < wD.heap.size by have := sD.size; have := B9.out; omega)
  have B1D := Lib.hid (B1.out.stay sD (by have := HBA.out; have := ZB.out; omega))
  have B2D := Lib.hid (B2.out.stay sD (by have := HBA.out; have := ZB.out; omega))
  have R1D := Lib.hid ((R1C.out.below B8.out).stay sD (by have := HLB.out; have := P9.out; omega))
  have R2D := Lib.hid ((R2C.out.below B8.out).stay sD (by have := HLB.out; have := P9.out; omega))
  have O1D := Lib.hid ((O1C.out.below B8.out).stay sD (by have := HBA.out; omega))
  have O2D := Lib.hid ((O2C.out.below B8.out).stay sD (by have := HBA.out; have := ZB.out; omega))
  have HLO := Lib.hid (show w.heap.size + 1 < wA.heap.size by have := BA.out.size; have := P9.out; have := HBA.out; have := HLB.out; omega)
  have UD := Lib.hid (show Below w.heap.size w wD from P8.out.trans ((BA.out.mono (by have := P9.out; omega)).trans ((SD.out.below (by have := BA.out.size; omega)).mono (by have := P9.out; omega))))
  clear sD SA SB SC O1 O1C O2C R1 R2 R1C R2C B1 B2 B8 ST2 BA
  obtain ⟨m1, m2, m3, m4⟩ := B1D.out.two
  obtain ⟨m5, m6, m7, m8⟩ := B2D.out.two
  obtain ⟨q1, q2, q3, q4⟩ := R1D.out.two
  obtain ⟨q5, q6, q7, q8⟩ := R2D.out.two
  have hne1 : wC.heap.size ≠ w.heap.size := by have := HLO.out; have := ZB.out; omega
  have hne2 : wC.heap.size ≠ w.heap.size + 1 := by have := HLO.out; have := ZB.out; omega
  have hne3 : wC.heap.size + 1 ≠ w.heap.size := by have := HLO.out; have := ZB.out; omega
  have hne4 : wC.heap.size + 1 ≠ w.heap.size + 1 := by have := HLO.out; have := ZB.out; omega
  by_cases v0 : v = 0
  · subst v0
    clear hv
    have SV := Lib.hid (show ∀ W, BoxAt W wC.heap.size 26 #[.int .i64 s1, .slice a1 xs1.length c1] → (W.cell? ⟨wC.heap.size, 0, none⟩ = some (.int .i64 s1) ∧ W.cell? ⟨wC.heap.size, 1, none⟩ = some (.slice a1 xs1.length c1)) from fun W h => ⟨h.cell 0, h.cell 1⟩)
    have TV := Lib.hid (show ∀ W u0 u1, BoxAt W wC.heap.size 26 #[.int .i64 s1, .slice a1 xs1.length c1] → (fun W : World => W.cell? ⟨wC.heap.size, 0, none⟩ = some (.int .i64 s1) ∧ W.cell? ⟨wC.heap.size, 1, none⟩ = some (.slice a1 xs1.length c1)) ((W.setCell ⟨w.heap.size, 0, none⟩ u0).setCell ⟨w.heap.size, 1, none⟩ u1) from fun W u0 u1 h => ⟨((h.far (p := ⟨w.heap.size, 0, none⟩) hne1 u0).far (p := ⟨w.heap.size, 1, none⟩) hne1 u1).cell 0, ((h.far (p := ⟨w.heap.size, 0, none⟩) hne1 u0).far (p := ⟨w.heap.size, 1, none⟩) hne1 u1).cell 1⟩)
    have T4 := Lib.hid (show ∀ W u0 u1 u2 u3, BoxAt W wC.heap.size 26 #[.int .i64 s1, .slice a1 xs1.length c1] → (fun W : World => W.cell? ⟨wC.heap.size, 0, none⟩ = some (.int .i64 s1) ∧ W.cell? ⟨wC.heap.size, 1, none⟩ = some (.slice a1 xs1.length c1)) ((((W.setCell ⟨w.heap.size, 0, none⟩ u0).setCell ⟨w.heap.size, 1, none⟩ u1).setCell ⟨w.heap.size + 1, 0, none⟩ u2).setCell ⟨w.heap.size + 1, 1, none⟩ u3) from fun W u0 u1 u2 u3 h => by
      have h4 := (((h.far (p := ⟨w.heap.size, 0, none⟩) hne1 u0).far (p := ⟨w.heap.size, 1, none⟩) hne1 u1).far (p := ⟨w.heap.size + 1, 0, none⟩) hne2 u2).far (p := ⟨w.heap.size + 1, 1, none⟩) hne2 u3
      exact ⟨h4.cell 0, h4.cell 1⟩)
    have hbx : BoxAt wD wC.heap.size 26 #[.int .i64 s1, .slice a1 xs1.length c1] := B1D.out
    have hbxd : BoxAt wD.drew wC.heap.size 26 #[.int .i64 s1, .slice a1 xs1.length c1] := B1D.out
    have HMK := Lib.hid (show Calls Tryd.prog 96 #[.int .i64 s1, .slice a1 xs1.length c1] wD.drew (fun e w' => ∃ s xs a c, e = .returned (.agg #[.int .i64 s, .slice a xs.length c]) ∧ xs.length ≤ xs1.length ∧ xs.length ≤ c ∧ Own w' wD.heap.size a xs ∧ Below wD.heap.size wD w') from (sMakeAny s1 a1 xs1 c1 wD.drew wD.heap.size (Nat.le_refl _) O1D.out.ints HC1.out (by have := HX1.out; omega)).mono fun e w' ⟨s, xs, v, he, hx, ho, hb⟩ => by
      obtain ⟨a, c, rfl, hc, _, hown⟩ := ho.parts
      exact ⟨s, xs, a, c, he, hx, hc, hown, ⟨hb.os, hb.tape, hb.output, hb.size, hb.block⟩⟩)
    clear m1 m2 m3 m4 m5 m6 m7 m8 q1 q2 q3 q4 q5 q6 q7 q8
    go_wp2_with fail
    go_region_held3 (fun W => W.cell? ⟨wC.heap.size, 0, none⟩ = some (.int .i64 s1) ∧ W.cell? ⟨wC.heap.size, 1, none⟩ = some (.slice a1 xs1.length c1))
      (with_reducible first | exact SV.out _ (by assumption) | exact TV.out _ _ _ (by assumption) | exact T4.out _ _ _ _ _ (by assumption))
      (first
      | (go_at_call 96; with_reducible refine (HMK.out).mono ?_; rintro e wE ⟨s5, xs5, a5, c5, rfl, hx5, hc5, hown5, hb5⟩; have hbE := BoxAt.below hbx hb5; have HX5 := Lib.hid hx5; have HC5 := Lib.hid hc5; have O5 := Lib.hid hown5; have B5 := Lib.hid hb5; obtain ⟨q1, q2, q3, q4⟩ := (BoxAt.below R1D.out hb5).two; obtain ⟨q5, q6, q7, q8⟩ := (BoxAt.below R2D.out hb5).two; clear hx5 hc5 hown5 hb5))
    all_goals
      go_wp2_with fail
      refine bodyPost_ret (v := .tuple #[.agg #[.int .i64 s1, .slice a1 xs1.length c1], .agg #[.int .i64 s5, .slice a5 xs5.length c5]]) (by simp [results, Tryd.results65, go_sem, *]) rfl ⟨s1, xs1, a1, c1, s5, xs5, a5, c5, rfl, HX1.out, HC1.out, by have := HX5.out; have := HX1.out; omega, HC5.out, (own_set4 (O1D.out.below B5.out) (by have := HLO.out; omega) HLO.out _ _ _ _).mono (by have := HLO.out; omega), (own_set4 O5.out (by have := HLO.out; have := ZB.out; have := ZD.out; (try simp); omega) (by have := HLO.out; have := ZB.out; have := ZD.out; (try simp); omega) _ _ _ _).mono (by have := HLO.out; have := ZB.out; have := ZD.out; (try simp); omega), below_set4 (UD.out.trans (B5.out.mono (by have := UD.out.size; exact this))) (Nat.le_refl _) (show w.heap.size ≤ w.heap.size + 1 by omega) _ _ _ _⟩
  by_cases v1 : v = 1
  · subst v1
    clear hv
    have SV := Lib.hid (show ∀ W, BoxAt W wC.heap.size 26 #[.int .i64 s1, .slice a1 xs1.length c1] → (W.cell? ⟨wC.heap.size, 0, none⟩ = some (.int .i64 s1) ∧ W.cell? ⟨wC.heap.size, 1, none⟩ = some (.slice a1 xs1.length c1)) from fun W h => ⟨h.cell 0, h.cell 1⟩)
    have TV := Lib.hid (show ∀ W u0 u1, BoxAt W wC.heap.size 26 #[.int .i64 s1, .slice a1 xs1.length c1] → (fun W : World => W.cell? ⟨wC.heap.size, 0, none⟩ = some (.int .i64 s1) ∧ W.cell? ⟨wC.heap.size, 1, none⟩ = some (.slice a1 xs1.length c1)) ((W.setCell ⟨w.heap.size, 0, none⟩ u0).setCell ⟨w.heap.size, 1, none⟩ u1) from fun W u0 u1 h => ⟨((h.far (p := ⟨w.heap.size, 0, none⟩) hne1 u0).far (p := ⟨w.heap.size, 1, none⟩) hne1 u1).cell 0, ((h.far (p := ⟨w.heap.size, 0, none⟩) hne1 u0).far (p := ⟨w.heap.size, 1, none⟩) hne1 u1).cell 1⟩)
    have T4 := Lib.hid (show ∀ W u0 u1 u2 u3, BoxAt W wC.heap.size 26 #[.int .i64 s1, .slice a1 xs1.length c1] → (fun W : World => W.cell? ⟨wC.heap.size, 0, none⟩ = some (.int .i64 s1) ∧ W.cell? ⟨wC.heap.size, 1, none⟩ = some (.slice a1 xs1.length c1)) ((((W.setCell ⟨w.heap.size, 0, none⟩ u0).setCell ⟨w.heap.size, 1, none⟩ u1).setCell ⟨w.heap.size + 1, 0, none⟩ u2).setCell ⟨w.heap.size + 1, 1, none⟩ u3) from fun W u0 u1 u2 u3 h => by
      have h4 := (((h.far (p := ⟨w.heap.size, 0, none⟩) hne1 u0).far (p := ⟨w.heap.size, 1, none⟩) hne1 u1).far (p := ⟨w.heap.size + 1, 0, none⟩) hne2 u2).far (p := ⟨w.heap.size + 1, 1, none⟩) hne2 u3
      exact ⟨h4.cell 0, h4.cell 1⟩)
    have hbx : BoxAt wD wC.heap.size 26 #[.int .i64 s1, .slice a1 xs1.length c1] := B1D.out
    have hbxd : BoxAt wD.drew wC.heap.size 26 #[.int .i64 s1, .slice a1 xs1.length c1] := B1D.out
    have HDR := Lib.hid (show Calls Tryd.prog 66 #[.pointer (some ⟨b, 0, none⟩), .int .i64 1] wD.drew (fun e w' => ∃ s xs x c, e = .returned (.agg #[.int .i64 s, .slice x xs.length c]) ∧ xs.length ≤ 1 ∧ xs.length ≤ c ∧ Own w' wD.heap.size x xs ∧ Stay W1.heap.size a len cap b wD w') from (drawW W1.heap.size a len cap b 1 (by omega) wD.drew (SD.out.src.drewN 1)).mono fun e w' ⟨s, xs, v, he, hx, ho, st⟩ => by
      obtain ⟨x, c, rfl, hc, _, hown⟩ := ho.parts
      exact ⟨s, xs, x, c, he, hx, hc, hown, ⟨st.os, st.tape, st.output, st.size, st.block, st.src⟩⟩)
    clear m1 m2 m3 m4 m5 m6 m7 m8 q1 q2 q3 q4 q5 q6 q7 q8
    go_wp2_with fail
    go_region_held3 (fun W => W.cell? ⟨wC.heap.size, 0, none⟩ = some (.int .i64 s1) ∧ W.cell? ⟨wC.heap.size, 1, none⟩ = some (.slice a1 xs1.length c1))
      (with_reducible first | exact SV.out _ (by assumption) | exact TV.out _ _ _ (by assumption) | exact T4.out _ _ _ _ _ (by assumption))
      (first
      | (go_at_call 66; with_reducible refine (HDR.out).mono ?_; rintro e wE ⟨s5, xs5, a5, c5, rfl, hx5, hc5, hown5, sE⟩; have hbE := BoxAt.stay hbx sE (by have := HBA.out; have := ZB.out; omega); have HX5 := Lib.hid hx5; have HC5 := Lib.hid hc5; have O5 := Lib.hid hown5; have SE := Lib.hid sE; obtain ⟨q1, q2, q3, q4⟩ := (BoxAt.stay R1D.out sE (by have := HLB.out; have := P9.out; omega)).two; obtain ⟨q5, q6, q7, q8⟩ := (BoxAt.stay R2D.out sE (by have := HLB.out; have := P9.out; omega)).two; clear hx5 hc5 hown5 sE))
    all_goals
      go_wp2_with fail
      refine bodyPost_ret (v := .tuple #[.agg #[.int .i64 s1, .slice a1 xs1.length c1], .agg #[.int .i64 s5, .slice a5 xs5.length c5]]) (by simp [results, Tryd.results65, go_sem, *]) rfl ⟨s1, xs1, a1, c1, s5, xs5, a5, c5, rfl, HX1.out, HC1.out, by have := HX5.out; omega, HC5.out, (own_set4 (Own.stay O1D.out SE.out HBA.out) (by have := HLO.out; omega) HLO.out _ _ _ _).mono (by have := HLO.out; omega), (own_set4 O5.out (by have := HLO.out; have := ZB.out; have := ZD.out; (try simp); omega) (by have := HLO.out; have := ZB.out; have := ZD.out; (try simp); omega) _ _ _ _).mono (by have := HLO.out; have := ZB.out; have := ZD.out; (try simp); omega), below_set4 (UD.out.trans ((SE.out.below (by have := UD.out.size; have := ZD.out; have := ZB.out; have := HLB.out; have := HBA.out; (try simp); omega)).mono (by have := P9.out; omega))) (Nat.le_refl _) (show w.heap.size ≤ w.heap.size + 1 by omega) _ _ _ _⟩
  by_cases v2 : v = 2
  · subst v2
    clear hv
    clear B2D
    go_wp2_with fail
    refine bodyPost_ret (v := .tuple #[.agg #[.int .i64 s1, .slice a1 xs1.length c1], .agg #[.int .i64 0, .slice none 0 0]]) (by simp [results, Tryd.results65, go_sem, *]) rfl ⟨s1, xs1, a1, c1, 0, ([] : List Int), none, 0, rfl, HX1.out, HC1.out, by simp, by simp, (own_set4 O1D.out (by have := HLO.out; omega) HLO.out _ _ _ _).mono (by have := HLO.out; omega), Own.nil, below_set4 UD.out (Nat.le_refl _) (show w.heap.size ≤ w.heap.size + 1 by omega) _ _ _ _⟩
  · have e0 : ((v : Int) == 0) = false := by simp; omega
    have e1 : ((v : Int) == 1) = false := by simp; omega
    have e2 : ((v : Int) == 2) = false := by simp; omega
    clear v0 v1 v2 hv
    go_wp2_with fail
    go_region
    all_goals
      go_wp2_with fail
      refine bodyPost_ret (v := .tuple #[.agg #[.int .i64 s1, .slice a1 xs1.length c1], .agg #[.int .i64 s2, .slice a2 xs2.length c2]]) (by simp [results, Tryd.results65, go_sem, *]) rfl ⟨s1, xs1, a1, c1, s2, xs2, a2, c2, rfl, HX1.out, HC1.out, HX2.out, HC2.out, (own_set4 O1D.out (by have := HLO.out; omega) HLO.out _ _ _ _).mono (by have := HLO.out; omega), (own_set4 O2D.out (by have := HLO.out; have := ZB.out; omega) (by have := HLO.out; have := ZB.out; omega) _ _ _ _).mono (by have := HLO.out; have := ZB.out; omega), (below_set4 UD.out (Nat.le_refl _) (show w.heap.size ≤ w.heap.size + 1 by omega) _ _ _ _).drew⟩

/-- The call returned a whole number, or what is none, in memory of its own. -/
def RetOne (k : Nat) (w : World) (e : Ending) (w' : World) : Prop := ∃ s xs x c, e = .returned (.agg #[.int .i64 s, .slice x xs.length c]) ∧ xs.length ≤ k ∧ xs.length ≤ c ∧ Own w' w.heap.size x xs ∧ Below w.heap.size w w'
theorem lim_len_small {n : Nat} (h : n ≤ 36893488147419103232) : (lim n).length ≤ 3 := by
  rw [lim_length]
  exact dig_length_le (Nat.lt_of_le_of_lt h (by decide))
end Go.Proofs.YtfjfmlofhifkmaaDoor
