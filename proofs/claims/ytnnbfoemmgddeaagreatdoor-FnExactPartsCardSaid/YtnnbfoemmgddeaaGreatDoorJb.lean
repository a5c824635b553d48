/-
  Draws of the law FnWholeRoots: a number to shift, and by how much. Conditions: the code's bytes can be read. Draws of the law FnWholeRoots: a number whose twos are counted, a number whose root is taken. Conditions: the code's bytes can be read. Draws of the law FnWholeRoots: two numbers with a common divisor. Conditions: the code's bytes can be read. Draws of the law FnWholeRoots: two numbers with a common divisor. Conditions: the code's bytes can be read. Facts of the law FnWholeRoots: squares of roots, quotients by the greatest common divisor, shifts back. No conditions: plain facts.
-/
import Derived.Test.YtnnbfoemmgddeaaGreatDoorSn
import Derived.Test.YtnnbfoemmgddeaaGreatDoorVl
import Derived.Test.YtnnbfoemmgddeaaGreatDoorUc
import Derived.Test.YtnnbfoemmgddeaaGreatDoorTd
import Derived.Test.YtnnbfoemmgddeaaGreatDoorWj
import Derived.Test.YtnnbfoemmgddeaaGreatDoorVo
import Derived.Test.YtnnbfoemmgddeaaGreatDoorHb
import Derived.Test.YtnnbfoemmgddeaaGreatDoorRb
import Derived.Test.YtnnbfoemmgddeaaGreatDoorUd
namespace Go.Proofs.YtnnbfoemmgddeaaGreatDoor
set_option linter.unusedVariables false
open Go Go.RowKit

/-- The call returned a whole number, or what is none, and an integer. -/
def RetWI (k : Nat) (w : World) (e : Ending) (w' : World) : Prop := ∃ s xs x c n, e = .returned (.tuple #[.agg #[.int .i64 s, .slice x xs.length c], .int .i64 n]) ∧ xs.length ≤ k ∧ xs.length ≤ c ∧ Own w' w.heap.size x xs ∧ InI64 n ∧ Below w.heap.size w w'

theorem small_pow_len {v : Nat} (h : v < 60) : (lim (2 ^ v)).length ≤ 3 := by
  rw [lim_length]
  refine dig_length_le ?_
  have h1 : 2 ^ v < 2 ^ 64 := Nat.pow_lt_pow_right (by omega) (by omega)
  exact Nat.lt_of_lt_of_le h1 (by decide)
theorem sq_len {m : Nat} (h : (lim m).length ≤ 10) {n : Nat} (hn : n ≤ m * m + 1) : (lim n).length ≤ 21 := by
  have h1 := val_lt (small_dig m)
  rw [val_dig, ← lim_length] at h1
  have h2 : m < 16777216 ^ 10 := Nat.lt_of_lt_of_le h1 (Nat.pow_le_pow_right (by omega) h)
  rw [lim_length]
  refine dig_length_le ?_
  have h3 : m * m ≤ 16777216 ^ 10 * 16777216 ^ 10 := Nat.mul_le_mul (by omega) (by omega)
  have h4 : (16777216 : Nat) ^ 21 = 16777216 ^ 10 * 16777216 ^ 10 * 16777216 := by rw [← Nat.pow_add, ← Nat.pow_succ]
  rw [h4]
  have h5 : 0 < (16777216 : Nat) ^ 10 := Nat.pow_pos (by omega)
  generalize (16777216 : Nat) ^ 10 = P at h2 h3 h5
  have h6 : 1 ≤ P * P := Nat.mul_pos h5 h5
  generalize P * P = Q at h3 h6
  omega

/-- What a draw of one number keeps in mind. -/
structure Drawn (W1 V : World) (w : World) (a : Option Addr) (len cap b g : Nat) (s : Int) (x : Option Addr) (xs : List Int) (c : Nat) : Prop where
  lo : w.heap.size < W1.heap.size
  base : W1.heap.size ≤ V.heap.size
  hb : W1.heap.size ≤ b
  hi : b < V.heap.size
  src : Src W1.heap.size a len cap V b
  box : BoxAt V g 29 #[.int .i64 s, .slice x xs.length c]
  ne : g ≠ b
  own : ∃ lo, b < lo ∧ W1.heap.size ≤ lo ∧ Own V lo x xs
  bel : Below W1.heap.size W1 V
  low : Below w.heap.size w W1
  res : BoxAt W1 w.heap.size 29 #[.int .i64 0, .slice none 0 0]
theorem Drawn.at_ {W1 V w : World} {a : Option Addr} {len cap b g : Nat} {s : Int} {x : Option Addr} {xs : List Int} {c : Nat} (h : Drawn W1 V w a len cap b g s x xs c) {W : World} (st : Stay W1.heap.size a len cap b V W) :
    (W.cell? ⟨g, 0, none⟩ = some (.int .i64 s) ∧ W.cell? ⟨g, 1, none⟩ = some (.slice x xs.length c)) ∧
    (W.cell? ⟨w.heap.size, 0, none⟩ = some (.int .i64 0) ∧ W.cell? ⟨w.heap.size, 1, none⟩ = some (.slice none 0 0) ∧ W.frozen? ⟨w.heap.size, 0, none⟩ = false ∧ W.frozen? ⟨w.heap.size, 1, none⟩ = false) ∧ Below W1.heap.size W1 W ∧ Ints W W.heap.size x xs := by
  have h1 := h.box.stay st h.ne
  have h2 : Below W1.heap.size W1 W := h.bel.trans (st.below h.base)
  obtain ⟨lo, hl, _, ho⟩ := h.own
  exact ⟨⟨h1.cell 0, h1.cell 1⟩, (h.res.below h2).two, h2, (ho.stay st hl).ints⟩
/-- The end: the number that was drawn is returned. -/
theorem Drawn.out {W1 V w : World} {a : Option Addr} {len cap b g : Nat} {s : Int} {x : Option Addr} {xs : List Int} {c : Nat} (h : Drawn W1 V w a len cap b g s x xs c) {W : World} (st : Stay W1.heap.size a len cap b V W) {t : Int} {y : Option Addr} {ys : List Int} {d lo : Nat} (ho : Own W lo y ys) (hlo : W1.heap.size ≤ lo) (hk : ys.length ≤ 1000) (hd : ys.length ≤ d) (u0 u1 : Value) :
    RetOne 1000 w (.returned (.agg #[.int .i64 t, .slice y ys.length d])) ((W.setCell ⟨w.heap.size, 0, none⟩ u0).setCell ⟨w.heap.size, 1, none⟩ u1) := by
  have hl := h.lo
  have h2 : Below W1.heap.size W1 W := h.bel.trans (st.below h.base)
  exact ⟨t, ys, y, d, rfl, hk, hd, ((ho.setFar (p := ⟨w.heap.size, 0, none⟩) (by show w.heap.size < lo; omega) _).setFar (p := ⟨w.heap.size, 1, none⟩) (by show w.heap.size < lo; omega) _).mono (by omega), ((h.low.trans (h2.mono (by omega))).setCell (Nat.le_refl _) _).setCell (Nat.le_refl _) _⟩
theorem Drawn.same {W1 V w : World} {a : Option Addr} {len cap b g : Nat} {s : Int} {x : Option Addr} {xs : List Int} {c : Nat} (h : Drawn W1 V w a len cap b g s x xs c) {W : World} (st : Stay W1.heap.size a len cap b V W) (hk : xs.length ≤ 1000) (hd : xs.length ≤ c) (u0 u1 : Value) :
    RetOne 1000 w (.returned (.agg #[.int .i64 s, .slice x xs.length c])) ((W.setCell ⟨w.heap.size, 0, none⟩ u0).setCell ⟨w.heap.size, 1, none⟩ u1) := by
  obtain ⟨lo, hl, hw, ho⟩ := h.own
  exact h.out st (ho.stay st hl) hw hk hd u0 u1

/-- The call drew a whole number. -/
def RetSN (k : Nat) (B : Nat) (a : Option Addr) (len cap b : Nat) (w : World) (e : Ending) (w' : World) : Prop := ∃ s n x c, e = .returned (.agg #[.int .i64 s, .slice x (lim n).length c]) ∧ Sg s n ∧ (lim n).length ≤ k ∧ (lim n).length ≤ c ∧ Own w' w.heap.size x (lim n) ∧ Stay B a len cap b w w'
theorem ofN_snoc (L : List Nat) (k : Nat) : ofN (L ++ [k]) = ofN L ++ [(k : Int)] := by simp [ofN]

set_option maxRecDepth 100000 in
set_option maxHeartbeats 1600000 in
theorem drawWN (B : Nat) (a : Option Addr) (len cap b : Nat) (m : Nat) (hm : m ≤ 200) (w : World) (hs : Src B a len cap w b) :
    Calls Tryz.prog 254 #[.pointer (some ⟨b, 0, none⟩), .int .i64 (m : Int)] w (RetSN m B a len cap b w) := by
  have hbl := hs.hi
  have h1 := ((Stay.refl hs).alloc' (.cells #[.int .i64 0, .slice none 0 0] 29)).alloc' (.cells #[] 2)
  obtain ⟨W1, hW1⟩ : ∃ W1 : World, (w.alloc (.cells #[.int .i64 0, .slice none 0 0] 29)).alloc (.cells #[] 2) = W1 := ⟨_, rfl⟩
  have hov : OwnV W1 (w.heap.size + 1) (.slice (some ⟨w.heap.size + 1, 0, none⟩) 0 0) [] := by
    rw [← hW1]
    have := OwnV.empty (w.alloc (.cells #[.int .i64 0, .slice none 0 0] 29)) (w.heap.size + 1) (by simp)
    simpa using this
  have hsz : W1.heap.size = w.heap.size + 1 + 1 := by rw [← hW1]; simp
  have hbx : BoxAt W1 w.heap.size 29 #[.int .i64 0, .slice none 0 0] := by rw [← hW1]; exact (BoxAt.new w _ _).alloc _
  rw [hW1] at h1
  have HW1 := Lib.hid hW1
  have mI : (m : Int) ≤ 200 := by omega
  clear hW1
  go_enter Tryz.func254, Tryz.ntmps254
  go_wp2_with fail
  rw [HW1.out]
  refine (next_any B a len cap b ((m : Int) + 1) W1 h1.src (by omega) (by omega)).mono ?_
  rintro e w1 ⟨v, hv, rfl, hst⟩
  have h2 := Lib.hid (h1.trans hst)
  have hov1 := Lib.hid (hov.stay hst (by omega))
  have hbx1 := Lib.hid (hbx.stay hst (by omega))
  have hvm := Lib.hid (show v ≤ m by omega)
  have hsz1 := Lib.hid (show w.heap.size + 1 + 1 ≤ w1.heap.size by have := hst.size; omega)
  have HM := Lib.hid hm
  have HBL := Lib.hid hbl
  clear hst h1 hov hbx hs hv hsz hm mI
  go_wp2_with fail
  go_loopw [5, 6] (fun u i wr => ∃ (j : Nat) (L : List Nat), i = .int .i64 (j : Int) ∧ L.length + j ≤ m ∧ Small L ∧ OwnV wr (w.heap.size + 1) u (ofN L) ∧ BoxAt wr w.heap.size 29 #[.int .i64 0, .slice none 0 0] ∧ Stay B a len cap b w wr ∧ w.heap.size + 1 + 1 ≤ wr.heap.size) (fun _ i _ => (intOf i).toNat)
  case atStart => exact ⟨v, [], rfl, by have := hvm.out; simpa using this, small_nil, hov1.out, hbx1.out, h2.out, hsz1.out⟩
  case round =>
    obtain ⟨j, L, rfl, hlen, hsm, hov, hbx, hst, hsz⟩ := hrel
    have HSM := Lib.hid hsm
    have HLEN := Lib.hid hlen
    have HOV := Lib.hid hov
    have HBX := Lib.hid hbx
    have HST := Lib.hid hst
    have HSZ := Lib.hid hsz
    by_cases hj : j = 0
    · subst hj
      obtain ⟨a', c', rfl, hc', _, ho⟩ := HOV.out.parts
      rw [ofN_length] at hc' ⊢
      have HO := Lib.hid ho
      have HC := Lib.hid hc'
      clear ho hc' hlen hsm hov hbx hst hsz hbl
      go_wp2_with fail
      refine (pickP_from (fun z => z = 1 ∨ z = -1) (Stay.refl HST.out.src) [1, -1] 2 2 rfl (by omega) (by omega) (by intro x hx; simpa using hx) _ rfl).mono ?_
      rintro e wD ⟨z, hz, rfl, sD⟩
      have HZ := Lib.hid hz
      have HSD := Lib.hid sD
      have hlenL := HLEN.out
      have HLL := Lib.hid (show L.length ≤ 8388608 by have := HM.out; omega)
      clear hz sD hlenL
      have OD := Lib.hid (HO.out.stay HSD.out (by have := HBL.out; omega))
      go_wp2_with fail
      refine (sMake z a' L c' wD wD.heap.size (Nat.le_refl _) OD.out.ints HSM.out HC.out HLL.out).mono ?_
      rintro e wE ⟨a2, c2, rfl, hx1, ho, hb⟩
      have hbE := (HBX.out.stay HSD.out (by have := HBL.out; omega)).below hb
      obtain ⟨q1, q2, q3, q4⟩ := hbE.two
      have hstE := (HST.out.trans HSD.out).low HBL.out (hb.mono (by have := HSD.out.size; have := HSZ.out; omega))
      have hlo : w.heap.size < wD.heap.size := by have := HSD.out.size; have := HSZ.out; omega
      have HX1 := Lib.hid hx1
      have HOE := Lib.hid ho
      have HSE := Lib.hid hstE
      have HVL := Lib.hid (show (lim (val L)).length ≤ m from by rw [lim_length]; have := dig_length_val_le HSM.out; have := HLEN.out; omega)
      have HSG := Lib.hid (show Sg (sgnOf z (val L)) (val L) from by
        by_cases h0 : val L = 0
        · rw [h0]; exact .inl ⟨rfl, rfl⟩
        · rw [sgnOf_pos h0]; exact .inr ⟨h0, HZ.out⟩)
      obtain ⟨s', hs'⟩ : ∃ s', sgnOf z (val L) = s' := ⟨_, rfl⟩
      obtain ⟨n', hn'⟩ : ∃ n', val L = n' := ⟨_, rfl⟩
      rw [hs'] at HSG
      rw [hn'] at HSG HVL HOE HX1
      rw [hs', hn']
      clear hx1 ho hb hbE hstE hs' hn'
      go_wp2_with fail
      refine bodyPost_ret (v := .agg #[.int .i64 s', .slice a2 (lim n').length c2]) (by simp [results, Tryz.results254, go_sem, *]) rfl ⟨s', n', a2, c2, rfl, HSG.out, HVL.out, HX1.out, ((HOE.out.setFar (p := ⟨w.heap.size, 0, none⟩) (by omega) _).setFar (p := ⟨w.heap.size, 1, none⟩) (by omega) _).mono (by omega), HSE.out.low HBL.out (((Below.refl _ _).setCell (by simp) _).setCell (by simp) _)⟩
    · have hj0 : (0 : Int) < (j : Int) := by omega
      have hjb : (j : Int) ≤ 9223372036854775807 := by have := HM.out; omega
      have HJ := Lib.hid hj
      clear hlen hsm hov hbx hst hsz hbl hj
      go_wp2_with fail
      refine (next_any B a len cap b 16777216 wr HST.out.src (by omega) (by omega)).mono ?_
      rintro e wA ⟨x1, hx1, rfl, sA⟩
      have X1 := Lib.hid (show x1 < 16777216 by omega)
      have SA := Lib.hid sA
      clear hx1 sA
      go_wp2_with fail
      refine (next_any B a len cap b 16777216 wA SA.out.src (by omega) (by omega)).mono ?_
      rintro e wB ⟨x2, hx2, rfl, sB⟩
      have X2 := Lib.hid (show x2 < 16777216 by omega)
      have SB := Lib.hid (SA.out.trans sB)
      clear hx2 sB
      go_wp2_with fail
      refine (next_any B a len cap b 1000 wB SB.out.src (by omega) (by omega)).mono ?_
      rintro e wC ⟨x3, hx3, rfl, sC⟩
      have X3 := Lib.hid (show x3 < 16777216 by omega)
      have SC := Lib.hid (SB.out.trans sC)
      clear hx3 sC
      go_wp2_with fail
      refine (pickP_from (fun z => ∃ k : Nat, z = (k : Int) ∧ k < 16777216) SC.out [0, 1, 16777215, 8388608, (x1 : Int), (x2 : Int), (x3 : Int)] 2 7 rfl (by omega) (by omega) (by
        intro x hx
        simp at hx
        have := X1.out
        have := X2.out
        have := X3.out
        exact ⟨x.toNat, by rcases hx with h | h | h | h | h | h | h <;> rw [h] <;> omega, by rcases hx with h | h | h | h | h | h | h <;> rw [h] <;> omega⟩) _ rfl).mono ?_
      rintro e wD ⟨z, ⟨kz, rfl, hkz⟩, rfl, sD⟩
      have SD := Lib.hid sD
      have HKZ := Lib.hid hkz
      clear hkz sD
      have OW := Lib.hid (HOV.out.stay SD.out (by have := HBL.out; omega))
      have hszD : w.heap.size + 1 ≤ wD.heap.size := by have := SD.out.size; have := HSZ.out; omega
      go_wp2_with (at_builtin; refine wp_app1 rfl _ _ 27 rfl Tryz.underlying27 wD (kz : Int) rfl (w.heap.size + 1) _ (ofN L) OW.out rfl rfl (by have := HLEN.out; have := HM.out; have := ofN_length L; omega) hszD ?_; intro v' w' hown hb hs; have OW2 := Lib.hid hown; have HB2 := Lib.hid (hb (w.heap.size + 1) hszD (Nat.le_refl _)); have HS2 := Lib.hid hs; clear hown hb hs)
      go_roundw
      case rel =>
        refine ⟨j - 1, L ++ [kz], ?_, ?_, small_snoc HSM.out HKZ.out, by rw [ofN_snoc]; exact OW2.out, (HB2.out.block w.heap.size (Nat.lt_succ_self _)).trans (HBX.out.stay SD.out (by have := HBL.out; omega)), (HST.out.trans SD.out).low HBL.out (HB2.out.mono (Nat.le_succ _)), by have := SD.out.size; have := HSZ.out; have := HS2.out; omega⟩
        · have := HJ.out
          first | go_num | (congr 1; omega)
        · have := HLEN.out
          have := HJ.out
          simp
          omega
      case measure => have := HJ.out; simp [intOf]; omega

/-- What a draw of two numbers keeps in mind. -/
structure Drawn2 (W1 V : World) (w : World) (a : Option Addr) (len cap b g : Nat) (s1 : Int) (x1 : Option Addr) (xs1 : List Int) (c1 : Nat) (s2 : Int) (x2 : Option Addr) (xs2 : List Int) (c2 : Nat) : Prop where
  lo : w.heap.size + 1 < W1.heap.size
  base : W1.heap.size ≤ V.heap.size
  hb : W1.heap.size ≤ b
  hi : b < V.heap.size
  src : Src W1.heap.size a len cap V b
  box1 : BoxAt V g 29 #[.int .i64 s1, .slice x1 xs1.length c1]
  box2 : BoxAt V (g + 1) 29 #[.int .i64 s2, .slice x2 xs2.length c2]
  ne : b < g
  own1 : ∃ lo, b < lo ∧ W1.heap.size ≤ lo ∧ Own V lo x1 xs1
  own2 : ∃ lo, b < lo ∧ W1.heap.size ≤ lo ∧ Own V lo x2 xs2
  bel : Below W1.heap.size W1 V
  low : Below w.heap.size w W1
  res1 : BoxAt W1 w.heap.size 29 #[.int .i64 0, .slice none 0 0]
  res2 : BoxAt W1 (w.heap.size + 1) 29 #[.int .i64 0, .slice none 0 0]
section
variable {W1 V w : World} {a : Option Addr} {len cap b g : Nat} {s1 : Int} {x1 : Option Addr} {xs1 : List Int} {c1 : Nat} {s2 : Int} {x2 : Option Addr} {xs2 : List Int} {c2 : Nat}
theorem Drawn2.at_ (h : Drawn2 W1 V w a len cap b g s1 x1 xs1 c1 s2 x2 xs2 c2) {W : World} (st : Stay W1.heap.size a len cap b V W) :
    (W.cell? ⟨g, 0, none⟩ = some (.int .i64 s1) ∧ W.cell? ⟨g, 1, none⟩ = some (.slice x1 xs1.length c1) ∧ W.cell? ⟨g + 1, 0, none⟩ = some (.int .i64 s2) ∧ W.cell? ⟨g + 1, 1, none⟩ = some (.slice x2 xs2.length c2)) ∧
    (W.cell? ⟨w.heap.size, 0, none⟩ = some (.int .i64 0) ∧ W.cell? ⟨w.heap.size, 1, none⟩ = some (.slice none 0 0) ∧ W.frozen? ⟨w.heap.size, 0, none⟩ = false ∧ W.frozen? ⟨w.heap.size, 1, none⟩ = false) ∧
    (W.cell? ⟨w.heap.size + 1, 0, none⟩ = some (.int .i64 0) ∧ W.cell? ⟨w.heap.size + 1, 1, none⟩ = some (.slice none 0 0) ∧ W.frozen? ⟨w.heap.size + 1, 0, none⟩ = false ∧ W.frozen? ⟨w.heap.size + 1, 1, none⟩ = false) ∧ Ints W W.heap.size x1 xs1 ∧ Ints W W.heap.size x2 xs2 := by
  have hne := h.ne
  have h1 := h.box1.stay st (by omega)
  have h1' := h.box2.stay st (by omega)
  have h2 : Below W1.heap.size W1 W := h.bel.trans (st.below h.base)
  obtain ⟨lo, hl, _, ho⟩ := h.own1
  obtain ⟨lo', hl', _, ho'⟩ := h.own2
  exact ⟨⟨h1.cell 0, h1.cell 1, h1'.cell 0, h1'.cell 1⟩, (h.res1.below h2).two, (h.res2.below h2).two, (ho.stay st hl).ints, (ho'.stay st hl').ints⟩
/-- The same behind what was drawn, with one more variable. -/
theorem Drawn2.next (h : Drawn2 W1 V w a len cap b g s1 x1 xs1 c1 s2 x2 xs2 c2) {W : World} (st : Stay W1.heap.size a len cap b V W) (t : TypeId) (cs : Array Value) : Drawn2 W1 (W.alloc (.cells cs t)) w a len cap b g s1 x1 xs1 c1 s2 x2 xs2 c2 := by
  have hne := h.ne
  have hsz := st.size
  have hhi := h.hi
  have hba := h.base
  obtain ⟨lo, hl, hw, ho⟩ := h.own1
  obtain ⟨lo', hl', hw', ho'⟩ := h.own2
  exact ⟨h.lo, by simp; omega, h.hb, by simp; omega, st.src.alloc _ (by have := st.src.hi; omega), (h.box1.stay st (by omega)).alloc _, (h.box2.stay st (by omega)).alloc _, h.ne, ⟨lo, hl, hw, (ho.stay st hl).alloc _⟩, ⟨lo', hl', hw', (ho'.stay st hl').alloc _⟩, (h.bel.trans (st.below h.base)).alloc (by omega) _, h.low, h.res1, h.res2⟩
/-- The end: the numbers that were drawn are returned. -/
theorem Drawn2.out (h : Drawn2 W1 V w a len cap b g s1 x1 xs1 c1 s2 x2 xs2 c2) {W : World} (hb : Below W1.heap.size W1 W) {t : Int} {y : Option Addr} {ys : List Int} {d lo : Nat} (ho : Own W lo y ys) (hlo : W1.heap.size ≤ lo) (hk : ys.length ≤ 1000) (hd : ys.length ≤ d)
    {t' : Int} {y' : Option Addr} {ys' : List Int} {d' lo' : Nat} (ho' : Own W lo' y' ys') (hlo' : W1.heap.size ≤ lo') (hk' : ys'.length ≤ 1000) (hd' : ys'.length ≤ d') {p q : Nat} (hp : p = w.heap.size ∨ p = w.heap.size + 1) (hq : q = w.heap.size ∨ q = w.heap.size + 1) (u0 u1 u2 u3 : Value) :
    RetTwo 1000 w (.returned (.tuple #[.agg #[.int .i64 t, .slice y ys.length d], .agg #[.int .i64 t', .slice y' ys'.length d']])) ((((W.setCell ⟨p, 0, none⟩ u0).setCell ⟨p, 1, none⟩ u1).setCell ⟨q, 0, none⟩ u2).setCell ⟨q, 1, none⟩ u3) := by
  have hl := h.lo
  exact ⟨t, ys, y, d, t', ys', y', d', rfl, hk, hd, hk', hd', (own_set4 ho (by omega) (by omega) _ _ _ _).mono (by omega), (own_set4 ho' (by omega) (by omega) _ _ _ _).mono (by omega), below_set4 (h.low.trans (hb.mono (by omega))) (by omega) (by omega) _ _ _ _⟩
end
theorem three_eq {a b c : Int} {l m : List Int} {d : Int} (h : (a, l, b) = (c, m, d)) : a = c ∧ l = m ∧ b = d := by
  injection h with h1 h2
  injection h2 with h2 h3
  exact ⟨h1, h2, h3⟩
theorem sg1 {n : Nat} : Sg (sgnOf 1 n) n := by
  by_cases h : n = 0
  · subst h; exact .inl ⟨rfl, rfl⟩
  · rw [sgnOf_pos h]; exact .inr ⟨h, .inl rfl⟩
theorem sg1_mul (n : Nat) : sgnOf 1 n * (n : Int) = (n : Int) := by
  by_cases h : n = 0
  · subst h; rfl
  · rw [sgnOf_pos h]; omega
theorem fitZ_nat {n : Nat} (h : (lim n).length ≤ 200) : fitZ (n : Int) = (sgnOf 1 n, lim n, 0) := by
  have := fitZ_sg (sg1 (n := n)) h
  rwa [sg1_mul] at this
theorem one_wh : IsWh 1 [1] := by
  refine .inr ⟨by simp, ⟨by simp, by simp⟩, fun i hi => ?_, .inl rfl⟩
  have h0 : i = 0 := by simp at hi; omega
  subst h0
  simp
theorem wv_one : wv 1 [1] = 1 := by simp [wv, val]
theorem rootN_next {m : Nat} (hm : (lim m).length ≤ 200) : (lim (rootN m + 1)).length ≤ 200 := by
  have h := (rootN_spec m).1
  by_cases h1 : rootN m + 1 ≤ m
  · exact Nat.le_trans (lim_le_of_le h1) hm
  · have h2 : rootN m ≤ 1 := by
      rcases Nat.lt_or_ge 1 (rootN m) with h3 | h3
      · have : rootN m * 2 ≤ rootN m * rootN m := Nat.mul_le_mul_left _ h3
        omega
      · exact h3
    have := lim_le_of_le (show rootN m + 1 ≤ 2 by omega)
    have h4 : (lim 2).length ≤ 1 := by rw [lim_length]; exact dig_length_le (by decide)
    omega
/-- The root's facts. -/
theorem root_facts {s r1 : Int} {xs l : List Int} (h : (r1, l, (0 : Int)) = rootR s xs) :
    ∃ q1 ql v n1 nl, binR (fun x y => x * y) r1 l r1 l = (q1, ql, 0) ∧ cmpR q1 ql s xs = (v, 0) ∧ ¬ (0 < v) ∧ binR (fun x y => x + y) r1 l 1 [1] = (n1, nl, 0) ∧ (∀ p1 pl, binR (fun x y => x * y) n1 nl n1 nl = (p1, pl, 0) → cmpR p1 pl s xs = (1, 0)) := by
  by_cases hw : IsWh s xs
  · by_cases hs : s < 0
    · rw [rootR_neg hw hs] at h
      exact absurd (three_eq h).2.2 (by decide)
    · rw [rootR_yes hw hs] at h
      obtain ⟨m, rfl, hm, sm⟩ := isWh_of hw
      rw [val_lim] at h
      obtain ⟨rfl, rfl, _⟩ := three_eq h
      have hsp := rootN_spec m
      have hk1 := rootN_next hm
      have hsv : wv s (lim m) = (m : Int) := by
        rw [wv_lim]
        rcases sm with ⟨rfl, rfl⟩ | ⟨_, rfl | rfl⟩
        · rfl
        · omega
        · omega
      have hwk : IsWh (sgnOf 1 (rootN m)) (lim (rootN m)) := isWh_lim (Nat.le_trans (lim_le_of_le (Nat.le_succ _)) hk1) sg1
      have hwv : wv (sgnOf 1 (rootN m)) (lim (rootN m)) = (rootN m : Int) := by rw [wv_lim, sg1_mul]
      have hwn : IsWh (sgnOf 1 (rootN m + 1)) (lim (rootN m + 1)) := isWh_lim hk1 sg1
      have hwvn : wv (sgnOf 1 (rootN m + 1)) (lim (rootN m + 1)) = ((rootN m + 1 : Nat) : Int) := by rw [wv_lim, sg1_mul]
      have hq : (lim (rootN m * rootN m)).length ≤ 200 := Nat.le_trans (lim_le_of_le hsp.1) hm
      refine ⟨sgnOf 1 (rootN m * rootN m), lim (rootN m * rootN m), cmpZ ((rootN m * rootN m : Nat) : Int) (m : Int), sgnOf 1 (rootN m + 1), lim (rootN m + 1), ?_, ?_, ?_, ?_, ?_⟩
      · rw [binR_yes hwk hwk, hwv, ← fitZ_nat hq]
        congr 1
      · rw [cmpR_yes (isWh_lim hq sg1) hw, hsv, wv_lim, sg1_mul]
      · have h1 : ¬ ((m : Int) < ((rootN m * rootN m : Nat) : Int)) := by have := hsp.1; omega
        unfold cmpZ
        split
        · omega
        · first
            | (rw [if_neg h1]; omega)
            | omega
      · rw [binR_yes hwk one_wh, hwv, wv_one, ← fitZ_nat hk1]
        congr 1
      · intro p1 pl hp
        rw [binR_yes hwn hwn, hwvn] at hp
        obtain ⟨rfl, rfl, hl⟩ := fitZ_zero hp.symm
        rw [cmpR_yes (isWh_Z hl) hw, wv_Z, hsv, cmpZ_gt]
        have := hsp.2
        rw [← Int.natCast_mul]
        omega
  · rw [rootR_no hw] at h
    exact absurd (three_eq h).2.2 (by decide)

theorem gcd_one {m n : Nat} (h : m.gcd n ≠ 0) : (m / m.gcd n).gcd (n / m.gcd n) = 1 := by
  rw [Nat.gcd_div (Nat.gcd_dvd_left _ _) (Nat.gcd_dvd_right _ _)]
  exact Nat.div_self (Nat.pos_of_ne_zero h)
/-- The common divisor's facts. -/
theorem common_facts {s t d1 : Int} {xs ys l : List Int} (h : (d1, l, (0 : Int)) = binR gcdZ s xs t ys) (h0 : d1 ≠ 0) :
    ∃ x1 xl y1 yl, divR s xs d1 l = ⟨x1, xl, 0, [], 0⟩ ∧ divR t ys d1 l = ⟨y1, yl, 0, [], 0⟩ ∧ binR gcdZ x1 xl y1 yl = (1, [1], 0) := by
  by_cases hw : IsWh s xs ∧ IsWh t ys
  · obtain ⟨hw1, hw2⟩ := hw
    rw [binR_yes hw1 hw2] at h
    obtain ⟨m, rfl, hm, sm⟩ := isWh_of hw1
    obtain ⟨n, rfl, hn, sn⟩ := isWh_of hw2
    rw [wv_lim, wv_lim, gcdZ_lim sm sn] at h
    obtain ⟨e1, e2, hl⟩ := fitZ_zero h
    rw [Int.natAbs_natCast] at e2 hl
    have hg : m.gcd n ≠ 0 := fun hg => h0 (by rw [e1, hg]; rfl)
    have hd : d1 = 1 := by rw [e1]; exact Int.sign_eq_one_of_pos (by omega)
    subst hd e2
    have hwg : IsWh 1 (lim (m.gcd n)) := isWh_lim hl (.inr ⟨hg, .inl rfl⟩)
    have hr1 : m % m.gcd n = 0 := Nat.mod_eq_zero_of_dvd (Nat.gcd_dvd_left _ _)
    have hr2 : n % m.gcd n = 0 := Nat.mod_eq_zero_of_dvd (Nat.gcd_dvd_right _ _)
    have hsg : ∀ {s : Int} {k q : Nat}, Sg s k → q ≤ k → (q ≠ 0 → k ≠ 0) → Sg (sgnOf (s * 1) q) q := by
      intro s k q hs hq hk
      by_cases hq0 : q = 0
      · subst hq0; exact .inl ⟨rfl, rfl⟩
      · rw [sgnOf_pos hq0]
        rcases hs with ⟨h1, _⟩ | ⟨_, h1⟩
        · exact absurd h1 (hk hq0)
        · exact .inr ⟨hq0, by omega⟩
    have sx := hsg sm (Nat.div_le_self m (m.gcd n)) (by intro h1 h2; subst h2; simp at h1)
    have sy := hsg sn (Nat.div_le_self n (m.gcd n)) (by intro h1 h2; subst h2; simp at h1)
    have hwx : IsWh (sgnOf (s * 1) (m / m.gcd n)) (lim (m / m.gcd n)) := isWh_lim (Nat.le_trans (lim_le_of_le (Nat.div_le_self _ _)) hm) sx
    have hwy : IsWh (sgnOf (t * 1) (n / m.gcd n)) (lim (n / m.gcd n)) := isWh_lim (Nat.le_trans (lim_le_of_le (Nat.div_le_self _ _)) hn) sy
    refine ⟨sgnOf (s * 1) (m / m.gcd n), lim (m / m.gcd n), sgnOf (t * 1) (n / m.gcd n), lim (n / m.gcd n), ?_, ?_, ?_⟩
    · rw [divR_yes hw1 hwg (by decide), hr1, lim_zero, sgnOf_zero]
    · rw [divR_yes hw2 hwg (by decide), hr2, lim_zero, sgnOf_zero]
    · rw [binR_yes hwx hwy, wv_lim, wv_lim, gcdZ_lim sx sy, gcd_one hg, fitZ_nat (by rw [lim_one]; simp), lim_one]
      rfl
  · rw [binR_no hw] at h
    exact absurd (three_eq h).2.2 (by decide)

theorem blen_shift {n K : Nat} (h : n ≠ 0) (hl : (lim n).length ≤ 200) : blen (n * 2 ^ K) = blen n + (K : Int) := by
  obtain ⟨b, hb, _, hlt⟩ := blen_nat h hl
  have hb0 : b ≠ 0 := fun e => by subst e; simp at hlt; exact h hlt
  have h1 : ¬ (n < 2 ^ (b - 1)) := fun hh => by have := blen_le.2 hh; omega
  have h2 : blen (n * 2 ^ K) ≤ ((b + K : Nat) : Int) := blen_le.2 (by rw [Nat.pow_add]; exact Nat.mul_lt_mul_of_pos_right hlt (Nat.pow_pos (by omega)))
  have h3 : ¬ (blen (n * 2 ^ K) ≤ ((b - 1 + K : Nat) : Int)) := fun hh => by
    have h4 := blen_le.1 hh
    rw [Nat.pow_add] at h4
    exact h1 ((Nat.mul_lt_mul_right (Nat.pow_pos (by omega))).1 h4)
  omega
/-- The shift's facts. -/
theorem shift_facts {s f1 k : Int} {xs fl : List Int} (h : (f1, fl, (0 : Int)) = shR s xs k) (hk : 0 ≤ k) :
    shR f1 fl (-k) = (s, xs, 0) ∧ ∃ L1 L0, lenR f1 fl = (L1, 0) ∧ lenR s xs = (L0, 0) ∧ 0 ≤ L0 ∧ L0 ≤ 4800 ∧ k ≤ 5000 ∧ (s ≠ 0 → L1 = L0 + k) := by
  by_cases hw : IsWh s xs
  · by_cases hr : -5000 ≤ k ∧ k ≤ 5000
    · rw [shR_yes hw hr] at h
      obtain ⟨m, rfl, hm, sm⟩ := isWh_of hw
      obtain ⟨K, rfl⟩ : ∃ K : Nat, k = (K : Int) := ⟨k.toNat, by omega⟩
      rw [wv_lim, shZ_up] at h
      obtain ⟨e1, e2, hl⟩ := fitZ_zero h
      have hz : s * (m : Int) * 2 ^ K = s * ((m * 2 ^ K : Nat) : Int) := by rw [Int.natCast_mul, Int.mul_assoc]; simp
      have hp : 0 < 2 ^ K := Nat.pow_pos (by omega)
      have hsg : Sg s (m * 2 ^ K) := by
        rcases sm with ⟨rfl, rfl⟩ | ⟨h1, h2⟩
        · exact .inl ⟨by simp, rfl⟩
        · exact .inr ⟨Nat.mul_ne_zero h1 (by omega), h2⟩
      obtain ⟨g1, g2⟩ := hsg.eq rfl
      rw [hz] at e1 e2 hl
      rw [← g1] at e1
      rw [← g2] at e2 hl
      subst e1 e2
      have hwf : IsWh f1 (lim (m * 2 ^ K)) := isWh_lim hl hsg
      have hb := blen_nat' hm
      obtain ⟨b, hb, hb2, _⟩ := hb
      refine ⟨?_, blen (m * 2 ^ K), blen m, ?_, ?_, by omega, by omega, by omega, ?_⟩
      · rw [shR_yes hwf (by omega), wv_lim]
        have : shZ (f1 * ((m * 2 ^ K : Nat) : Int)) (-(K : Int)) = f1 * (m : Int) := by
          rcases Nat.eq_zero_or_pos K with h0 | h0
          · subst h0
            have := shZ_up (f1 * ((m * 2 ^ 0 : Nat) : Int)) 0
            simpa using this
          · rw [shZ_down _ _ h0, ← hz]
            exact Int.mul_ediv_cancel _ (by have := Int.pow_pos (n := 2) (m := K) (by omega); omega)
        rw [this, fitZ_sg sm hm]
      · rw [lenR_yes hwf, val_lim]
      · rw [lenR_yes hw, val_lim]
      · intro h0
        refine blen_shift (fun hm0 => ?_) hm
        rcases sm with ⟨_, e⟩ | ⟨e, _⟩
        · exact h0 e
        · exact e hm0
    · rw [shR_rng hw hr] at h
      exact absurd (three_eq h).2.2 (by decide)
  · rw [shR_no hw] at h
    exact absurd (three_eq h).2.2 (by decide)
end Go.Proofs.YtnnbfoemmgddeaaGreatDoor
