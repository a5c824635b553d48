/-
  Contract of the model: division bit by bit. Conditions: the limbs can be read, the divisor is not 0.
-/
import Derived.Test.YtpchcigpppdfiaaVp
import Derived.Test.YtpchcigpppdfiaaRd
import Derived.Test.YtpchcigpppdfiaaRa
import Derived.Test.YtpchcigpppdfiaaVj
import Derived.Test.YtpchcigpppdfiaaRb
import Derived.BigRegion
import Derived.BigQuiet
namespace Go.Proofs.Ytpchcigpppdfiaa
set_option linter.unusedVariables false
open Go Go.RowKit

theorem four_box (w : World) (t : TypeId) (p q r s : Array Value) : BoxAt ((((w.alloc (.cells p t)).alloc (.cells q t)).alloc (.cells r t)).alloc (.cells s t)) w.heap.size t p ∧ BoxAt ((((w.alloc (.cells p t)).alloc (.cells q t)).alloc (.cells r t)).alloc (.cells s t)) (w.heap.size + 1) t q ∧
    BoxAt ((((w.alloc (.cells p t)).alloc (.cells q t)).alloc (.cells r t)).alloc (.cells s t)) (w.heap.size + 1 + 1) t r ∧ BoxAt ((((w.alloc (.cells p t)).alloc (.cells q t)).alloc (.cells r t)).alloc (.cells s t)) (w.heap.size + 1 + 1 + 1) t s ∧
    Below w.heap.size w ((((w.alloc (.cells p t)).alloc (.cells q t)).alloc (.cells r t)).alloc (.cells s t)) ∧ ((((w.alloc (.cells p t)).alloc (.cells q t)).alloc (.cells r t)).alloc (.cells s t)).heap.size = w.heap.size + 4 := by
  obtain ⟨h1, h2, h3, h4, h5⟩ := three_box w t p q r
  have h6 := BoxAt.new (((w.alloc (.cells p t)).alloc (.cells q t)).alloc (.cells r t)) t s
  rw [h5] at h6
  exact ⟨h1.alloc _, h2.alloc _, h3.alloc _, h6, h4.alloc (by rw [h5]; omega) _, by simp⟩
/-- The rest and the quotient in memory. -/
structure DmSt (W0 wr : World) (gr gq : Nat) (R Q : List Nat) : Prop where
  bel : Below W0.heap.size W0 wr
  lr : W0.heap.size ≤ gr
  lq : W0.heap.size ≤ gq
  ne : gr ≠ gq
  rest : RowI wr gr (ofN R)
  quo : RowI wr gq (ofN Q)
theorem DmSt.drew {W0 wr : World} {gr gq : Nat} {R Q : List Nat} (h : DmSt W0 wr gr gq R Q) : DmSt W0 wr.drew gr gq R Q := ⟨h.bel.drew, h.lr, h.lq, h.ne, h.rest, h.quo⟩
theorem DmSt.drewN {W0 wr : World} {gr gq : Nat} {R Q : List Nat} (h : DmSt W0 wr gr gq R Q) (n : Nat) : DmSt W0 (wr.drewN n) gr gq R Q := ⟨below_drewN h.bel n, h.lr, h.lq, h.ne, h.rest, h.quo⟩
theorem DmSt.below {W0 wr w' : World} {gr gq : Nat} {R Q : List Nat} (h : DmSt W0 wr gr gq R Q) (hb : Below wr.heap.size wr w') : DmSt W0 w' gr gq R Q :=
  ⟨h.bel.trans (hb.mono h.bel.size), h.lr, h.lq, h.ne, h.rest.below hb h.rest.lt, h.quo.below hb h.quo.lt⟩
theorem DmSt.setR {W0 wr : World} {gr gq : Nat} {R Q : List Nat} (h : DmSt W0 wr gr gq R Q) (i x : Nat) (hi : i < R.length) : DmSt W0 (wr.setCell ⟨gr, i, none⟩ (.int .i64 (x : Int))) gr gq (R.set i x) Q :=
  ⟨h.bel.setCell h.lr _, h.lr, h.lq, h.ne, by rw [← ofN_set]; exact h.rest.set_ i (by rw [ofN_length]; exact hi) _, h.quo.far (p := ⟨gr, i, none⟩) (Ne.symm h.ne) _⟩
theorem DmSt.setQ {W0 wr : World} {gr gq : Nat} {R Q : List Nat} (h : DmSt W0 wr gr gq R Q) (i x : Nat) (hi : i < Q.length) : DmSt W0 (wr.setCell ⟨gq, i, none⟩ (.int .i64 (x : Int))) gr gq R (Q.set i x) :=
  ⟨h.bel.setCell h.lq _, h.lr, h.lq, h.ne, h.rest.far (p := ⟨gq, i, none⟩) h.ne _, by rw [← ofN_set]; exact h.quo.set_ i (by rw [ofN_length]; exact hi) _⟩
/-- Both slices behind their declaration. -/
def DmAt (W0 W : World) (p q : Value) (n l : Nat) : Prop := ∃ gr gq, p = .slice (some ⟨gr, 0, none⟩) (n + 1) (n + 1) ∧ q = .slice (some ⟨gq, 0, none⟩) l l ∧ DmSt W0 W gr gq (List.replicate (n + 1) 0) (List.replicate l 0)
theorem RowI.made' (w : World) (n : Nat) : RowI (w.alloc (.cells (madeCells #[.int .i64 0] n) 2)) w.heap.size (ofN (List.replicate n 0)) := by
  rw [ofN_zeros]
  exact RowI.made w n
theorem DmAt.mk1 {W0 : World} (n l : Nat) : DmAt W0 ((W0.alloc (.cells (madeCells #[.int .i64 0] (n + 1)) 2)).alloc (.cells (madeCells #[.int .i64 0] l) 2)) (.slice (some ⟨W0.heap.size, 0, none⟩) (n + 1) (n + 1)) (.slice (some ⟨W0.heap.size + 1, 0, none⟩) l l) n l := by
  have h := RowI.made' (W0.alloc (.cells (madeCells #[.int .i64 0] (n + 1)) 2)) l
  rw [size_al] at h
  exact ⟨_, _, rfl, rfl, ((Below.refl _ _).alloc (Nat.le_refl _) _).alloc (by simp) _, Nat.le_refl _, by omega, by omega, (RowI.made' W0 (n + 1)).alloc _, h⟩
theorem DmAt.mk2 {W0 : World} (n l : Nat) : DmAt W0 ((W0.alloc (.cells (madeCells #[.int .i64 0] l) 2)).alloc (.cells (madeCells #[.int .i64 0] (n + 1)) 2)) (.slice (some ⟨W0.heap.size + 1, 0, none⟩) (n + 1) (n + 1)) (.slice (some ⟨W0.heap.size, 0, none⟩) l l) n l := by
  have h := RowI.made' (W0.alloc (.cells (madeCells #[.int .i64 0] l) 2)) (n + 1)
  rw [size_al] at h
  exact ⟨_, _, rfl, rfl, ((Below.refl _ _).alloc (Nat.le_refl _) _).alloc (by simp) _, by omega, Nat.le_refl _, by omega, h, (RowI.made' W0 l).alloc _⟩
theorem DmAt.drew {W0 W : World} {p q : Value} {n l : Nat} (h : DmAt W0 W p q n l) : DmAt W0 W.drew p q n l := by
  obtain ⟨gr, gq, hp, hq, hs⟩ := h
  exact ⟨gr, gq, hp, hq, hs.drew⟩
theorem mk_ints1 (n : Nat) (h : 8 * (n + 1) ≤ 281474976710656) : ∀ w, (Instr.makeSlice 41 (.int .i64 ((n : Int) + 1)) (.int .i64 ((n : Int) + 1))).run Try.prog w = .ok (.slice (some ⟨w.heap.size, 0, none⟩) (n + 1) (n + 1)) (w.alloc (.cells (madeCells #[.int .i64 0] (n + 1)) 2)) := fun w => by
  have := mk_ints (n + 1) h w
  rwa [show ((n + 1 : Nat) : Int) = (n : Int) + 1 by omega] at this
/-- What the division by the model returns. -/
def RetDM (s t : Int) (q r : Nat) (w : World) (e : Ending) (w' : World) : Prop := ∃ a c a' c', e = .returned (.tuple #[.agg #[.int .i64 (sgnOf (s * t) q), .slice a (lim q).length c], .agg #[.int .i64 (sgnOf s r), .slice a' (lim r).length c']]) ∧ (lim q).length ≤ c ∧ (lim r).length ≤ c' ∧ Own w' w.heap.size a (lim q) ∧ Own w' w.heap.size a' (lim r) ∧ Apart a a' (lim q) (lim r) ∧ Below w.heap.size w w'
theorem blen_bits {n : Nat} (hl : (lim n).length ≤ 200) : ∃ b : Nat, blen n = (b : Int) ∧ b ≤ 24 * (dig n).length ∧ n < 2 ^ b := by
  by_cases h : n = 0
  · subst h; exact ⟨0, by simp [blen], by omega, by simp⟩
  · have h1 := blen_pos h
    have h2 := dig_length_pos h
    have h3 : blen n ≤ ((24 * (dig n).length : Nat) : Int) := blen_le.2 (by
      have := val_lt (small_dig n)
      rwa [val_dig, two24] at this)
    refine ⟨(blen n).toNat, by omega, by omega, ?_⟩
    exact blen_le.1 (by omega)

theorem far_twoD {w : World} {g g' : Nat} {v0 v1 : Value} {cs : Array Value} (hq : BoxAt w g 43 cs) (hr : BoxAt w g' 43 #[v0, v1]) (hne : g' ≠ g) :
    (∀ u v, ((w.setCell ⟨g, 0, none⟩ u).setCell ⟨g, 1, none⟩ v).cell? ⟨g', 0, none⟩ = some v0) ∧ (∀ u v, ((w.setCell ⟨g, 0, none⟩ u).setCell ⟨g, 1, none⟩ v).cell? ⟨g', 1, none⟩ = some v1) ∧
    (∀ u v, ((w.setCell ⟨g, 0, none⟩ u).setCell ⟨g, 1, none⟩ v).frozen? ⟨g', 0, none⟩ = false) ∧ (∀ u v, ((w.setCell ⟨g, 0, none⟩ u).setCell ⟨g, 1, none⟩ v).frozen? ⟨g', 1, none⟩ = false) := by
  have h := fun u v => BoxAt.two ((hr.far (p := ⟨g, 0, none⟩) hne u).far (p := ⟨g, 1, none⟩) hne v)
  exact ⟨fun u v => (h u v).1, fun u v => (h u v).2.1, fun u v => (h u v).2.2.1, fun u v => (h u v).2.2.2⟩
theorem apart_of {w1 w2 : World} {lo : Nat} {a a' : Option Addr} {xs ys : List Int} (h : Own w1 lo a xs) (h' : Own w2 w1.heap.size a' ys) : Apart a a' xs ys := by
  rcases h with h | ⟨g, e, _, hr⟩
  · exact .inl h
  · rcases h' with h' | ⟨g', e', hg', _⟩
    · exact .inr (.inl h')
    · refine .inr (.inr ?_)
      rw [e, e']
      intro hh
      injection hh with hh
      injection hh with hh
      have := hr.lt
      omega
theorem dmEnd {w W0 w1 w2 : World} {s t : Int} {q r : Nat} {a a' : Option Addr} {c c' : Nat} (P3 : Below w.heap.size w W0) (P4 : W0.heap.size = w.heap.size + 4) (h1 : Below W0.heap.size W0 w1) (h2 : Below w1.heap.size w1 w2) (ho : Own w1 W0.heap.size a (lim q)) (ho' : Own w2 w1.heap.size a' (lim r)) (hc : (lim q).length ≤ c) (hc' : (lim r).length ≤ c') (u1 u2 u3 u4 : Value) :
    RetDM s t q r w (.returned (.tuple #[.agg #[.int .i64 (sgnOf (s * t) q), .slice a (lim q).length c], .agg #[.int .i64 (sgnOf s r), .slice a' (lim r).length c']]))
      ((((w2.setCell ⟨w.heap.size + 1 + 1, 0, none⟩ u1).setCell ⟨w.heap.size + 1 + 1, 1, none⟩ u2).setCell ⟨w.heap.size + 1 + 1 + 1, 0, none⟩ u3).setCell ⟨w.heap.size + 1 + 1 + 1, 1, none⟩ u4) := by
  have hs1 := h1.size
  have hs2 := h2.size
  exact ⟨a, c, a', c', rfl, hc, hc', (((((ho.below h2).setFar (by simp; omega) _).setFar (by simp; omega) _).setFar (by simp; omega) _).setFar (by simp; omega) _).mono (by omega),
    ((((ho'.setFar (by simp; omega) _).setFar (by simp; omega) _).setFar (by simp; omega) _).setFar (by simp; omega) _).mono (by omega), apart_of ho ho',
    (((((P3.trans (h1.mono (by omega))).trans (h2.mono (by omega))).setCell (by simp <;> omega) _).setCell (by simp <;> omega) _).setCell (by simp <;> omega) _).setCell (by simp <;> omega) _⟩

set_option maxRecDepth 100000 in
set_option maxHeartbeats 4000000 in
theorem sDivMod (s t : Int) (a b : Option Addr) (m v c1 c2 : Nat) (w : World) (B C : Nat) (hB : B ≤ w.heap.size) (hC : C ≤ w.heap.size) (hx : Ints w B a (lim m)) (hy : Ints w C b (lim v)) (hs : Sg s m) (ht : Sg t v)
    (hl : (lim m).length ≤ 200) (hl' : (lim v).length ≤ 200) (hv : v ≠ 0) :
    Calls Try.prog 72 #[.agg #[.int .i64 s, .slice a (lim m).length c1], .agg #[.int .i64 t, .slice b (lim v).length c2]] w (RetDM s t (m / v) (m % v) w) := by
  obtain ⟨W0, hW0⟩ : ∃ W0 : World, (((w.alloc (.cells #[.int .i64 s, .slice a (lim m).length c1] 43)).alloc (.cells #[.int .i64 t, .slice b (lim v).length c2] 43)).alloc (.cells #[.int .i64 0, .slice none 0 0] 43)).alloc (.cells #[.int .i64 0, .slice none 0 0] 43) = W0 := ⟨_, rfl⟩
  obtain ⟨p1, p2, p5, p6, p3, p4⟩ := four_box w 43 #[.int .i64 s, .slice a (lim m).length c1] #[.int .i64 t, .slice b (lim v).length c2] #[.int .i64 0, .slice none 0 0] #[.int .i64 0, .slice none 0 0]
  rw [hW0] at p1 p2 p3 p4 p5 p6
  have HW0 := Lib.hid hW0
  have P3 := Lib.hid p3
  have P4 := Lib.hid p4
  obtain ⟨D, hD⟩ : ∃ D, D = dig v := ⟨_, rfl⟩
  obtain ⟨la, hla⟩ : ∃ la, la = (dig m).length := ⟨_, rfl⟩
  obtain ⟨n, hn⟩ : ∃ n, n = D.length := ⟨_, rfl⟩
  have hml : (lim m).length = la := by rw [lim_length, hla]
  have hvl : (lim v).length = n := by rw [lim_length, hn, hD]
  have SD := Lib.hid (show Small D ∧ val D = v ∧ D.length = n from ⟨hD ▸ small_dig v, by rw [hD, val_dig], hn.symm⟩)
  have hn0 : 0 < n := by rw [hn, hD]; exact dig_length_pos hv
  have hlimv : lim v = ofN D := by rw [hD]; rfl
  obtain ⟨bl, hb1, hb2, hb3⟩ := blen_bits hl
  rw [← hla] at hb2
  rw [hml, hvl] at HW0 ⊢
  rw [hml] at p1
  rw [hvl] at p2
  rw [hml] at hl
  rw [hvl] at hl'
  rw [hlimv] at hy
  have SS := Lib.hid (show ∀ W, Below W0.heap.size W0 W → (W.cell? ⟨w.heap.size, 0, none⟩ = some (.int .i64 s) ∧ W.cell? ⟨w.heap.size, 1, none⟩ = some (.slice a la c1) ∧ W.cell? ⟨w.heap.size + 1, 0, none⟩ = some (.int .i64 t) ∧ W.cell? ⟨w.heap.size + 1, 1, none⟩ = some (.slice b n c2)) from
    fun W hW => ⟨(p1.below hW).cell 0, (p1.below hW).cell 1, (p2.below hW).cell 0, (p2.below hW).cell 1⟩)
  have SR := Lib.hid (show ∀ W, Below W0.heap.size W0 W → BoxAt W (w.heap.size + 1 + 1) 43 #[.int .i64 0, .slice none 0 0] ∧ BoxAt W (w.heap.size + 1 + 1 + 1) 43 #[.int .i64 0, .slice none 0 0] from
    fun W hW => ⟨p5.below hW, p6.below hW⟩)
  have IX := Lib.hid (show ∀ W, Below W0.heap.size W0 W → Ints W C b (ofN D) from fun W hW => hy.below ((p3.mono hC).trans (hW.mono (by omega))))
  have IA := Lib.hid (show ∀ W, Below W0.heap.size W0 W → Ints W B a (lim m) ∧ B ≤ W.heap.size from fun W hW => ⟨hx.below ((p3.mono hB).trans (hW.mono (by omega))), by have := hW.size; omega⟩)
  have HLEN := Lib.hid (show ∀ W, Below W0.heap.size W0 W → Calls Try.prog 105 #[.agg #[.int .i64 s, .slice a la c1]] W (RetB (.int .i64 (bl : Int)) W) from
    fun W hW => by
      have := sLength s a m c1 W B (IA.out W hW).2 (IA.out W hW).1 (by omega)
      rwa [hb1, hml] at this)
  have HBIT := Lib.hid (show ∀ (k : Nat) W, k ≤ 4800 → Below W0.heap.size W0 W → Calls Try.prog 106 #[.agg #[.int .i64 s, .slice a la c1], .int .i64 (k : Int)] W (RetB (.int .i64 ((m / 2 ^ k % 2 : Nat) : Int)) W) from
    fun k W hk hW => by
      have := sBit s a m c1 k W B (IA.out W hW).2 (IA.out W hW).1 (by omega) (by omega)
      rwa [hml] at this)
  have hst : (-1 ≤ s ∧ s ≤ 1) ∧ (-1 ≤ t ∧ t ≤ 1) := by unfold Sg at hs ht; omega
  obtain ⟨⟨hs1, hs2⟩, ht1, ht2⟩ := hst
  have hwr : IntKind.i64.wrap (s * t) = s * t := by
    have h1 : s = -1 ∨ s = 0 ∨ s = 1 := by omega
    rw [IntKind.wrap_i64]
    rcases h1 with rfl | rfl | rfl <;> omega
  have hT : Below W0.heap.size W0 W0 := Below.refl _ _
  have hmk1 := mk_ints1 n (by omega)
  have hmk2 := mk_ints la (by omega)
  have HB := Lib.hid (show bl ≤ 24 * la ∧ m < 2 ^ bl ∧ la ≤ 200 ∧ n ≤ 200 ∧ 0 < n ∧ v ≠ 0 from ⟨hb2, hb3, hl, hl', hn0, hv⟩)
  have hnI : (n : Int) ≤ 200 := by omega
  have hlaI : (la : Int) ≤ 200 := by omega
  have hblI : (bl : Int) ≤ 4800 := by omega
  obtain ⟨k1, k2, k3, k4⟩ := SS.out _ hT
  clear p1 p2 p3 p4 p5 p6 hx hy hW0 hB hC hl hl' hs ht hv hD hla hn hml hvl hlimv hb1 hb2 hb3 hn0
  go_enter Try.func72, Try.ntmps72
  go_wp2_with fail
  rw [HW0.out]
  go_cut [6, 7, 8] (fun o p q W => o = .int .i64 (n : Int) ∧ DmAt W0 W p q n la)
  case first => as_aux_lemma =>
    obtain ⟨y1, y2, y3, y4⟩ := SS.out _ (bal (o := .cells (madeCells #[.int .i64 0] (n + 1)) 2) hT).drew
    go_region
    all_goals
      go_wp2_with fail
      go_meet
      first
      | exact ⟨rfl, (DmAt.mk1 n la).drew⟩
      | exact ⟨rfl, (DmAt.mk2 n la).drew⟩
  case rest => as_aux_lemma =>
    clear hmk1 hmk2 k1 k2 k3 k4
    obtain ⟨rfl, gr, gq, rfl, rfl, hst⟩ := hcut
    have HST := Lib.hid hst
    have HBW := Lib.hid hst.bel
    obtain ⟨k1, k2, k3, k4⟩ := SS.out _ hst.bel
    have hRl : (List.replicate (n + 1) 0 : List Nat).length = n + 1 := List.length_replicate
    have HD0 := Lib.hid (show DivAt m v (List.replicate (n + 1) 0) (List.replicate la 0) la bl from by
      have h0 : m / 2 ^ bl = 0 := Nat.div_eq_of_lt HB.out.2.1
      exact ⟨small_zeros _, by rw [val_zeros, h0, Nat.zero_mod], small_zeros _, List.length_replicate, by rw [val_zeros, h0, Nat.zero_div, Nat.zero_mul]⟩)
    clear hst hT
    go_wp2_with fail
    refine (HLEN.out _ HBW.out).mono ?_
    rintro e w2 ⟨rfl, hb2⟩
    have HS2 := Lib.hid (HST.out.below hb2)
    clear hb2 k1 k2 k3 k4 HST HBW HLEN
    go_wp2_with fail
    go_loopw [9] (fun q wr => ∃ (k : Nat) (R Q : List Nat), q = .int .i64 ((k : Int) - 1) ∧ k ≤ bl ∧ R.length = n + 1 ∧ Hid (DivAt m v R Q la k) ∧ Hid (DmSt W0 wr gr gq R Q)) (fun q _ => (intOf q + 1).toNat)
    case atStart => exact ⟨bl, _, _, rfl, Nat.le_refl _, hRl, HD0, HS2⟩
    case round =>
      clear HD0 HS2 hRl
      obtain ⟨k, R, Q, rfl, hk, hRl, hdv, hst⟩ := hrel
      by_cases hk0 : k = 0
      · subst hk0
        rw [show (((0 : Nat) : Int) - 1) = -1 from rfl]
        have hqv : val Q = m / v := by have h := hdv.out.quo; rwa [Nat.pow_zero, Nat.div_one, Nat.mul_one] at h
        have hrv : val R = m % v := by have h := hdv.out.rest; rwa [Nat.pow_zero, Nat.div_one] at h
        have HMQ := Lib.hid (show ∀ W, Below wr.heap.size wr W → Calls Try.prog 98 #[.int .i64 (s * t), .slice (some ⟨gq, 0, none⟩) la la] W fun e w' => ∃ a c, e = .returned (.agg #[.int .i64 (sgnOf (s * t) (m / v)), .slice a (lim (m / v)).length c]) ∧ (lim (m / v)).length ≤ c ∧ Own w' W0.heap.size a (lim (m / v)) ∧ Below wr.heap.size wr w' from
          fun W hW => by
            have h := sMake (s * t) (some ⟨gq, 0, none⟩) Q la W W.heap.size (Nat.le_refl _) (hst.out.below hW).quo.ints hdv.out.qsmall (by rw [hdv.out.qlen]; exact Nat.le_refl _) (by rw [hdv.out.qlen]; have := HB.out; omega)
            rw [hdv.out.qlen, hqv] at h
            exact h.mono fun e w' ⟨a, c, he, hc, ho, hb⟩ => ⟨a, c, he, hc, ho.mono (Nat.le_trans hst.out.bel.size hW.size), hW.trans (hb.mono hW.size)⟩)
        have HMR := Lib.hid (show ∀ W, Below wr.heap.size wr W → Calls Try.prog 98 #[.int .i64 s, .slice (some ⟨gr, 0, none⟩) (n + 1) (n + 1)] W fun e w' => ∃ a c, e = .returned (.agg #[.int .i64 (sgnOf s (m % v)), .slice a (lim (m % v)).length c]) ∧ (lim (m % v)).length ≤ c ∧ Own w' W.heap.size a (lim (m % v)) ∧ Below W.heap.size W w' ∧ Below wr.heap.size wr w' from
          fun W hW => by
            have h := sMake s (some ⟨gr, 0, none⟩) R (n + 1) W W.heap.size (Nat.le_refl _) (hst.out.below hW).rest.ints hdv.out.small (by rw [hRl]; exact Nat.le_refl _) (by rw [hRl]; have := HB.out; omega)
            rw [hRl, hrv] at h
            exact h.mono fun e w' ⟨a, c, he, hc, ho, hb⟩ => ⟨a, c, he, hc, ho, hb, hW.trans (hb.mono hW.size)⟩)
        have HBW := Lib.hid hst.out.bel
        have SX := Lib.hid (show ∀ W, Below wr.heap.size wr W → (W.cell? ⟨w.heap.size, 0, none⟩ = some (.int .i64 s) ∧ W.cell? ⟨w.heap.size + 1, 0, none⟩ = some (.int .i64 t)) from fun W hW => ⟨(SS.out _ (HBW.out.trans (hW.mono HBW.out.size))).1, (SS.out _ (HBW.out.trans (hW.mono HBW.out.size))).2.2.1⟩)
        have ST1 := Lib.hid (show ∀ W u v, Below wr.heap.size wr W → (fun W : World => W.cell? ⟨w.heap.size, 0, none⟩ = some (.int .i64 s) ∧ W.cell? ⟨w.heap.size + 1, 0, none⟩ = some (.int .i64 t)) ((W.setCell ⟨w.heap.size + 1 + 1, 0, none⟩ u).setCell ⟨w.heap.size + 1 + 1, 1, none⟩ v) from fun W u v hW =>
          ⟨by rw [World.cell?_setCell_far _ _ _ _ (by simp <;> omega), World.cell?_setCell_far _ _ _ _ (by simp <;> omega)]; exact (SX.out W hW).1, by rw [World.cell?_setCell_far _ _ _ _ (by simp <;> omega), World.cell?_setCell_far _ _ _ _ (by simp <;> omega)]; exact (SX.out W hW).2⟩)
        have ST2 := Lib.hid (show ∀ W u v u' v', Below wr.heap.size wr W → (fun W : World => W.cell? ⟨w.heap.size, 0, none⟩ = some (.int .i64 s) ∧ W.cell? ⟨w.heap.size + 1, 0, none⟩ = some (.int .i64 t)) ((((W.setCell ⟨w.heap.size + 1 + 1, 0, none⟩ u).setCell ⟨w.heap.size + 1 + 1, 1, none⟩ v).setCell ⟨w.heap.size + 1 + 1 + 1, 0, none⟩ u').setCell ⟨w.heap.size + 1 + 1 + 1, 1, none⟩ v') from fun W u v u' v' hW =>
          ⟨by rw [World.cell?_setCell_far _ _ _ _ (by simp <;> omega), World.cell?_setCell_far _ _ _ _ (by simp <;> omega)]; exact (ST1.out W u v hW).1, by rw [World.cell?_setCell_far _ _ _ _ (by simp <;> omega), World.cell?_setCell_far _ _ _ _ (by simp <;> omega)]; exact (ST1.out W u v hW).2⟩)
        have hV : Below wr.heap.size wr wr := Below.refl _ _
        have hVd : Below wr.heap.size wr wr.drew := hV.drew
        obtain ⟨k1, k2⟩ := SX.out _ hV
        clear hqv hrv hdv hst hRl
        go_wp2_with fail
        go_region_held3 (fun W => W.cell? ⟨w.heap.size, 0, none⟩ = some (.int .i64 s) ∧ W.cell? ⟨w.heap.size + 1, 0, none⟩ = some (.int .i64 t))
          (with_reducible first | exact SX.out _ (by assumption) | exact ST1.out _ _ _ (by assumption) | exact ST2.out _ _ _ _ _ (by assumption))
          (first
          | (go_at_call 98; with_reducible refine (HMQ.out _ (by assumption)).mono ?_; rintro e w4 ⟨a4, c4, rfl, hc4, ho4, hb4⟩)
          | (go_at_call 98; with_reducible refine (HMR.out _ (by assumption)).mono ?_; rintro e w5 ⟨a5, c5, rfl, hc5, ho5, hb5, hb5'⟩; have hx6 := (SR.out _ (HBW.out.trans (hb5'.mono HBW.out.size))).1; have hx7 := (SR.out _ (HBW.out.trans (hb5'.mono HBW.out.size))).2; obtain ⟨q1, q2, q3, q4⟩ := hx6.two; obtain ⟨r1, r2, r3, r4⟩ := hx7.two; obtain ⟨f1, f2, f3, f4⟩ := far_twoD hx6 hx7 (by omega)))
        have HEND := Lib.hid (fun u1 u2 u3 u4 => dmEnd (s := s) (t := t) P3.out P4.out (HBW.out.trans (hb4.mono HBW.out.size)) hb5 ho4 ho5 hc4 hc5 u1 u2 u3 u4)
        clear hc4 hc5 ho4 ho5 hb4 hb5 hb5' hV hVd
        go_wp2_with fail
        refine bodyPost_ret (v := .tuple #[.agg #[.int .i64 (sgnOf (s * t) (m / v)), .slice a4 (lim (m / v)).length c4], .agg #[.int .i64 (sgnOf s (m % v)), .slice a5 (lim (m % v)).length c5]]) (by simp [results, Try.results72, go_sem, *]) rfl ?_
        exact HEND.out _ _ _ _
      · obtain ⟨j, rfl⟩ : ∃ j, k = j + 1 := ⟨k - 1, by omega⟩
        have ej : (((j + 1 : Nat)) : Int) - 1 = (j : Int) := by omega
        rw [ej]
        have hjI : (j : Int) ≤ 4800 := by omega
        have hjI0 : (0 : Int) ≤ (j : Int) := by omega
        have HBI := Lib.hid (HBIT.out j wr (by omega) hst.out.bel)
        obtain ⟨tb, htb⟩ : ∃ tb, tb = m / 2 ^ j % 2 := ⟨_, rfl⟩
        have HTB := Lib.hid htb
        have htb1 : tb ≤ 1 := by rw [htb]; have := Nat.mod_lt (m / 2 ^ j) (show 0 < 2 by omega); omega
        rw [← htb] at HBI
        obtain ⟨k1, k2, k3, k4⟩ := SS.out _ hst.out.bel
        clear htb
        go_wp2_with fail
        refine HBI.out.mono ?_
        rintro e w3 ⟨rfl, hb3⟩
        have HS3 := Lib.hid (hst.out.below hb3)
        have HI3 := Lib.hid (dblInv_start hdv.out.small htb1)
        clear hb3 HBI k1 k2 k3 k4 hst
        go_wp2_with fail
        go_loopw [11, 10] (fun i c wq => ∃ (e : Nat) (S : List Nat) (cr : Nat), e ≤ n + 1 ∧ i = .int .i64 (e : Int) ∧ c = .int .i64 (cr : Int) ∧ Hid (DblInv R S tb cr e) ∧ Hid (DmSt W0 wq gr gq S Q)) (fun i _ _ => n + 1 - (intOf i).toNat)
        case atStart => exact ⟨0, R, tb, by omega, rfl, rfl, HI3, HS3⟩
        case round =>
          clear HI3 HS3
          obtain ⟨e, S, cr, he, rfl, rfl, hinv, hst⟩ := hrel
          have hlS : S.length = n + 1 := by rw [hinv.out.len, hRl]
          by_cases hen : e < n + 1
          · have heS : e < S.length := by omega
            obtain ⟨hs1', hs2'⟩ := dblInv_step hinv.out heS
            obtain ⟨x, hxe⟩ : ∃ x, x = S.getD e 0 := ⟨_, rfl⟩
            have h2 := hst.out.rest.cell e (by rw [ofN_length]; exact heS)
            rw [ofN_at, ← getD_of_lt heS, ← hxe] at h2
            have h3 := hst.out.rest.frozen e
            rw [← hxe] at hs1' hs2'
            have hxI : (x : Int) < 16777216 := by omega
            have hcI : (cr : Int) ≤ 1 := by have := hinv.out.c; omega
            have heI : (e : Int) ≤ (n : Int) := by omega
            have heI1 : (e : Int) < (n : Int) + 1 := by omega
            have HN := Lib.hid hs1'
            have HSN := Lib.hid (show DmSt W0 (wr.setCell ⟨gr, e, none⟩ (.int .i64 ((2 * (x : Int) + (cr : Int)) % 16777216))) gr gq (S.set e ((2 * x + cr) % 16777216)) Q from by
              have h := hst.out.setR e ((2 * x + cr) % 16777216) heS
              rwa [show (((2 * x + cr) % 16777216 : Nat) : Int) = (2 * (x : Int) + (cr : Int)) % 16777216 by omega] at h)
            clear hs1' hs2' hxe hinv hst
            go_wp2_with fail
            go_roundw
            case rel => exact ⟨e + 1, _, (2 * x + cr) / 16777216, by omega, by go_num, by first | rfl | (congr 1), HN, HSN⟩
            case measure => simp [intOf]; omega
          · obtain rfl : e = n + 1 := by omega
            rw [show ((n + 1 : Nat) : Int) = (n : Int) + 1 by omega]
            have hbd : val R < v := by rw [hdv.out.rest]; exact Nat.mod_lt _ (by have := HB.out.2.2.2.2.2; omega)
            have hvD := val_lt SD.out.1
            rw [SD.out.2.1, SD.out.2.2] at hvD
            have hvs := dblInv_done (c := cr) (by rw [hRl]; exact hinv.out) (by rw [hRl, Nat.pow_succ]; omega)
            have HVS := Lib.hid hvs
            have HSUB := Lib.hid (subInv_start hinv.out.small D)
            obtain ⟨y, hye⟩ : ∃ y, y = S.getD n 0 := ⟨_, rfl⟩
            have hnS : n < S.length := by omega
            have h2 := hst.out.rest.cell n (by rw [ofN_length]; exact hnS)
            rw [ofN_at, ← getD_of_lt hnS, ← hye] at h2
            have h3 := hst.out.rest.frozen n
            obtain ⟨bb, hbb⟩ : ∃ bb, ((y : Int) == 0) = bb := ⟨_, rfl⟩
            have HL3 := Lib.hid (show (bb = true → 0 < n ∧ LessAt S D n n) ∧ (bb = false → v ≤ val S) from by
              constructor
              · intro h
                rw [h] at hbb
                have hy0 : y = 0 := by have := beq_iff_eq.1 hbb; omega
                exact ⟨HB.out.2.2.2.2.1, ⟨by rw [← hye]; exact hy0, fun j h1 h2 => by omega⟩⟩
              · intro h
                rw [h] at hbb
                have hy0 : y ≠ 0 := by have := beq_eq_false_iff_ne.1 hbb; omega
                have := less_top hinv.out.small SD.out.1 hlS SD.out.2.2 (by rw [← hye]; exact hy0)
                rwa [SD.out.2.1] at this)
            clear hbd hvD hvs hye
            by_cases hlt : val S < v
            · have HLT := Lib.hid hlt
              clear hlt
              go_wp2_with fail
              go_loopw [14, 13] (fun i b wq => ∃ (i1 : Nat) (bb : Bool), i = .int .i64 ((i1 : Int) - 1) ∧ b = .bool bb ∧ i1 ≤ n ∧ Hid ((bb = true → 0 < i1 ∧ LessAt S D n i1) ∧ (bb = false → v ≤ val S)) ∧ Hid (DmSt W0 wq gr gq S Q)) (fun i _ _ => (intOf i + 1).toNat)
              case atStart => exact ⟨n, bb, rfl, rfl, Nat.le_refl _, HL3, hst⟩
              case round =>
                clear HL3 hst h2 h3 hbb
                obtain ⟨i1, bb, rfl, rfl, hi1, hl3, hst⟩ := hrel
                cases bb
                · exact absurd (hl3.out.2 rfl) (by have := HLT.out; omega)
                · obtain ⟨i, rfl⟩ : ∃ i, i1 = i + 1 := ⟨i1 - 1, by have := (hl3.out.1 rfl).1; omega⟩
                  have ei : (((i + 1 : Nat)) : Int) - 1 = (i : Int) := by omega
                  rw [ei]
                  have hla3 := (hl3.out.1 rfl).2
                  have hin : i < n := by omega
                  have hiS : i < S.length := by omega
                  obtain ⟨x, hxe⟩ : ∃ x, x = S.getD i 0 := ⟨_, rfl⟩
                  have h2 := hst.out.rest.cell i (by rw [ofN_length]; exact hiS)
                  rw [ofN_at, ← getD_of_lt hiS, ← hxe] at h2
                  obtain ⟨cb, ob, ha, _, hcell⟩ := IX.out wr hst.out.bel i (by rw [ofN_length, SD.out.2.2]; exact hin)
                  obtain ⟨y, hye⟩ : ∃ y, y = D.getD i 0 := ⟨_, rfl⟩
                  rw [ofN_at, ← getD_of_lt (by rw [SD.out.2.2]; exact hin), ← hye] at hcell
                  obtain ⟨k1, k2, k3, k4⟩ := SS.out _ hst.out.bel
                  rw [ha] at k4
                  clear ha
                  have hiI : (i : Int) < (n : Int) := by omega
                  have hiI1 : (i : Int) < (n : Int) + 1 := by omega
                  have hiI0 : (0 : Int) ≤ (i : Int) := by omega
                  have hlh := less_here hinv.out.small SD.out.1 hlS SD.out.2.2 hin hla3
                  rw [← hxe, ← hye, SD.out.2.1] at hlh
                  by_cases hxy : x = y
                  · have hxyI : (x : Int) = (y : Int) := by omega
                    have hbn : ((x : Int) != (y : Int)) = false := by simp [hxy]
                    have HNX := Lib.hid (hla3.next (by rw [← hxe, ← hye]; exact hxy))
                    have HSN := Lib.hid (fun k => hst.out.drewN k)
                    by_cases hi0 : i = 0
                    · subst hi0
                      have HGE0 := Lib.hid (show v ≤ val S from by have := less_all hlS SD.out.2.2 HNX.out; rwa [SD.out.2.1] at this)
                      rw [Nat.add_zero] at hcell
                      clear hlh hxe hye hst hla3
                      go_wp2_with fail
                      go_quiet (fail)
                      go_wp2_with fail
                      go_roundw
                      case rel => exact ⟨0, false, by first | rfl | (congr 1), rfl, by omega, Lib.hid ⟨fun h => (by cases h), fun _ => HGE0.out⟩, Lib.hid (HSN.out _)⟩
                      case measure => simp [intOf]
                    · have hi0' : ((i : Int) == 0) = false := by simp; omega
                      have HNI := Lib.hid (show 0 < i by omega)
                      clear hlh hxe hye hst hla3
                      go_wp2_with fail
                      go_quiet (fail)
                      go_wp2_with fail
                      go_roundw
                      case rel => exact ⟨i, true, by first | rfl | (congr 1), rfl, by omega, Lib.hid ⟨fun _ => ⟨HNI.out, HNX.out⟩, fun h => (by cases h)⟩, Lib.hid (HSN.out _)⟩
                      case measure => simp [intOf]
                  · have hbn : ((x : Int) != (y : Int)) = true := by simp; omega
                    have hlt2 : (x : Int) < (y : Int) := by
                      rcases Nat.lt_or_ge x y with h | h
                      · omega
                      · have := hlh.2 (by omega); have := HLT.out; omega
                    have hlt3 : decide ((x : Int) < (y : Int)) = true := decide_eq_true hlt2
                    have HSN := Lib.hid (fun k => hst.out.drewN k)
                    have HDN := Lib.hid (show DivAt m v S Q la j from by
                      have hdm := div_step_less (n := m) (k := j) (r := val R) (show 0 < v by have := HB.out.2.2.2.2.2; omega) hdv.out.rest (by rw [← HTB.out, ← HVS.out]; exact HLT.out)
                      rw [← HTB.out] at hdm
                      exact ⟨hinv.out.small, by rw [HVS.out]; exact hdm.1, hdv.out.qsmall, hdv.out.qlen, by rw [hdv.out.quo]; exact hdm.2⟩)
                    clear hlh hxe hye hst hla3
                    go_wp2_with fail
                    go_quiet (fail)
                    go_wp2_with fail
                    go_quiet (fail)
                    go_wp2_with fail
                    go_roundw
                    case rel => exact ⟨j, S, Q, by first | rfl | (congr 1; omega), by omega, hlS, HDN, Lib.hid (HSN.out _)⟩
                    case measure => simp [intOf]
            · have HGE := Lib.hid (show v ≤ val S by omega)
              clear hlt
              go_wp2_with fail
              go_loopw [14, 13] (fun i b wq => ∃ (i1 : Nat) (bb : Bool), i = .int .i64 ((i1 : Int) - 1) ∧ b = .bool bb ∧ i1 ≤ n ∧ Hid ((bb = true → 0 < i1 ∧ LessAt S D n i1) ∧ (bb = false → v ≤ val S)) ∧ Hid (DmSt W0 wq gr gq S Q)) (fun i _ _ => (intOf i + 1).toNat)
              case atStart => exact ⟨n, bb, rfl, rfl, Nat.le_refl _, HL3, hst⟩
              case round =>
                clear HL3 hst h2 h3 hbb
                obtain ⟨i1, bb, rfl, rfl, hi1, hl3, hst⟩ := hrel
                cases bb
                · rcases Nat.eq_zero_or_pos i1 with hz | hz
                  · subst hz
                    rw [show (((0 : Nat) : Int) - 1) = -1 from rfl]
                    go_wp2_with fail
                    go_loopw [16, 15] (fun i q wq => ∃ (f : Nat) (S' : List Nat) (p : Nat), f ≤ n + 1 ∧ i = .int .i64 (f : Int) ∧ q = .int .i64 (p : Int) ∧ Hid (SubInv S D S' p f) ∧ Hid (DmSt W0 wq gr gq S' Q)) (fun i _ _ => n + 1 - (intOf i).toNat)
                    case atStart => exact ⟨0, S, 0, by omega, rfl, rfl, HSUB, hst⟩
                    case round =>
                      clear hst HSUB
                      obtain ⟨f, S', p, hf, rfl, rfl, hinv, hst⟩ := hrel
                      have hlS' : S'.length = n + 1 := by rw [hinv.out.len, hlS]
                      by_cases hfn : f < n + 1
                      · have hfS : f < S'.length := by omega
                        obtain ⟨x, hxe⟩ : ∃ x, x = S'.getD f 0 := ⟨_, rfl⟩
                        have h2 := hst.out.rest.cell f (by rw [ofN_length]; exact hfS)
                        rw [ofN_at, ← getD_of_lt hfS, ← hxe] at h2
                        have h3 := hst.out.rest.frozen f
                        have hxb := getD_lt hinv.out.small f
                        rw [← hxe] at hxb
                        have hpb := hinv.out.q
                        have hxI : (x : Int) < 16777216 := by omega
                        have hpI : (p : Int) ≤ 1 := by omega
                        have hfI : (f : Int) ≤ (n : Int) := by omega
                        have hfI1 : (f : Int) < (n : Int) + 1 := by omega
                        by_cases hfn' : f < n
                        · skip
                          obtain ⟨cb, ob, ha, _, hcell⟩ := IX.out wr hst.out.bel f (by rw [ofN_length, SD.out.2.2]; exact hfn')
                          obtain ⟨y, hye⟩ : ∃ y, y = D.getD f 0 := ⟨_, rfl⟩
                          rw [ofN_at, ← getD_of_lt (by rw [SD.out.2.2]; exact hfn'), ← hye] at hcell
                          have hyb := getD_lt SD.out.1 f
                          rw [← hye] at hyb
                          obtain ⟨k1, k2, k3, k4⟩ := SS.out _ hst.out.bel
                          rw [ha] at k4
                          clear ha
                          have hyI : (y : Int) < 16777216 := by omega
                          have hfI2 : (f : Int) < (n : Int) := by omega
                          by_cases hneg : x < p + y
                          · obtain ⟨r, hr⟩ : ∃ r, r + p + y = x + 16777216 := ⟨x + 16777216 - p - y, by omega⟩
                            have hrb : r < 16777216 := by omega
                            have hstp := subInv_step hinv.out hfS hrb (Nat.le_refl 1) (by rw [← hxe, ← hye]; omega)
                            have hdI : (x : Int) - (p : Int) - (y : Int) < 0 := by omega
                            have HSN := Lib.hid (show DmSt W0 (wr.setCell ⟨gr, f, none⟩ (.int .i64 ((x : Int) - (p : Int) - (y : Int) + 16777216))) gr gq (S'.set f r) Q from by
                              have h := hst.out.setR f r hfS
                              rwa [show ((r : Nat) : Int) = (x : Int) - (p : Int) - (y : Int) + 16777216 by omega] at h)
                            have HN := Lib.hid hstp
                            clear hstp hye hxe hxb hpb hr hrb hneg hinv hst hyb
                            go_wp2_with fail
                            go_roundw
                            case rel => exact ⟨f + 1, _, 1, by omega, by go_num, by first | rfl | (congr 1), HN, HSN⟩
                            case measure => simp [intOf]; omega
                          · obtain ⟨r, hr⟩ : ∃ r, r + p + y = x := ⟨x - p - y, by omega⟩
                            have hrb : r < 16777216 := by omega
                            have hstp := subInv_step hinv.out hfS hrb (Nat.zero_le 1) (by rw [← hxe, ← hye]; omega)
                            have hdI : ¬ (x : Int) - (p : Int) - (y : Int) < 0 := by omega
                            have HSN := Lib.hid (show DmSt W0 (wr.setCell ⟨gr, f, none⟩ (.int .i64 ((x : Int) - (p : Int) - (y : Int)))) gr gq (S'.set f r) Q from by
                              have h := hst.out.setR f r hfS
                              rwa [show ((r : Nat) : Int) = (x : Int) - (p : Int) - (y : Int) by omega] at h)
                            have HN := Lib.hid hstp
                            clear hstp hye hxe hxb hpb hr hrb hneg hinv hst hyb
                            go_wp2_with fail
                            go_roundw
                            case rel => exact ⟨f + 1, _, 0, by omega, by go_num, by first | rfl | (congr 1), HN, HSN⟩
                            case measure => simp [intOf]; omega
                        · skip
                          obtain ⟨y, hye⟩ : ∃ y : Nat, y = D.getD f 0 := ⟨_, rfl⟩
                          have hy0 : y = 0 := by rw [hye]; exact getD_of_ge (by rw [SD.out.2.2]; omega)
                          have hfI2 : ¬ (f : Int) < (n : Int) := by omega
                          by_cases hneg : x < p + y
                          · obtain ⟨r, hr⟩ : ∃ r, r + p + y = x + 16777216 := ⟨x + 16777216 - p - y, by omega⟩
                            have hrb : r < 16777216 := by omega
                            have hstp := subInv_step hinv.out hfS hrb (Nat.le_refl 1) (by rw [← hxe, ← hye]; omega)
                            have hdI : (x : Int) - (p : Int) < 0 := by omega
                            have HSN := Lib.hid (show DmSt W0 (wr.setCell ⟨gr, f, none⟩ (.int .i64 ((x : Int) - (p : Int) + 16777216))) gr gq (S'.set f r) Q from by
                              have h := hst.out.setR f r hfS
                              rwa [show ((r : Nat) : Int) = (x : Int) - (p : Int) + 16777216 by omega] at h)
                            have HN := Lib.hid hstp
                            clear hstp hye hxe hxb hpb hr hrb hneg hinv hst
                            go_wp2_with fail
                            go_roundw
                            case rel => exact ⟨f + 1, _, 1, by omega, by go_num, by first | rfl | (congr 1), HN, HSN⟩
                            case measure => simp [intOf]; omega
                          · obtain ⟨r, hr⟩ : ∃ r, r + p + y = x := ⟨x - p - y, by omega⟩
                            have hrb : r < 16777216 := by omega
                            have hstp := subInv_step hinv.out hfS hrb (Nat.zero_le 1) (by rw [← hxe, ← hye]; omega)
                            have hdI : ¬ (x : Int) - (p : Int) < 0 := by omega
                            have HSN := Lib.hid (show DmSt W0 (wr.setCell ⟨gr, f, none⟩ (.int .i64 ((x : Int) - (p : Int)))) gr gq (S'.set f r) Q from by
                              have h := hst.out.setR f r hfS
                              rwa [show ((r : Nat) : Int) = (x : Int) - (p : Int) by omega] at h)
                            have HN := Lib.hid hstp
                            clear hstp hye hxe hxb hpb hr hrb hneg hinv hst
                            go_wp2_with fail
                            go_roundw
                            case rel => exact ⟨f + 1, _, 0, by omega, by go_num, by first | rfl | (congr 1), HN, HSN⟩
                            case measure => simp [intOf]; omega
                      · obtain rfl : f = n + 1 := by omega
                        have hvs := subInv_done (q := p) (by rw [hlS]; exact hinv.out) (by rw [SD.out.2.2, hlS]; omega) (by rw [SD.out.2.1]; exact HGE.out)
                        rw [SD.out.2.1, HVS.out] at hvs
                        have hdm := div_step_more (n := m) (k := j) (r := val R) (show 0 < v by have := HB.out.2.2.2.2.2; omega) hdv.out.rest (by rw [← HTB.out, ← HVS.out]; exact HGE.out)
                        rw [← HTB.out] at hdm
                        have hidx : j / 24 < Q.length := by rw [hdv.out.qlen]; have := HB.out.1; omega
                        obtain ⟨hq1, hq2, hq3⟩ := quo_bit hdv.out.qsmall hdv.out.quo hidx
                        obtain ⟨u, hu⟩ : ∃ u, u = Q.getD (j / 24) 0 := ⟨_, rfl⟩
                        have h2 := hst.out.quo.cell (j / 24) (by rw [ofN_length]; exact hidx)
                        rw [ofN_at, ← getD_of_lt hidx, ← hu] at h2
                        have h3 := hst.out.quo.frozen (j / 24)
                        rw [← hu] at hq1 hq2 hq3
                        have HDN := Lib.hid (show DivAt m v S' (Q.set (j / 24) (u + 2 ^ (j % 24))) la j from ⟨hinv.out.small, by rw [hvs]; exact hdm.1, hq1, by rw [List.length_set]; exact hdv.out.qlen, by rw [hq2, hdv.out.quo]; exact hdm.2⟩)
                        have HSN := Lib.hid (hst.out.setQ (j / 24) (u + 2 ^ (j % 24)) hidx)
                        have hd : Int.tdiv (j : Int) 24 = ((j / 24 : Nat) : Int) := by simp [Int.tdiv_eq_ediv_of_nonneg]
                        have hm : Int.tmod (j : Int) 24 = ((j % 24 : Nat) : Int) := by simp [Int.tmod_eq_emod_of_nonneg]
                        have hil : j / 24 < la := by rw [← hdv.out.qlen]; exact hidx
                        obtain ⟨i, hi⟩ : ∃ i, i = j / 24 := ⟨_, rfl⟩
                        obtain ⟨r, hr⟩ : ∃ r, r = j % 24 := ⟨_, rfl⟩
                        rw [← hi] at h2 h3 HDN HSN hd hil
                        rw [← hr] at HDN HSN hm hq3
                        obtain ⟨pw, hpw⟩ : ∃ pw, pw = 2 ^ r := ⟨_, rfl⟩
                        rw [← hpw] at HDN HSN hq3
                        have hpc : (2 : Int) ^ r = (pw : Int) := by rw [hpw]; simp
                        have hpc1 : (1 : Int) * 2 ^ r = (pw : Int) := by rw [hpc, Int.one_mul]
                        have hpb : pw ≤ 9223372036854775807 := by omega
                        have hcw : wrap64 ((u : Int) + wrap64 ((2 : Int) ^ r)) = ((u + pw : Nat) : Int) := by rw [wrap64_nat hpc hpb]; unfold wrap64; omega
                        rw [← hcw] at HSN
                        clear hcw
                        have hiI : (i : Int) < (la : Int) := by omega
                        have hrI : (r : Int) ≤ 23 := by omega
                        clear hpc hpc1 hpb hvs hdm hidx hq1 hq2 hq3 hu hi hr hpw hinv hst hil
                        go_wp2_with fail
                        go_roundw
                        case rel => exact ⟨j, S', _, by first | rfl | (congr 1; omega), by omega, hlS', HDN, HSN⟩
                        case measure => simp [intOf]
                  · obtain ⟨i, rfl⟩ : ∃ i, i1 = i + 1 := ⟨i1 - 1, by omega⟩
                    have ei : (((i + 1 : Nat)) : Int) - 1 = (i : Int) := by omega
                    rw [ei]
                    have hiI0 : (0 : Int) ≤ (i : Int) := by omega
                    go_wp2_with fail
                    go_loopw [16, 15] (fun i q wq => ∃ (f : Nat) (S' : List Nat) (p : Nat), f ≤ n + 1 ∧ i = .int .i64 (f : Int) ∧ q = .int .i64 (p : Int) ∧ Hid (SubInv S D S' p f) ∧ Hid (DmSt W0 wq gr gq S' Q)) (fun i _ _ => n + 1 - (intOf i).toNat)
                    case atStart => exact ⟨0, S, 0, by omega, rfl, rfl, HSUB, hst⟩
                    case round =>
                      clear hst HSUB
                      obtain ⟨f, S', p, hf, rfl, rfl, hinv, hst⟩ := hrel
                      have hlS' : S'.length = n + 1 := by rw [hinv.out.len, hlS]
                      by_cases hfn : f < n + 1
                      · have hfS : f < S'.length := by omega
                        obtain ⟨x, hxe⟩ : ∃ x, x = S'.getD f 0 := ⟨_, rfl⟩
                        have h2 := hst.out.rest.cell f (by rw [ofN_length]; exact hfS)
                        rw [ofN_at, ← getD_of_lt hfS, ← hxe] at h2
                        have h3 := hst.out.rest.frozen f
                        have hxb := getD_lt hinv.out.small f
                        rw [← hxe] at hxb
                        have hpb := hinv.out.q
                        have hxI : (x : Int) < 16777216 := by omega
                        have hpI : (p : Int) ≤ 1 := by omega
                        have hfI : (f : Int) ≤ (n : Int) := by omega
                        have hfI1 : (f : Int) < (n : Int) + 1 := by omega
                        by_cases hfn' : f < n
                        · skip
                          obtain ⟨cb, ob, ha, _, hcell⟩ := IX.out wr hst.out.bel f (by rw [ofN_length, SD.out.2.2]; exact hfn')
                          obtain ⟨y, hye⟩ : ∃ y, y = D.getD f 0 := ⟨_, rfl⟩
                          rw [ofN_at, ← getD_of_lt (by rw [SD.out.2.2]; exact hfn'), ← hye] at hcell
                          have hyb := getD_lt SD.out.1 f
                          rw [← hye] at hyb
                          obtain ⟨k1, k2, k3, k4⟩ := SS.out _ hst.out.bel
                          rw [ha] at k4
                          clear ha
                          have hyI : (y : Int) < 16777216 := by omega
                          have hfI2 : (f : Int) < (n : Int) := by omega
                          by_cases hneg : x < p + y
                          · obtain ⟨r, hr⟩ : ∃ r, r + p + y = x + 16777216 := ⟨x + 16777216 - p - y, by omega⟩
                            have hrb : r < 16777216 := by omega
                            have hstp := subInv_step hinv.out hfS hrb (Nat.le_refl 1) (by rw [← hxe, ← hye]; omega)
                            have hdI : (x : Int) - (p : Int) - (y : Int) < 0 := by omega
                            have HSN := Lib.hid (show DmSt W0 (wr.setCell ⟨gr, f, none⟩ (.int .i64 ((x : Int) - (p : Int) - (y : Int) + 16777216))) gr gq (S'.set f r) Q from by
                              have h := hst.out.setR f r hfS
                              rwa [show ((r : Nat) : Int) = (x : Int) - (p : Int) - (y : Int) + 16777216 by omega] at h)
                            have HN := Lib.hid hstp
                            clear hstp hye hxe hxb hpb hr hrb hneg hinv hst hyb
                            go_wp2_with fail
                            go_roundw
                            case rel => exact ⟨f + 1, _, 1, by omega, by go_num, by first | rfl | (congr 1), HN, HSN⟩
                            case measure => simp [intOf]; omega
                          · obtain ⟨r, hr⟩ : ∃ r, r + p + y = x := ⟨x - p - y, by omega⟩
                            have hrb : r < 16777216 := by omega
                            have hstp := subInv_step hinv.out hfS hrb (Nat.zero_le 1) (by rw [← hxe, ← hye]; omega)
                            have hdI : ¬ (x : Int) - (p : Int) - (y : Int) < 0 := by omega
                            have HSN := Lib.hid (show DmSt W0 (wr.setCell ⟨gr, f, none⟩ (.int .i64 ((x : Int) - (p : Int) - (y : Int)))) gr gq (S'.set f r) Q from by
                              have h := hst.out.setR f r hfS
                              rwa [show ((r : Nat) : Int) = (x : Int) - (p : Int) - (y : Int) by omega] at h)
                            have HN := Lib.hid hstp
                            clear hstp hye hxe hxb hpb hr hrb hneg hinv hst hyb
                            go_wp2_with fail
                            go_roundw
                            case rel => exact ⟨f + 1, _, 0, by omega, by go_num, by first | rfl | (congr 1), HN, HSN⟩
                            case measure => simp [intOf]; omega
                        · skip
                          obtain ⟨y, hye⟩ : ∃ y : Nat, y = D.getD f 0 := ⟨_, rfl⟩
                          have hy0 : y = 0 := by rw [hye]; exact getD_of_ge (by rw [SD.out.2.2]; omega)
                          have hfI2 : ¬ (f : Int) < (n : Int) := by omega
                          by_cases hneg : x < p + y
                          · obtain ⟨r, hr⟩ : ∃ r, r + p + y = x + 16777216 := ⟨x + 16777216 - p - y, by omega⟩
                            have hrb : r < 16777216 := by omega
                            have hstp := subInv_step hinv.out hfS hrb (Nat.le_refl 1) (by rw [← hxe, ← hye]; omega)
                            have hdI : (x : Int) - (p : Int) < 0 := by omega
                            have HSN := Lib.hid (show DmSt W0 (wr.setCell ⟨gr, f, none⟩ (.int .i64 ((x : Int) - (p : Int) + 16777216))) gr gq (S'.set f r) Q from by
                              have h := hst.out.setR f r hfS
                              rwa [show ((r : Nat) : Int) = (x : Int) - (p : Int) + 16777216 by omega] at h)
                            have HN := Lib.hid hstp
                            clear hstp hye hxe hxb hpb hr hrb hneg hinv hst
                            go_wp2_with fail
                            go_roundw
                            case rel => exact ⟨f + 1, _, 1, by omega, by go_num, by first | rfl | (congr 1), HN, HSN⟩
                            case measure => simp [intOf]; omega
                          · obtain ⟨r, hr⟩ : ∃ r, r + p + y = x := ⟨x - p - y, by omega⟩
                            have hrb : r < 16777216 := by omega
                            have hstp := subInv_step hinv.out hfS hrb (Nat.zero_le 1) (by rw [← hxe, ← hye]; omega)
                            have hdI : ¬ (x : Int) - (p : Int) < 0 := by omega
                            have HSN := Lib.hid (show DmSt W0 (wr.setCell ⟨gr, f, none⟩ (.int .i64 ((x : Int) - (p : Int)))) gr gq (S'.set f r) Q from by
                              have h := hst.out.setR f r hfS
                              rwa [show ((r : Nat) : Int) = (x : Int) - (p : Int) by omega] at h)
                            have HN := Lib.hid hstp
                            clear hstp hye hxe hxb hpb hr hrb hneg hinv hst
                            go_wp2_with fail
                            go_roundw
                            case rel => exact ⟨f + 1, _, 0, by omega, by go_num, by first | rfl | (congr 1), HN, HSN⟩
                            case measure => simp [intOf]; omega
                      · obtain rfl : f = n + 1 := by omega
                        have hvs := subInv_done (q := p) (by rw [hlS]; exact hinv.out) (by rw [SD.out.2.2, hlS]; omega) (by rw [SD.out.2.1]; exact HGE.out)
                        rw [SD.out.2.1, HVS.out] at hvs
                        have hdm := div_step_more (n := m) (k := j) (r := val R) (show 0 < v by have := HB.out.2.2.2.2.2; omega) hdv.out.rest (by rw [← HTB.out, ← HVS.out]; exact HGE.out)
                        rw [← HTB.out] at hdm
                        have hidx : j / 24 < Q.length := by rw [hdv.out.qlen]; have := HB.out.1; omega
                        obtain ⟨hq1, hq2, hq3⟩ := quo_bit hdv.out.qsmall hdv.out.quo hidx
                        obtain ⟨u, hu⟩ : ∃ u, u = Q.getD (j / 24) 0 := ⟨_, rfl⟩
                        have h2 := hst.out.quo.cell (j / 24) (by rw [ofN_length]; exact hidx)
                        rw [ofN_at, ← getD_of_lt hidx, ← hu] at h2
                        have h3 := hst.out.quo.frozen (j / 24)
                        rw [← hu] at hq1 hq2 hq3
                        have HDN := Lib.hid (show DivAt m v S' (Q.set (j / 24) (u + 2 ^ (j % 24))) la j from ⟨hinv.out.small, by rw [hvs]; exact hdm.1, hq1, by rw [List.length_set]; exact hdv.out.qlen, by rw [hq2, hdv.out.quo]; exact hdm.2⟩)
                        have HSN := Lib.hid (hst.out.setQ (j / 24) (u + 2 ^ (j % 24)) hidx)
                        have hd : Int.tdiv (j : Int) 24 = ((j / 24 : Nat) : Int) := by simp [Int.tdiv_eq_ediv_of_nonneg]
                        have hm : Int.tmod (j : Int) 24 = ((j % 24 : Nat) : Int) := by simp [Int.tmod_eq_emod_of_nonneg]
                        have hil : j / 24 < la := by rw [← hdv.out.qlen]; exact hidx
                        obtain ⟨i, hi⟩ : ∃ i, i = j / 24 := ⟨_, rfl⟩
                        obtain ⟨r, hr⟩ : ∃ r, r = j % 24 := ⟨_, rfl⟩
                        rw [← hi] at h2 h3 HDN HSN hd hil
                        rw [← hr] at HDN HSN hm hq3
                        obtain ⟨pw, hpw⟩ : ∃ pw, pw = 2 ^ r := ⟨_, rfl⟩
                        rw [← hpw] at HDN HSN hq3
                        have hpc : (2 : Int) ^ r = (pw : Int) := by rw [hpw]; simp
                        have hpc1 : (1 : Int) * 2 ^ r = (pw : Int) := by rw [hpc, Int.one_mul]
                        have hpb : pw ≤ 9223372036854775807 := by omega
                        have hcw : wrap64 ((u : Int) + wrap64 ((2 : Int) ^ r)) = ((u + pw : Nat) : Int) := by rw [wrap64_nat hpc hpb]; unfold wrap64; omega
                        rw [← hcw] at HSN
                        clear hcw
                        have hiI : (i : Int) < (la : Int) := by omega
                        have hrI : (r : Int) ≤ 23 := by omega
                        clear hpc hpc1 hpb hvs hdm hidx hq1 hq2 hq3 hu hi hr hpw hinv hst hil
                        go_wp2_with fail
                        go_roundw
                        case rel => exact ⟨j, S', _, by first | rfl | (congr 1; omega), by omega, hlS', HDN, HSN⟩
                        case measure => simp [intOf]
                · obtain ⟨i, rfl⟩ : ∃ i, i1 = i + 1 := ⟨i1 - 1, by have := (hl3.out.1 rfl).1; omega⟩
                  have ei : (((i + 1 : Nat)) : Int) - 1 = (i : Int) := by omega
                  rw [ei]
                  have hla3 := (hl3.out.1 rfl).2
                  have hin : i < n := by omega
                  have hiS : i < S.length := by omega
                  obtain ⟨x, hxe⟩ : ∃ x, x = S.getD i 0 := ⟨_, rfl⟩
                  have h2 := hst.out.rest.cell i (by rw [ofN_length]; exact hiS)
                  rw [ofN_at, ← getD_of_lt hiS, ← hxe] at h2
                  obtain ⟨cb, ob, ha, _, hcell⟩ := IX.out wr hst.out.bel i (by rw [ofN_length, SD.out.2.2]; exact hin)
                  obtain ⟨y, hye⟩ : ∃ y, y = D.getD i 0 := ⟨_, rfl⟩
                  rw [ofN_at, ← getD_of_lt (by rw [SD.out.2.2]; exact hin), ← hye] at hcell
                  obtain ⟨k1, k2, k3, k4⟩ := SS.out _ hst.out.bel
                  rw [ha] at k4
                  clear ha
                  have hiI : (i : Int) < (n : Int) := by omega
                  have hiI1 : (i : Int) < (n : Int) + 1 := by omega
                  have hiI0 : (0 : Int) ≤ (i : Int) := by omega
                  have hlh := less_here hinv.out.small SD.out.1 hlS SD.out.2.2 hin hla3
                  rw [← hxe, ← hye, SD.out.2.1] at hlh
                  by_cases hxy : x = y
                  · have hxyI : (x : Int) = (y : Int) := by omega
                    have hbn : ((x : Int) != (y : Int)) = false := by simp [hxy]
                    have HNX := Lib.hid (hla3.next (by rw [← hxe, ← hye]; exact hxy))
                    have HSN := Lib.hid (fun k => hst.out.drewN k)
                    by_cases hi0 : i = 0
                    · subst hi0
                      have HGE0 := Lib.hid (show v ≤ val S from by have := less_all hlS SD.out.2.2 HNX.out; rwa [SD.out.2.1] at this)
                      rw [Nat.add_zero] at hcell
                      clear hlh hxe hye hst hla3
                      go_wp2_with fail
                      go_quiet (fail)
                      go_wp2_with fail
                      go_roundw
                      case rel => exact ⟨0, false, by first | rfl | (congr 1), rfl, by omega, Lib.hid ⟨fun h => (by cases h), fun _ => HGE0.out⟩, Lib.hid (HSN.out _)⟩
                      case measure => simp [intOf]
                    · have hi0' : ((i : Int) == 0) = false := by simp; omega
                      have HNI := Lib.hid (show 0 < i by omega)
                      clear hlh hxe hye hst hla3
                      go_wp2_with fail
                      go_quiet (fail)
                      go_wp2_with fail
                      go_roundw
                      case rel => exact ⟨i, true, by first | rfl | (congr 1), rfl, by omega, Lib.hid ⟨fun _ => ⟨HNI.out, HNX.out⟩, fun h => (by cases h)⟩, Lib.hid (HSN.out _)⟩
                      case measure => simp [intOf]
                  · have hbn : ((x : Int) != (y : Int)) = true := by simp; omega
                    have hlt2 : ¬ (x : Int) < (y : Int) := by
                      intro h
                      have := hlh.1 (by omega); have := HGE.out; omega
                    have hlt3 : decide ((x : Int) < (y : Int)) = false := decide_eq_false hlt2
                    have HSN := Lib.hid (fun k => hst.out.drewN k)
                    clear hlh hxe hye hla3
                    go_wp2_with fail
                    go_quiet (fail)
                    go_wp2_with fail
                    go_quiet (fail)
                    have hst := HSN
                    clear HSN k1 k2 k3 k4 hcell h2
                    go_wp2_with fail
                    go_loopw [16, 15] (fun i q wq => ∃ (f : Nat) (S' : List Nat) (p : Nat), f ≤ n + 1 ∧ i = .int .i64 (f : Int) ∧ q = .int .i64 (p : Int) ∧ Hid (SubInv S D S' p f) ∧ Hid (DmSt W0 wq gr gq S' Q)) (fun i _ _ => n + 1 - (intOf i).toNat)
                    case atStart => exact ⟨0, S, 0, by omega, rfl, rfl, HSUB, Lib.hid ((hst.out _).drewN _)⟩
                    case round =>
                      clear hst HSUB
                      obtain ⟨f, S', p, hf, rfl, rfl, hinv, hst⟩ := hrel
                      have hlS' : S'.length = n + 1 := by rw [hinv.out.len, hlS]
                      by_cases hfn : f < n + 1
                      · have hfS : f < S'.length := by omega
                        obtain ⟨x, hxe⟩ : ∃ x, x = S'.getD f 0 := ⟨_, rfl⟩
                        have h2 := hst.out.rest.cell f (by rw [ofN_length]; exact hfS)
                        rw [ofN_at, ← getD_of_lt hfS, ← hxe] at h2
                        have h3 := hst.out.rest.frozen f
                        have hxb := getD_lt hinv.out.small f
                        rw [← hxe] at hxb
                        have hpb := hinv.out.q
                        have hxI : (x : Int) < 16777216 := by omega
                        have hpI : (p : Int) ≤ 1 := by omega
                        have hfI : (f : Int) ≤ (n : Int) := by omega
                        have hfI1 : (f : Int) < (n : Int) + 1 := by omega
                        by_cases hfn' : f < n
                        · skip
                          obtain ⟨cb, ob, ha, _, hcell⟩ := IX.out wr hst.out.bel f (by rw [ofN_length, SD.out.2.2]; exact hfn')
                          obtain ⟨y, hye⟩ : ∃ y, y = D.getD f 0 := ⟨_, rfl⟩
                          rw [ofN_at, ← getD_of_lt (by rw [SD.out.2.2]; exact hfn'), ← hye] at hcell
                          have hyb := getD_lt SD.out.1 f
                          rw [← hye] at hyb
                          obtain ⟨k1, k2, k3, k4⟩ := SS.out _ hst.out.bel
                          rw [ha] at k4
                          clear ha
                          have hyI : (y : Int) < 16777216 := by omega
                          have hfI2 : (f : Int) < (n : Int) := by omega
                          by_cases hneg : x < p + y
                          · obtain ⟨r, hr⟩ : ∃ r, r + p + y = x + 16777216 := ⟨x + 16777216 - p - y, by omega⟩
                            have hrb : r < 16777216 := by omega
                            have hstp := subInv_step hinv.out hfS hrb (Nat.le_refl 1) (by rw [← hxe, ← hye]; omega)
                            have hdI : (x : Int) - (p : Int) - (y : Int) < 0 := by omega
                            have HSN := Lib.hid (show DmSt W0 (wr.setCell ⟨gr, f, none⟩ (.int .i64 ((x : Int) - (p : Int) - (y : Int) + 16777216))) gr gq (S'.set f r) Q from by
                              have h := hst.out.setR f r hfS
                              rwa [show ((r : Nat) : Int) = (x : Int) - (p : Int) - (y : Int) + 16777216 by omega] at h)
                            have HN := Lib.hid hstp
                            clear hstp hye hxe hxb hpb hr hrb hneg hinv hst hyb
                            go_wp2_with fail
                            go_roundw
                            case rel => exact ⟨f + 1, _, 1, by omega, by go_num, by first | rfl | (congr 1), HN, HSN⟩
                            case measure => simp [intOf]; omega
                          · obtain ⟨r, hr⟩ : ∃ r, r + p + y = x := ⟨x - p - y, by omega⟩
                            have hrb : r < 16777216 := by omega
                            have hstp := subInv_step hinv.out hfS hrb (Nat.zero_le 1) (by rw [← hxe, ← hye]; omega)
                            have hdI : ¬ (x : Int) - (p : Int) - (y : Int) < 0 := by omega
                            have HSN := Lib.hid (show DmSt W0 (wr.setCell ⟨gr, f, none⟩ (.int .i64 ((x : Int) - (p : Int) - (y : Int)))) gr gq (S'.set f r) Q from by
                              have h := hst.out.setR f r hfS
                              rwa [show ((r : Nat) : Int) = (x : Int) - (p : Int) - (y : Int) by omega] at h)
                            have HN := Lib.hid hstp
                            clear hstp hye hxe hxb hpb hr hrb hneg hinv hst hyb
                            go_wp2_with fail
                            go_roundw
                            case rel => exact ⟨f + 1, _, 0, by omega, by go_num, by first | rfl | (congr 1), HN, HSN⟩
                            case measure => simp [intOf]; omega
                        · skip
                          obtain ⟨y, hye⟩ : ∃ y : Nat, y = D.getD f 0 := ⟨_, rfl⟩
                          have hy0 : y = 0 := by rw [hye]; exact getD_of_ge (by rw [SD.out.2.2]; omega)
                          have hfI2 : ¬ (f : Int) < (n : Int) := by omega
                          by_cases hneg : x < p + y
                          · obtain ⟨r, hr⟩ : ∃ r, r + p + y = x + 16777216 := ⟨x + 16777216 - p - y, by omega⟩
                            have hrb : r < 16777216 := by omega
                            have hstp := subInv_step hinv.out hfS hrb (Nat.le_refl 1) (by rw [← hxe, ← hye]; omega)
                            have hdI : (x : Int) - (p : Int) < 0 := by omega
                            have HSN := Lib.hid (show DmSt W0 (wr.setCell ⟨gr, f, none⟩ (.int .i64 ((x : Int) - (p : Int) + 16777216))) gr gq (S'.set f r) Q from by
                              have h := hst.out.setR f r hfS
                              rwa [show ((r : Nat) : Int) = (x : Int) - (p : Int) + 16777216 by omega] at h)
                            have HN := Lib.hid hstp
                            clear hstp hye hxe hxb hpb hr hrb hneg hinv hst
                            go_wp2_with fail
                            go_roundw
                            case rel => exact ⟨f + 1, _, 1, by omega, by go_num, by first | rfl | (congr 1), HN, HSN⟩
                            case measure => simp [intOf]; omega
                          · obtain ⟨r, hr⟩ : ∃ r, r + p + y = x := ⟨x - p - y, by omega⟩
                            have hrb : r < 16777216 := by omega
                            have hstp := subInv_step hinv.out hfS hrb (Nat.zero_le 1) (by rw [← hxe, ← hye]; omega)
                            have hdI : ¬ (x : Int) - (p : Int) < 0 := by omega
                            have HSN := Lib.hid (show DmSt W0 (wr.setCell ⟨gr, f, none⟩ (.int .i64 ((x : Int) - (p : Int)))) gr gq (S'.set f r) Q from by
                              have h := hst.out.setR f r hfS
                              rwa [show ((r : Nat) : Int) = (x : Int) - (p : Int) by omega] at h)
                            have HN := Lib.hid hstp
                            clear hstp hye hxe hxb hpb hr hrb hneg hinv hst
                            go_wp2_with fail
                            go_roundw
                            case rel => exact ⟨f + 1, _, 0, by omega, by go_num, by first | rfl | (congr 1), HN, HSN⟩
                            case measure => simp [intOf]; omega
                      · obtain rfl : f = n + 1 := by omega
                        have hvs := subInv_done (q := p) (by rw [hlS]; exact hinv.out) (by rw [SD.out.2.2, hlS]; omega) (by rw [SD.out.2.1]; exact HGE.out)
                        rw [SD.out.2.1, HVS.out] at hvs
                        have hdm := div_step_more (n := m) (k := j) (r := val R) (show 0 < v by have := HB.out.2.2.2.2.2; omega) hdv.out.rest (by rw [← HTB.out, ← HVS.out]; exact HGE.out)
                        rw [← HTB.out] at hdm
                        have hidx : j / 24 < Q.length := by rw [hdv.out.qlen]; have := HB.out.1; omega
                        obtain ⟨hq1, hq2, hq3⟩ := quo_bit hdv.out.qsmall hdv.out.quo hidx
                        obtain ⟨u, hu⟩ : ∃ u, u = Q.getD (j / 24) 0 := ⟨_, rfl⟩
                        have h2 := hst.out.quo.cell (j / 24) (by rw [ofN_length]; exact hidx)
                        rw [ofN_at, ← getD_of_lt hidx, ← hu] at h2
                        have h3 := hst.out.quo.frozen (j / 24)
                        rw [← hu] at hq1 hq2 hq3
                        have HDN := Lib.hid (show DivAt m v S' (Q.set (j / 24) (u + 2 ^ (j % 24))) la j from ⟨hinv.out.small, by rw [hvs]; exact hdm.1, hq1, by rw [List.length_set]; exact hdv.out.qlen, by rw [hq2, hdv.out.quo]; exact hdm.2⟩)
                        have HSN := Lib.hid (hst.out.setQ (j / 24) (u + 2 ^ (j % 24)) hidx)
                        have hd : Int.tdiv (j : Int) 24 = ((j / 24 : Nat) : Int) := by simp [Int.tdiv_eq_ediv_of_nonneg]
                        have hm : Int.tmod (j : Int) 24 = ((j % 24 : Nat) : Int) := by simp [Int.tmod_eq_emod_of_nonneg]
                        have hil : j / 24 < la := by rw [← hdv.out.qlen]; exact hidx
                        obtain ⟨i, hi⟩ : ∃ i, i = j / 24 := ⟨_, rfl⟩
                        obtain ⟨r, hr⟩ : ∃ r, r = j % 24 := ⟨_, rfl⟩
                        rw [← hi] at h2 h3 HDN HSN hd hil
                        rw [← hr] at HDN HSN hm hq3
                        obtain ⟨pw, hpw⟩ : ∃ pw, pw = 2 ^ r := ⟨_, rfl⟩
                        rw [← hpw] at HDN HSN hq3
                        have hpc : (2 : Int) ^ r = (pw : Int) := by rw [hpw]; simp
                        have hpc1 : (1 : Int) * 2 ^ r = (pw : Int) := by rw [hpc, Int.one_mul]
                        have hpb : pw ≤ 9223372036854775807 := by omega
                        have hcw : wrap64 ((u : Int) + wrap64 ((2 : Int) ^ r)) = ((u + pw : Nat) : Int) := by rw [wrap64_nat hpc hpb]; unfold wrap64; omega
                        rw [← hcw] at HSN
                        clear hcw
                        have hiI : (i : Int) < (la : Int) := by omega
                        have hrI : (r : Int) ≤ 23 := by omega
                        clear hpc hpc1 hpb hvs hdm hidx hq1 hq2 hq3 hu hi hr hpw hinv hst hil
                        go_wp2_with fail
                        go_roundw
                        case rel => exact ⟨j, S', _, by first | rfl | (congr 1; omega), by omega, hlS', HDN, HSN⟩
                        case measure => simp [intOf]
end Go.Proofs.Ytpchcigpppdfiaa
