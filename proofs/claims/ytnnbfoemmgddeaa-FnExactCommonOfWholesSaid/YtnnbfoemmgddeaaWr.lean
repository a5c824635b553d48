/-
  Contract of the model: greatest common divisors. Conditions: the limbs can be read. Contract of the model: CommonOfWholes. Conditions: the limbs can be read.
-/
import Derived.Test.YtnnbfoemmgddeaaRb
import Derived.Test.YtnnbfoemmgddeaaVe
import Derived.Test.YtnnbfoemmgddeaaTg
import Derived.Test.YtnnbfoemmgddeaaWj
import Derived.Test.YtnnbfoemmgddeaaWn
import Derived.Test.YtnnbfoemmgddeaaRd
import Derived.Test.YtnnbfoemmgddeaaTf
namespace Go.Proofs.Ytnnbfoemmgddeaa
set_option linter.unusedVariables false
open Go Go.RowKit

theorem Own.setBox {w : World} {lo g : Nat} {a : Option Addr} {xs : List Int} {cs : Array Value} (h : Own w lo a xs) (hb : BoxAt w g 58 cs) (i : Nat) (u : Value) : Own (w.setCell ⟨g, i, none⟩ u) lo a xs := by
  rcases h with h | ⟨g', e, hg, hr⟩
  · exact .inl h
  · refine .inr ⟨g', e, hg, hr.far (p := ⟨g, i, none⟩) (fun hgg => ?_) u⟩
    obtain ⟨cur, hc, _⟩ := hr
    simp only at hgg
    subst hgg
    unfold BoxAt at hb
    rw [hb] at hc
    injection hc with hc
    injection hc with _ hc
    exact absurd hc (by decide)
/-- A variable that holds a number of at least 0, its limbs in memory from block lo on. -/
def VarX (w : World) (lo g n : Nat) : Prop := ∃ a c, (lim n).length ≤ c ∧ Own w lo a (lim n) ∧ BoxAt w g 58 #[.int .i64 (sgnOf 1 n), .slice a (lim n).length c]
theorem VarX.below {w w' : World} {lo g n : Nat} (h : VarX w lo g n) (hb : Below w.heap.size w w') : VarX w' lo g n := by
  obtain ⟨a, c, hc, ho, hx⟩ := h
  exact ⟨a, c, hc, ho.below hb, hx.below hb⟩
theorem VarX.far {w : World} {lo g g' n : Nat} {cs : Array Value} (h : VarX w lo g n) (hb : BoxAt w g' 58 cs) (hne : g ≠ g') (i : Nat) (u : Value) : VarX (w.setCell ⟨g', i, none⟩ u) lo g n := by
  obtain ⟨a, c, hc, ho, hx⟩ := h
  exact ⟨a, c, hc, ho.setBox hb i u, hx.far (p := ⟨g', i, none⟩) hne u⟩
theorem VarX.set {w : World} {lo g n : Nat} {v0 v1 : Value} {a : Option Addr} {c : Nat} (hb : BoxAt w g 58 #[v0, v1]) (ho : Own w lo a (lim n)) (hc : (lim n).length ≤ c) :
    VarX ((w.setCell ⟨g, 0, none⟩ (.int .i64 (sgnOf 1 n))).setCell ⟨g, 1, none⟩ (.slice a (lim n).length c)) lo g n := by
  have h1 := hb.set_ 0 (.int .i64 (sgnOf 1 n))
  refine ⟨a, c, hc, (ho.setBox hb 0 _).setBox h1 1 _, ?_⟩
  have := h1.set_ 1 (.slice a (lim n).length c)
  simpa using this
/-- The number that a variable holds. -/
noncomputable def varN (g : Nat) (w : World) : Nat := magAt ((w.cell? ⟨g, 1, none⟩).getD (.int .i64 0)) w
theorem varN_eq {w : World} {lo g n : Nat} (h : VarX w lo g n) : varN g w = n := by
  obtain ⟨a, c, hc, ho, hx⟩ := h
  have e : w.cell? ⟨g, 1, none⟩ = some (.slice a (lim n).length c) := hx.cell 1
  unfold varN
  rw [e]
  exact magAt_eq ho.ints
/-- The two variables of the greatest common divisor. -/
structure ComSt (W0 wr : World) (gx gy x y : Nat) : Prop where
  bel : Below W0.heap.size W0 wr
  lx : W0.heap.size ≤ gx
  ly : W0.heap.size ≤ gy
  ne : gx ≠ gy
  xV : VarX wr W0.heap.size gx x
  yV : VarX wr W0.heap.size gy y
theorem ComSt.below {W0 wr W : World} {gx gy x y : Nat} (h : ComSt W0 wr gx gy x y) (hb : Below wr.heap.size wr W) : ComSt W0 W gx gy x y :=
  ⟨h.bel.trans (hb.mono h.bel.size), h.lx, h.ly, h.ne, h.xV.below hb, h.yV.below hb⟩
theorem ComSt.symm {W0 wr : World} {gx gy x y : Nat} (h : ComSt W0 wr gx gy x y) : ComSt W0 wr gy gx y x := ⟨h.bel, h.ly, h.lx, Ne.symm h.ne, h.yV, h.xV⟩
theorem ComSt.setX {W0 W : World} {gx gy x x' y : Nat} {a : Option Addr} {c : Nat} (h : ComSt W0 W gx gy x y) (ho : Own W W0.heap.size a (lim x')) (hc : (lim x').length ≤ c) :
    ComSt W0 ((W.setCell ⟨gx, 0, none⟩ (.int .i64 (sgnOf 1 x'))).setCell ⟨gx, 1, none⟩ (.slice a (lim x').length c)) gx gy x' y := by
  obtain ⟨a1, c1, h1, o1, b1⟩ := h.xV
  have h2 := b1.set_ 0 (.int .i64 (sgnOf 1 x'))
  exact ⟨(h.bel.setCell (by simpa using h.lx) _).setCell (by simpa using h.lx) _, h.lx, h.ly, h.ne, VarX.set b1 ho hc, (h.yV.far b1 (Ne.symm h.ne) 0 _).far h2 (Ne.symm h.ne) 1 _⟩
theorem ComSt.setY {W0 W : World} {gx gy x y' y : Nat} {a : Option Addr} {c : Nat} (h : ComSt W0 W gx gy x y) (ho : Own W W0.heap.size a (lim y')) (hc : (lim y').length ≤ c) :
    ComSt W0 ((W.setCell ⟨gy, 0, none⟩ (.int .i64 (sgnOf 1 y'))).setCell ⟨gy, 1, none⟩ (.slice a (lim y').length c)) gx gy x y' := (h.symm.setX ho hc).symm
theorem subN {x y : Nat} (h : y ≤ x) (w : World) (e : Ending) (w' : World) (hr : RetZ (sgnOf 1 x * (x : Int) - sgnOf 1 y * (y : Int)) w e w') : RetN (sgnOf 1 (x - y)) (x - y) w e w' := by
  rw [(sgn_self x).2, (sgn_self y).2] at hr
  have e1 : ((x : Int) - (y : Int)).natAbs = x - y := by omega
  have e2 : ((x : Int) - (y : Int)).sign = sgnOf 1 (x - y) := by
    by_cases h0 : x - y = 0
    · rw [h0, sgnOf_zero, show (x : Int) - (y : Int) = 0 by omega]; rfl
    · rw [sgnOf_pos h0]; exact Int.sign_eq_one_of_pos (by omega)
  unfold RetZ at hr
  rw [e1, e2] at hr
  exact hr
theorem sSubN (m n : Nat) (hmn : n ≤ m) (a b : Option Addr) (c1 c2 : Nat) (w : World) (hx : Ints w w.heap.size a (lim m)) (hy : Ints w w.heap.size b (lim n)) (hl : (lim m).length ≤ 1048576) (hl' : (lim n).length ≤ 1048576) (hc1 : (lim m).length ≤ c1) (hc2 : (lim n).length ≤ c2) :
    Calls Try.prog 150 #[.agg #[.int .i64 (sgnOf 1 m), .slice a (lim m).length c1], .agg #[.int .i64 (sgnOf 1 n), .slice b (lim n).length c2]] w (RetN (sgnOf 1 (m - n)) (m - n) w) :=
  (sSub (sgnOf 1 m) (sgnOf 1 n) a b m n c1 c2 w _ _ (Nat.le_refl _) (Nat.le_refl _) hx hy (sgn_self m).1 (sgn_self n).1 hl hl' hc1 hc2).mono fun e w' h => subN hmn w e w' h
theorem sCutN (n : Nat) (h0 : n ≠ 0) (a : Option Addr) (c1 : Nat) (w : World) (hx : Ints w w.heap.size a (lim n)) (hl : (lim n).length ≤ 200) :
    Calls Try.prog 148 #[.agg #[.int .i64 (sgnOf 1 n), .slice a (lim n).length c1], .int .i64 (tw n : Int)] w (RetN (sgnOf 1 (od n)) (od n) w) := by
  have ht : tw n ≤ 4800 := by have := tw_len h0; rw [← lim_length] at this; omega
  have h := sCut (sgnOf 1 n) a n c1 (tw n) w _ (Nat.le_refl _) hx (by omega) (by omega)
  have e : n / 2 ^ tw n = od n := rfl
  rw [e, sgnOf_pos h0] at h
  rw [sgnOf_pos h0]
  exact h
theorem BoxAt.drew_ {w : World} {g : Nat} {t : TypeId} {cs : Array Value} (h : BoxAt w g t cs) : BoxAt w.drew g t cs := h
theorem far_two {w : World} {g g' : Nat} {v0 v1 : Value} {cs : Array Value} (hq : BoxAt w g 58 cs) (hr : BoxAt w g' 58 #[v0, v1]) (hne : g' ≠ g) :
    (∀ u v, ((w.setCell ⟨g, 0, none⟩ u).setCell ⟨g, 1, none⟩ v).cell? ⟨g', 0, none⟩ = some v0) ∧ (∀ u v, ((w.setCell ⟨g, 0, none⟩ u).setCell ⟨g, 1, none⟩ v).cell? ⟨g', 1, none⟩ = some v1) ∧
    (∀ u v, ((w.setCell ⟨g, 0, none⟩ u).setCell ⟨g, 1, none⟩ v).frozen? ⟨g', 0, none⟩ = false) ∧ (∀ u v, ((w.setCell ⟨g, 0, none⟩ u).setCell ⟨g, 1, none⟩ v).frozen? ⟨g', 1, none⟩ = false) := by
  have h := fun u v => BoxAt.two ((hr.far (p := ⟨g, 0, none⟩) hne u).far (p := ⟨g, 1, none⟩) hne v)
  exact ⟨fun u v => (h u v).1, fun u v => (h u v).2.1, fun u v => (h u v).2.2.1, fun u v => (h u v).2.2.2⟩
/-- Both variables behind their declaration. -/
def ComAt (W0 W : World) (p q : Value) (m n : Nat) : Prop := ∃ gx gy, p = .pointer (some ⟨gx, 0, none⟩) ∧ q = .pointer (some ⟨gy, 0, none⟩) ∧ ComSt W0 W gx gy m n
theorem VarX.alloc {w : World} {lo g n : Nat} (h : VarX w lo g n) (o : Obj) : VarX (w.alloc o) lo g n := by
  obtain ⟨a, c, hc, ho, hx⟩ := h
  exact ⟨a, c, hc, ho.alloc o, hx.alloc o⟩
theorem VarX.new {w : World} {lo n : Nat} {a : Option Addr} {c : Nat} (ho : Own w lo a (lim n)) (hc : (lim n).length ≤ c) :
    VarX (w.alloc (.cells #[.int .i64 (sgnOf 1 n), .slice a (lim n).length c] 58)) lo w.heap.size n := ⟨a, c, hc, ho.alloc _, BoxAt.new w _ _⟩
theorem ComAt.symm {W0 W : World} {p q : Value} {m n : Nat} (h : ComAt W0 W p q m n) : ComAt W0 W q p n m := by
  obtain ⟨gx, gy, hp, hq, hs⟩ := h
  exact ⟨gy, gx, hq, hp, hs.symm⟩
theorem ComAt.mk0 {W0 w : World} {m n c d : Nat} {a b : Option Addr} (hb : Below W0.heap.size W0 w) (ha : Own w W0.heap.size a (lim m)) (hc : (lim m).length ≤ c) (hb' : Own w W0.heap.size b (lim n)) (hd : (lim n).length ≤ d) :
    ComAt W0 ((w.alloc (.cells #[.int .i64 (sgnOf 1 m), .slice a (lim m).length c] 58)).alloc (.cells #[.int .i64 (sgnOf 1 n), .slice b (lim n).length d] 58)) (.pointer (some ⟨w.heap.size, 0, none⟩)) (.pointer (some ⟨w.heap.size + 1, 0, none⟩)) m n := by
  have hs := hb.size
  have h2 := VarX.new (w := w.alloc (.cells #[.int .i64 (sgnOf 1 m), .slice a (lim m).length c] 58)) (hb'.alloc _) hd
  simp only [size_al] at h2
  exact ⟨_, _, rfl, rfl, bal (bal hb), hs, by omega, by omega, (VarX.new ha hc).alloc _, h2⟩
theorem ComAt.mk1 {W0 w : World} {m n c d G : Nat} {a b : Option Addr} {v0 v1 : Value} (hq : BoxAt w G 58 #[v0, v1]) (hG : W0.heap.size ≤ G) (hb : Below W0.heap.size W0 w) (ha : Own w W0.heap.size a (lim m)) (hc : (lim m).length ≤ c) (hb' : Own w W0.heap.size b (lim n)) (hd : (lim n).length ≤ d) :
    ComAt W0 (((w.setCell ⟨G, 0, none⟩ (.int .i64 (sgnOf 1 m))).setCell ⟨G, 1, none⟩ (.slice a (lim m).length c)).alloc (.cells #[.int .i64 (sgnOf 1 n), .slice b (lim n).length d] 58)) (.pointer (some ⟨G, 0, none⟩)) (.pointer (some ⟨w.heap.size, 0, none⟩)) m n := by
  have hs := hb.size
  have hl := hq.lt
  have h2 := VarX.new (w := (w.setCell ⟨G, 0, none⟩ (.int .i64 (sgnOf 1 m))).setCell ⟨G, 1, none⟩ (.slice a (lim m).length c)) ((hb'.setBox hq 0 _).setBox (hq.set_ 0 _) 1 _) hd
  have e : ((w.setCell ⟨G, 0, none⟩ (.int .i64 (sgnOf 1 m))).setCell ⟨G, 1, none⟩ (.slice a (lim m).length c)).heap.size = w.heap.size := by simp [World.setCell]
  rw [e] at h2
  exact ⟨_, _, rfl, rfl, bal (below_set2 hb hG _ _), hG, hs, by omega, (VarX.set hq ha hc).alloc _, h2⟩
theorem ComAt.mk2 {W0 w : World} {m n c d G G' : Nat} {a b : Option Addr} {v0 v1 u0 u1 : Value} (hq : BoxAt w G 58 #[v0, v1]) (hr : BoxAt w G' 58 #[u0, u1]) (hne : G ≠ G') (hG : W0.heap.size ≤ G) (hG' : W0.heap.size ≤ G') (hb : Below W0.heap.size W0 w) (ha : Own w W0.heap.size a (lim m)) (hc : (lim m).length ≤ c) (hb' : Own w W0.heap.size b (lim n)) (hd : (lim n).length ≤ d) :
    ComAt W0 ((((w.setCell ⟨G, 0, none⟩ (.int .i64 (sgnOf 1 m))).setCell ⟨G, 1, none⟩ (.slice a (lim m).length c)).setCell ⟨G', 0, none⟩ (.int .i64 (sgnOf 1 n))).setCell ⟨G', 1, none⟩ (.slice b (lim n).length d)) (.pointer (some ⟨G, 0, none⟩)) (.pointer (some ⟨G', 0, none⟩)) m n := by
  have h1 := VarX.set hq ha hc
  have hr1 := (hr.far (p := ⟨G, 0, none⟩) (Ne.symm hne) (.int .i64 (sgnOf 1 m))).far (p := ⟨G, 1, none⟩) (Ne.symm hne) (.slice a (lim m).length c)
  have ho := (hb'.setBox hq 0 (.int .i64 (sgnOf 1 m))).setBox (hq.set_ 0 _) 1 (.slice a (lim m).length c)
  exact ⟨_, _, rfl, rfl, below_set2 (below_set2 hb hG _ _) hG' _ _, hG, hG', hne, (h1.far hr1 hne 0 _).far (hr1.set_ 0 _) hne 1 _, VarX.set hr1 ho hd⟩
theorem cutOk {W0 wc : World} {x : Nat} {a : Option Addr} {c : Nat} (ho : Own wc W0.heap.size a (lim x)) (h0 : x ≠ 0) (hl : (lim x).length ≤ 200) (hW0 : W0.heap.size ≤ wc.heap.size) :
    (∀ W, Below wc.heap.size wc W → Calls Try.prog 147 #[.agg #[.int .i64 (sgnOf 1 x), .slice a (lim x).length c]] W fun e w' => e = .returned (.int .i64 (tw x : Int)) ∧ Below wc.heap.size wc w') ∧
    (∀ W, Below wc.heap.size wc W → Calls Try.prog 148 #[.agg #[.int .i64 (sgnOf 1 x), .slice a (lim x).length c], .int .i64 (tw x : Int)] W fun e w' => ∃ x' c', e = .returned (.agg #[.int .i64 (sgnOf 1 (od x)), .slice x' (lim (od x)).length c']) ∧ (lim (od x)).length ≤ c' ∧ Own w' W0.heap.size x' (lim (od x)) ∧ Below wc.heap.size wc w') := by
  refine ⟨fun W hW => ?_, fun W hW => ?_⟩
  · exact (sTwos (sgnOf 1 x) a x c W _ (Nat.le_refl _) (ho.below hW).ints (by omega) h0).mono fun e w' ⟨he, hb⟩ => ⟨he, hW.trans (hb.mono hW.size)⟩
  · exact (sCutN x h0 a c W (ho.below hW).ints hl).mono fun e w' ⟨x', c', he, hc, ho', hb⟩ => ⟨x', c', he, hc, ho'.mono (Nat.le_trans hW0 hW.size), hW.trans (hb.mono hW.size)⟩
theorem comEnd {w W0 W : World} {g : Nat} {a : Option Addr} {c : Nat} (P3 : Below w.heap.size w W0) (P4 : W0.heap.size = w.heap.size + 3) (hb : Below W0.heap.size W0 W) (ho : Own W W0.heap.size a (lim g)) (hc : (lim g).length ≤ c) (u v : Value) :
    RetN (sgnOf 1 g) g w (.returned (.agg #[.int .i64 (sgnOf 1 g), .slice a (lim g).length c])) ((W.setCell ⟨w.heap.size + 1 + 1, 0, none⟩ u).setCell ⟨w.heap.size + 1 + 1, 1, none⟩ v) :=
  ⟨a, c, rfl, hc, ((ho.setFar (by simp; omega) _).setFar (by simp; omega) _).mono (by omega), ((P3.trans (hb.mono (by omega))).setCell (by simp <;> omega) _).setCell (by simp <;> omega) _⟩
theorem boxSet {w : World} {g : Nat} {v0 v1 : Value} (hb : BoxAt w g 58 #[v0, v1]) (u v : Value) : BoxAt ((w.setCell ⟨g, 0, none⟩ u).setCell ⟨g, 1, none⟩ v) g 58 #[u, v] := by
  have := (hb.set_ 0 u).set_ 1 v
  simpa using this
/-- What the loop of the greatest common divisor keeps of its two numbers. -/
structure ComInv (g x y : Nat) : Prop where
  ox : x % 2 = 1
  oy : y % 2 = 1
  gcd : Nat.gcd x y = g
  lx : (lim x).length ≤ 200
  ly : (lim y).length ≤ 200
theorem ComInv.symm {g x y : Nat} (h : ComInv g x y) : ComInv g y x := ⟨h.oy, h.ox, by rw [Nat.gcd_comm]; exact h.gcd, h.ly, h.lx⟩
theorem ComInv.less {g x y : Nat} (h : ComInv g x y) (hlt : y < x) : ComInv g (od (x - y)) y ∧ od (x - y) < x := by
  obtain ⟨h1, h2, h3, h4⟩ := gcd_less h.oy hlt
  exact ⟨⟨h2, h.oy, by rw [h1]; exact h.gcd, Nat.le_trans (lim_le_of_le (Nat.le_of_lt h4)) h.lx, h.ly⟩, h4⟩
theorem cmpOk {W0 wc : World} {x y : Nat} {a b : Option Addr} {c d : Nat} (ho : Own wc W0.heap.size a (lim x)) (ho' : Own wc W0.heap.size b (lim y)) (hl : (lim x).length ≤ 200) (hl' : (lim y).length ≤ 200) :
    Calls Try.prog 149 #[.agg #[.int .i64 (sgnOf 1 x), .slice a (lim x).length c], .agg #[.int .i64 (sgnOf 1 y), .slice b (lim y).length d]] wc fun e w' => e = .returned (.int .i64 (cmpZ (x : Int) (y : Int))) ∧ Below wc.heap.size wc w' := by
  have h := sCompare (sgnOf 1 x) (sgnOf 1 y) a b x y c d wc _ _ (Nat.le_refl _) (Nat.le_refl _) ho.ints ho'.ints (sgn_self x).1 (sgn_self y).1 (by omega) (by omega)
  rw [(sgn_self x).2, (sgn_self y).2] at h
  exact h.mono fun e w' ⟨he, hb⟩ => ⟨he, hb⟩
theorem subOk {W0 wc : World} {x y : Nat} {a b : Option Addr} {c d : Nat} (hxy : y < x) (ho : Own wc W0.heap.size a (lim x)) (ho' : Own wc W0.heap.size b (lim y)) (hl : (lim x).length ≤ 200) (hl' : (lim y).length ≤ 200) (hc : (lim x).length ≤ c) (hd : (lim y).length ≤ d) (hW0 : W0.heap.size ≤ wc.heap.size) :
    Calls Try.prog 150 #[.agg #[.int .i64 (sgnOf 1 x), .slice a (lim x).length c], .agg #[.int .i64 (sgnOf 1 y), .slice b (lim y).length d]] wc fun e w' => ∃ x' c', e = .returned (.agg #[.int .i64 (sgnOf 1 (x - y)), .slice x' (lim (x - y)).length c']) ∧ (lim (x - y)).length ≤ c' ∧ Own w' W0.heap.size x' (lim (x - y)) ∧ Below wc.heap.size wc w' :=
  (sSubN x y (Nat.le_of_lt hxy) a b c d wc ho.ints ho'.ints (by omega) (by omega) hc hd).mono fun e w' ⟨x', c', he, hc', ho'', hb⟩ => ⟨x', c', he, hc', ho''.mono hW0, hb⟩
theorem leftOk {W0 wc : World} {x T : Nat} {a : Option Addr} {c : Nat} (ho : Own wc W0.heap.size a (lim x)) (hl : (lim x).length ≤ 200) (hT : T ≤ 4800) (hbW : Below W0.heap.size W0 wc) :
    Calls Try.prog 151 #[.agg #[.int .i64 (sgnOf 1 x), .slice a (lim x).length c], .int .i64 (T : Int)] wc fun e w' => ∃ x' c', e = .returned (.agg #[.int .i64 (sgnOf 1 (x * 2 ^ T)), .slice x' (lim (x * 2 ^ T)).length c']) ∧ (lim (x * 2 ^ T)).length ≤ c' ∧ Own w' W0.heap.size x' (lim (x * 2 ^ T)) ∧ Below W0.heap.size W0 w' :=
  (sLeftN x a c T wc ho.ints (by omega) (by omega)).mono fun e w' ⟨x', c', he, hc', ho'', hb⟩ => ⟨x', c', he, hc', ho''.mono hbW.size, hbW.trans (hb.mono hbW.size)⟩
set_option maxRecDepth 100000 in
set_option maxHeartbeats 4000000 in
theorem sCommon (s t : Int) (a b : Option Addr) (m n c1 c2 : Nat) (w : World) (B C : Nat) (hB : B ≤ w.heap.size) (hC : C ≤ w.heap.size) (hx : Ints w B a (lim m)) (hy : Ints w C b (lim n)) (hs : Sg s m) (ht : Sg t n)
    (hl : (lim m).length ≤ 200) (hl' : (lim n).length ≤ 200) (hc1 : (lim m).length ≤ c1) (hc2 : (lim n).length ≤ c2) :
    Calls Try.prog 122 #[.agg #[.int .i64 s, .slice a (lim m).length c1], .agg #[.int .i64 t, .slice b (lim n).length c2]] w (RetN (sgnOf 1 (Nat.gcd m n)) (Nat.gcd m n) w) := by
  obtain ⟨W0, hW0⟩ : ∃ W0 : World, ((w.alloc (.cells #[.int .i64 s, .slice a (lim m).length c1] 58)).alloc (.cells #[.int .i64 t, .slice b (lim n).length c2] 58)).alloc (.cells #[.int .i64 0, .slice none 0 0] 58) = W0 := ⟨_, rfl⟩
  obtain ⟨p1, p2, p5, p3, p4⟩ := three_box w 58 #[.int .i64 s, .slice a (lim m).length c1] #[.int .i64 t, .slice b (lim n).length c2] #[.int .i64 0, .slice none 0 0]
  rw [hW0] at p1 p2 p3 p4 p5
  have HW0 := Lib.hid hW0
  have P3 := Lib.hid p3
  have P4 := Lib.hid p4
  have SS := Lib.hid (show ∀ W, Below W0.heap.size W0 W → (W.cell? ⟨w.heap.size, 0, none⟩ = some (.int .i64 s) ∧ W.cell? ⟨w.heap.size, 1, none⟩ = some (.slice a (lim m).length c1) ∧ W.cell? ⟨w.heap.size + 1, 0, none⟩ = some (.int .i64 t) ∧ W.cell? ⟨w.heap.size + 1, 1, none⟩ = some (.slice b (lim n).length c2)) from
    fun W hW => ⟨(p1.below hW).cell 0, (p1.below hW).cell 1, (p2.below hW).cell 0, (p2.below hW).cell 1⟩)
  have SR := Lib.hid (show ∀ W, Below W0.heap.size W0 W → (W.cell? ⟨w.heap.size + 1 + 1, 0, none⟩ = some (.int .i64 0) ∧ W.cell? ⟨w.heap.size + 1 + 1, 1, none⟩ = some (.slice none 0 0) ∧ W.frozen? ⟨w.heap.size + 1 + 1, 0, none⟩ = false ∧ W.frozen? ⟨w.heap.size + 1 + 1, 1, none⟩ = false) from
    fun W hW => (p5.below hW).two)
  have hT : Below W0.heap.size W0 W0 := Below.refl _ _
  have hT' : Below W0.heap.size W0 W0.drew := hT.drew
  have IX := Lib.hid (show ∀ W, Below W0.heap.size W0 W → Ints W B a (lim m) ∧ Ints W C b (lim n) ∧ B ≤ W.heap.size ∧ C ≤ W.heap.size from fun W hW => ⟨hx.below ((p3.mono hB).trans (hW.mono (by omega))), hy.below ((p3.mono hC).trans (hW.mono (by omega))), by have := hW.size; omega, by have := hW.size; omega⟩)
  have HABX := Lib.hid (show ∀ W, Below W0.heap.size W0 W → Calls Try.prog 146 #[.agg #[.int .i64 s, .slice a (lim m).length c1]] W fun e w' => ∃ x c, e = .returned (.agg #[.int .i64 (sgnOf 1 m), .slice x (lim m).length c]) ∧ (lim m).length ≤ c ∧ Own w' W0.heap.size x (lim m) ∧ Below W0.heap.size W0 w' ∧ Below W.heap.size W w' from
    fun W hW => (sAbs s a m c1 W B (IX.out W hW).2.2.1 (IX.out W hW).1 hs (by omega) hc1).mono fun e w' ⟨x, c, he, hc, ho, hb⟩ => ⟨x, c, he, hc, ho.mono hW.size, hW.trans (hb.mono hW.size), hb⟩)
  have HABY := Lib.hid (show ∀ W, Below W0.heap.size W0 W → Calls Try.prog 146 #[.agg #[.int .i64 t, .slice b (lim n).length c2]] W fun e w' => ∃ x c, e = .returned (.agg #[.int .i64 (sgnOf 1 n), .slice x (lim n).length c]) ∧ (lim n).length ≤ c ∧ Own w' W0.heap.size x (lim n) ∧ Below W0.heap.size W0 w' ∧ Below W.heap.size W w' from
    fun W hW => (sAbs t b n c2 W C (IX.out W hW).2.2.2 (IX.out W hW).2.1 ht (by omega) hc2).mono fun e w' ⟨x, c, he, hc, ho, hb⟩ => ⟨x, c, he, hc, ho.mono hW.size, hW.trans (hb.mono hW.size), hb⟩)
  have HLN := Lib.hid (show (lim m).length ≤ 200 ∧ (lim n).length ≤ 200 from ⟨hl, hl'⟩)
  obtain ⟨G, hG⟩ : ∃ G, G = Nat.gcd m n := ⟨_, rfl⟩
  rw [← hG]
  have HGG := Lib.hid hG
  clear hG p1 p2 p3 p4 p5 hx hy hW0 hB hC hl hl' IX hs ht hc1 hc2
  go_enter Try.func122, Try.ntmps122
  go_wp2_with fail
  rw [HW0.out]
  go_cut [5, 6] (fun p q W => ComAt W0 W p q m n)
  case first => as_aux_lemma =>
    have hT1 : Below W0.heap.size W0 (W0.alloc (.cells #[.int .i64 0, .slice none 0 0] 58)).drew := (bal hT).drew
    have hT2 : Below W0.heap.size W0 ((W0.alloc (.cells #[.int .i64 0, .slice none 0 0] 58)).alloc (.cells #[.int .i64 0, .slice none 0 0] 58)).drew := (bal (bal hT)).drew
    have z1 : ∀ W : World, ((W.alloc (.cells #[.int .i64 0, .slice none 0 0] 58)).alloc (.cells #[.int .i64 0, .slice none 0 0] 58)).cell? ⟨W.heap.size, 0, none⟩ = some (.int .i64 0) := fun W => ((BoxAt.new W _ _).alloc _).cell 0
    have z2 : ∀ W : World, ((W.alloc (.cells #[.int .i64 0, .slice none 0 0] 58)).alloc (.cells #[.int .i64 0, .slice none 0 0] 58)).cell? ⟨W.heap.size, 1, none⟩ = some (.slice none 0 0) := fun W => ((BoxAt.new W _ _).alloc _).cell 1
    have z3 : ∀ W : World, ((W.alloc (.cells #[.int .i64 0, .slice none 0 0] 58)).alloc (.cells #[.int .i64 0, .slice none 0 0] 58)).frozen? ⟨W.heap.size, 0, none⟩ = false := fun W => ((BoxAt.new W _ _).alloc _).frozen 0
    have z4 : ∀ W : World, ((W.alloc (.cells #[.int .i64 0, .slice none 0 0] 58)).alloc (.cells #[.int .i64 0, .slice none 0 0] 58)).frozen? ⟨W.heap.size, 1, none⟩ = false := fun W => ((BoxAt.new W _ _).alloc _).frozen 1
    go_region_held3 (fun W => W.cell? ⟨w.heap.size, 0, none⟩ = some (.int .i64 s) ∧ W.cell? ⟨w.heap.size, 1, none⟩ = some (.slice a (lim m).length c1) ∧ W.cell? ⟨w.heap.size + 1, 0, none⟩ = some (.int .i64 t) ∧ W.cell? ⟨w.heap.size + 1, 1, none⟩ = some (.slice b (lim n).length c2))
      (with_reducible first | exact SS.out _ (by assumption) | exact SS.out _ (bal (by assumption)) | exact SS.out _ (bal (bal (by assumption))) | exact SS.out _ (by repeat (first | assumption | refine below_set2 ?_ (by first | omega | (simp; omega) | simp) _ _ | refine bal ?_)))
      (first
      | (go_at_call 146; with_reducible refine (HABX.out _ (by with_reducible first | assumption | exact bal (by assumption) | exact bal (bal (by assumption)))).mono ?_; rintro e w5 ⟨x5, d5, rfl, hc5, ho5, hb5, hb5'⟩; have hk5 := fun g v0 v1 (h : BoxAt _ g 58 #[v0, v1]) => BoxAt.below h hb5'; have hz5 := hb5.size; have hy5 := hb5'.size; (try simp at hy5))
      | (go_at_call 146; with_reducible refine (HABY.out _ (by with_reducible first | assumption | exact bal (by assumption) | exact bal (bal (by assumption)))).mono ?_; rintro e w6 ⟨x6, d6, rfl, hc6, ho6, hb6, hb6'⟩; (have hz6 := hb6.size; have hy6 := hb6'.size; (try simp at hy6); (first | (with_reducible have ho56 := ho5.below hb6') | (with_reducible have ho56 := (ho5.alloc _).below hb6') | (with_reducible have ho56 := ((ho5.alloc _).alloc _).below hb6')); (first | (with_reducible have hq := BoxAt.below (hk5 _ _ _ (BoxAt.drew_ ((BoxAt.new W0 _ _).alloc _))) hb6'; obtain ⟨q1, q2, q3, q4⟩ := BoxAt.two hq; have hql := hq.lt; with_reducible have hr := BoxAt.below (hk5 _ _ _ (BoxAt.newd (W0.alloc _) _ _)) hb6'; (try simp only [size_al] at hr); obtain ⟨r1, r2, r3, r4⟩ := BoxAt.two hr; have hrl := hr.lt; obtain ⟨f1, f2, f3, f4⟩ := far_two hq hr (by first | omega | (simp; omega) | simp); obtain ⟨f5, f6, f7, f8⟩ := far_two hr hq (by first | omega | (simp; omega) | simp)) | (with_reducible have hq := BoxAt.below ((BoxAt.new w5 _ _).alloc _) hb6'; obtain ⟨q1, q2, q3, q4⟩ := BoxAt.two hq; have hql := hq.lt; with_reducible have hr := BoxAt.below (BoxAt.new (w5.alloc _) _ _) hb6'; (try simp only [size_al] at hr); obtain ⟨r1, r2, r3, r4⟩ := BoxAt.two hr; have hrl := hr.lt; obtain ⟨f1, f2, f3, f4⟩ := far_two hq hr (by first | omega | (simp; omega) | simp); obtain ⟨f5, f6, f7, f8⟩ := far_two hr hq (by first | omega | (simp; omega) | simp)) | (with_reducible have hq := BoxAt.below ((hk5 _ _ _ (BoxAt.newd W0 _ _)).alloc _) hb6'; obtain ⟨q1, q2, q3, q4⟩ := BoxAt.two hq; have hql := hq.lt; with_reducible have hr := BoxAt.below (BoxAt.new w5 _ _) hb6'; (try simp only [size_al] at hr); obtain ⟨r1, r2, r3, r4⟩ := BoxAt.two hr; have hrl := hr.lt; obtain ⟨f1, f2, f3, f4⟩ := far_two hq hr (by first | omega | (simp; omega) | simp); obtain ⟨f5, f6, f7, f8⟩ := far_two hr hq (by first | omega | (simp; omega) | simp)) | (with_reducible have hq := BoxAt.below ((hk5 _ _ _ (BoxAt.newe W0 _ _)).alloc _) hb6'; obtain ⟨q1, q2, q3, q4⟩ := BoxAt.two hq; have hql := hq.lt; with_reducible have hr := BoxAt.below (BoxAt.new w5 _ _) hb6'; (try simp only [size_al] at hr); obtain ⟨r1, r2, r3, r4⟩ := BoxAt.two hr; have hrl := hr.lt; obtain ⟨f1, f2, f3, f4⟩ := far_two hq hr (by first | omega | (simp; omega) | simp); obtain ⟨f5, f6, f7, f8⟩ := far_two hr hq (by first | omega | (simp; omega) | simp)) | (with_reducible have hq := BoxAt.below ((hk5 _ _ _ (BoxAt.new W0 _ _)).alloc _) hb6'; obtain ⟨q1, q2, q3, q4⟩ := BoxAt.two hq; have hql := hq.lt; with_reducible have hr := BoxAt.below (BoxAt.new w5 _ _) hb6'; (try simp only [size_al] at hr); obtain ⟨r1, r2, r3, r4⟩ := BoxAt.two hr; have hrl := hr.lt; obtain ⟨f1, f2, f3, f4⟩ := far_two hq hr (by first | omega | (simp; omega) | simp); obtain ⟨f5, f6, f7, f8⟩ := far_two hr hq (by first | omega | (simp; omega) | simp)) | (with_reducible have hq := BoxAt.below (hk5 _ _ _ (BoxAt.newd W0 _ _)) hb6'; obtain ⟨q1, q2, q3, q4⟩ := BoxAt.two hq; have hql := hq.lt; obtain ⟨q5, q6, q7, q8⟩ := BoxAt.two (BoxAt.alloc hq (.cells #[.int .i64 0, .slice none 0 0] 58))) | (with_reducible have hq := BoxAt.below (hk5 _ _ _ (BoxAt.newe W0 _ _)) hb6'; obtain ⟨q1, q2, q3, q4⟩ := BoxAt.two hq; have hql := hq.lt; obtain ⟨q5, q6, q7, q8⟩ := BoxAt.two (BoxAt.alloc hq (.cells #[.int .i64 0, .slice none 0 0] 58))) | (with_reducible have hq := BoxAt.below (hk5 _ _ _ (BoxAt.new W0 _ _)) hb6'; obtain ⟨q1, q2, q3, q4⟩ := BoxAt.two hq; have hql := hq.lt; obtain ⟨q5, q6, q7, q8⟩ := BoxAt.two (BoxAt.alloc hq (.cells #[.int .i64 0, .slice none 0 0] 58))) | (with_reducible have hq := BoxAt.below (BoxAt.new w5 _ _) hb6'; obtain ⟨q1, q2, q3, q4⟩ := BoxAt.two hq; have hql := hq.lt; obtain ⟨q5, q6, q7, q8⟩ := BoxAt.two (BoxAt.alloc hq (.cells #[.int .i64 0, .slice none 0 0] 58))) | skip))))
    all_goals
      go_wp2_with fail
      go_meet
      with_reducible first
      | exact ComAt.mk0 hb6 ho56 hc5 ho6 hc6
      | exact (ComAt.mk0 hb6 ho6 hc6 ho56 hc5).symm
      | exact ComAt.mk1 hq (by first | omega | (simp; omega) | simp) hb6 ho56 hc5 ho6 hc6
      | exact (ComAt.mk1 hq (by first | omega | (simp; omega) | simp) hb6 ho6 hc6 ho56 hc5).symm
      | exact ComAt.mk2 hq hr (by first | omega | (simp; omega) | simp) (by first | omega | (simp; omega) | simp) (by first | omega | (simp; omega) | simp) hb6 ho56 hc5 ho6 hc6
      | exact ComAt.mk2 hr hq (by first | omega | (simp; omega) | simp) (by first | omega | (simp; omega) | simp) (by first | omega | (simp; omega) | simp) hb6 ho56 hc5 ho6 hc6
  case rest => as_aux_lemma =>
    obtain ⟨gx, gy, rfl, rfl, hst⟩ := hcut
    obtain ⟨a3, c3, hc3, ho3, hb3⟩ := hst.xV
    obtain ⟨a4, c4, hc4, ho4, hb4⟩ := hst.yV
    have HST := Lib.hid hst
    obtain ⟨x1, x2, x3, x4⟩ := hb3.two
    obtain ⟨y1, y2, y3, y4⟩ := hb4.two
    obtain ⟨q1, q2, q3, q4⟩ := SR.out _ hst.bel
    by_cases hm0 : m = 0
    · subst hm0
      have HEND := Lib.hid (fun u v => comEnd P3.out P4.out hst.bel ho4 hc4 u v)
      have hs0 : sgnOf 1 0 = 0 := sgnOf_zero 1
      have hGn : G = n := by rw [HGG.out, Nat.gcd_zero_left]
      rw [hs0] at x1
      clear hc3 ho3 hb3 hc4 ho4 hb4 hst HABX HABY hs0
      go_wp2_with fail
      refine bodyPost_ret (v := .agg #[.int .i64 (sgnOf 1 n), .slice a4 (lim n).length c4]) (by simp [results, Try.results122, go_sem, *]) rfl ?_
      rw [hGn]
      exact HEND.out _ _
    by_cases hn0 : n = 0
    · subst hn0
      have HEND := Lib.hid (fun u v => comEnd P3.out P4.out hst.bel ho3 hc3 u v)
      have hs0 : sgnOf 1 0 = 0 := sgnOf_zero 1
      have hs1 : sgnOf 1 m = 1 := sgnOf_pos hm0
      have hGn : G = m := by rw [HGG.out, Nat.gcd_zero_right]
      rw [hs0] at y1
      rw [hs1] at x1 HEND
      have HS1 := Lib.hid hs1
      clear hc3 ho3 hb3 hc4 ho4 hb4 hst HABX HABY hs0 hs1
      go_wp2_with fail
      refine bodyPost_ret (v := .agg #[.int .i64 1, .slice a3 (lim m).length c3]) (by simp [results, Try.results122, go_sem, *]) rfl ?_
      rw [hGn, HS1.out]
      exact HEND.out _ _
    obtain ⟨t1, t2⟩ := cutOk (c := c3) ho3 hm0 HLN.out.1 hst.bel.size
    obtain ⟨t3, t4⟩ := cutOk (c := c4) ho4 hn0 HLN.out.2 hst.bel.size
    have e1 : sgnOf 1 m = 1 := sgnOf_pos hm0
    have e2 : sgnOf 1 n = 1 := sgnOf_pos hn0
    have HE := Lib.hid (show sgnOf 1 m = 1 ∧ sgnOf 1 n = 1 from ⟨e1, e2⟩)
    rw [e1] at t1 t2 x1 hb3
    rw [e2] at t3 t4 y1 hb4
    have HTX := Lib.hid t1
    have HCX := Lib.hid t2
    have HTY := Lib.hid t3
    have HX := Lib.hid (show ∀ W, Below wc.heap.size wc W → (W.cell? ⟨gx, 0, none⟩ = some (.int .i64 1) ∧ W.cell? ⟨gx, 1, none⟩ = some (.slice a3 (lim m).length c3) ∧ W.frozen? ⟨gx, 0, none⟩ = false ∧ W.frozen? ⟨gx, 1, none⟩ = false) from fun W hW => (hb3.below hW).two)
    have HY := Lib.hid (show ∀ W, Below wc.heap.size wc W → (W.cell? ⟨gy, 0, none⟩ = some (.int .i64 1) ∧ W.cell? ⟨gy, 1, none⟩ = some (.slice a4 (lim n).length c4)) from fun W hW => ⟨(hb4.below hW).two.1, (hb4.below hW).two.2.1⟩)
    have HG := Lib.hid (show G = Nat.gcd (od m) (od n) * 2 ^ min (tw m) (tw n) from HGG.out.trans (gcd_twos hm0 hn0))
    obtain ⟨T, hTm⟩ : ∃ T, T = min (tw m) (tw n) := ⟨_, rfl⟩
    have htm : tw m ≤ 4800 := by have := tw_len hm0; rw [← lim_length] at this; have := HLN.out.1; omega
    have htn : tw n ≤ 4800 := by have := tw_len hn0; rw [← lim_length] at this; have := HLN.out.2; omega
    obtain ⟨tm, htm'⟩ : ∃ t, t = tw m := ⟨_, rfl⟩
    obtain ⟨tn, htn'⟩ : ∃ t, t = tw n := ⟨_, rfl⟩
    have HTM := Lib.hid htm'
    have HTN := Lib.hid htn'
    rw [← htm'] at HTX HCX htm hTm HG
    rw [← htn'] at HTY htn hTm HG
    rw [← hTm] at HG
    have HTT := Lib.hid hTm
    have hTI : min (tm : Int) (tn : Int) = (T : Int) := by omega
    have HT4 := Lib.hid (show T ≤ 4800 by omega)
    have hV : Below wc.heap.size wc wc := Below.refl _ _
    have hVd : Below wc.heap.size wc wc.drew := hV.drew
    clear hc3 ho3 hb3 hc4 ho4 hb4 hst HABX HABY e1 e2 t1 t2 t3 t4 htm htn htm' htn' hTm
    go_wp2_with fail
    go_region_held3 (fun W => W.cell? ⟨gx, 0, none⟩ = some (.int .i64 1) ∧ W.cell? ⟨gx, 1, none⟩ = some (.slice a3 (lim m).length c3) ∧ W.cell? ⟨gy, 0, none⟩ = some (.int .i64 1) ∧ W.cell? ⟨gy, 1, none⟩ = some (.slice a4 (lim n).length c4))
      (first | exact ⟨(HX.out _ (by with_reducible assumption)).1, (HX.out _ (by with_reducible assumption)).2.1, HY.out _ (by with_reducible assumption)⟩)
      (first
      | (go_at_call 147; with_reducible refine (HTX.out _ (by assumption)).mono ?_; rintro e w5 ⟨rfl, hb5⟩)
      | (go_at_call 147; with_reducible refine (HTY.out _ (by assumption)).mono ?_; rintro e w6 ⟨rfl, hb6⟩))
    obtain ⟨f1, f2, f3, f4⟩ := HX.out _ hb6
    have HB6 := Lib.hid hb6
    have hb6d := hb6.drew
    clear hb5 hb6 x1 x2 x3 x4 y1 y2 y3 y4 q1 q2 q3 q4
    go_wp2_with fail
    go_cut [7] (fun p W => p = .int .i64 (T : Int) ∧ Hid (ComSt W0 W gx gy (od m) n))
    case first => as_aux_lemma =>
      go_region_with (first
        | (go_at_call 147; with_reducible refine (HTX.out _ (by first | exact HB6.out | exact hb6d)).mono ?_; rintro e w7 ⟨rfl, hb7⟩; clear f1 f2 f3 f4; obtain ⟨f1, f2, f3, f4⟩ := HX.out _ hb7)
        | (go_at_call 148; with_reducible refine (HCX.out _ hb7).mono ?_; rintro e w8 ⟨x8, d8, rfl, hc8, ho8, hb8⟩; clear f1 f2 f3 f4; obtain ⟨f1, f2, f3, f4⟩ := HX.out _ hb8))
      all_goals
        have hfin := Lib.hid ((HST.out.below hb8).setX ho8 hc8)
        go_wp2_with fail
        go_meet
        exact ⟨rfl, hfin⟩
    case rest => as_aux_lemma =>
      obtain ⟨rfl, hst⟩ := hcut
      obtain ⟨a4, c4, hc4, ho4, hb4⟩ := hst.out.yV
      obtain ⟨t1, t2⟩ := cutOk (c := c4) ho4 hn0 HLN.out.2 hst.out.bel.size
      have HTY := Lib.hid t1
      have HCY := Lib.hid t2
      have HY := Lib.hid (show ∀ W, Below wc.heap.size wc W → (W.cell? ⟨gy, 0, none⟩ = some (.int .i64 (sgnOf 1 n)) ∧ W.cell? ⟨gy, 1, none⟩ = some (.slice a4 (lim n).length c4) ∧ W.frozen? ⟨gy, 0, none⟩ = false ∧ W.frozen? ⟨gy, 1, none⟩ = false) from fun W hW => (hb4.below hW).two)
      have hV : Below wc.heap.size wc wc := Below.refl _ _
      have hVd : Below wc.heap.size wc wc.drew := hV.drew
      obtain ⟨f1, f2, f3, f4⟩ := HY.out _ hV
      clear hc4 ho4 hb4 t1 t2
      go_wp2_with fail
      go_cut [7] (fun p W => p = .int .i64 (T : Int) ∧ Hid (ComSt W0 W gx gy (od m) (od n)))
      case first => as_aux_lemma =>
        go_region_with (first
          | (go_at_call 147; with_reducible refine (HTY.out _ (by first | exact hV | exact hVd)).mono ?_; rintro e w7 ⟨rfl, hb7⟩; clear f1 f2 f3 f4; obtain ⟨f1, f2, f3, f4⟩ := HY.out _ hb7)
          | (go_at_call 148; with_reducible refine (HCY.out _ hb7).mono ?_; rintro e w8 ⟨x8, d8, rfl, hc8, ho8, hb8⟩; clear f1 f2 f3 f4; obtain ⟨f1, f2, f3, f4⟩ := HY.out _ hb8))
        all_goals
          have hfin := Lib.hid ((hst.out.below hb8).setY ho8 hc8)
          go_wp2_with fail
          go_meet
          exact ⟨rfl, hfin⟩
      case rest => as_aux_lemma =>
        clear hst
        obtain ⟨rfl, hst⟩ := hcut
        have HIN := Lib.hid (show ComInv (Nat.gcd (od m) (od n)) (od m) (od n) from ⟨(od_mul hm0).2, (od_mul hn0).2, rfl, Nat.le_trans (lim_le_of_le (od_le m)) HLN.out.1, Nat.le_trans (lim_le_of_le (od_le n)) HLN.out.2⟩)
        obtain ⟨g0, hg0⟩ : ∃ g0, g0 = Nat.gcd (od m) (od n) := ⟨_, rfl⟩
        rw [← hg0] at HIN HG
        obtain ⟨m0, hm0'⟩ : ∃ m0, m0 = od m := ⟨_, rfl⟩
        obtain ⟨n0, hn0'⟩ : ∃ n0, n0 = od n := ⟨_, rfl⟩
        rw [← hm0', ← hn0'] at HIN hst
        obtain ⟨a3, c3, hc3, ho3, hb3⟩ := hst.out.xV
        obtain ⟨a4, c4, hc4, ho4, hb4⟩ := hst.out.yV
        obtain ⟨x1, x2, x3, x4⟩ := hb3.two
        obtain ⟨y1, y2, y3, y4⟩ := hb4.two
        have HCM := Lib.hid (cmpOk (c := c3) (d := c4) ho3 ho4 HIN.out.lx HIN.out.ly)
        clear hm0 hn0 hm0' hn0' hg0 hc3 ho3 hb3 hc4 ho4 hb4 f1 f2 f3 f4 HTX HCX HTY HCY HX HY hV hVd HST HE HTM HTN HTT HB6 hb6d hTI
        go_wp2_with fail
        refine HCM.out.mono ?_
        rintro e w9 ⟨rfl, hb9⟩
        have HS9 := Lib.hid (hst.out.below hb9)
        clear hb9 hst x1 x2 x3 x4 y1 y2 y3 y4 HCM
        go_wp2_with fail
        go_loopw [8] (fun q wr => ∃ (x y : Nat), q = .int .i64 (cmpZ (x : Int) (y : Int)) ∧ Hid (ComSt W0 wr gx gy x y) ∧ Hid (ComInv g0 x y)) (fun _ wr => varN gx wr + varN gy wr)
        case atStart => exact ⟨m0, n0, rfl, HS9, HIN⟩
        case round =>
          obtain ⟨x, y, rfl, hst, hinv⟩ := hrel
          have hi := hinv.out
          have HSO := hst
          obtain ⟨a3, c3, hc3, ho3, hb3⟩ := hst.out.xV
          obtain ⟨a4, c4, hc4, ho4, hb4⟩ := hst.out.yV
          obtain ⟨x1, x2, x3, x4⟩ := hb3.two
          obtain ⟨y1, y2, y3, y4⟩ := hb4.two
          rcases Nat.lt_trichotomy x y with hlt | hlt | hlt
          · rw [cmpZ_lt (show (x : Int) < (y : Int) by omega)]
            skip
            obtain ⟨hi2, hi3⟩ := ComInv.less hi.symm (show x < y by omega)
            have HI2 := Lib.hid (show ComInv g0 x (od (y - x)) from hi2.symm)
            have HI3 := Lib.hid hi3
            have HSU := Lib.hid (subOk (c := c4) (d := c3) (show x < y by omega) ho4 ho3 hi.ly hi.lx hc4 hc3 hst.out.bel.size)
            have HBG := Lib.hid hb4
            have HDL := Lib.hid (show (lim (y - x)).length ≤ 200 ∧ y - x ≠ 0 from ⟨Nat.le_trans (lim_le_of_le (Nat.sub_le _ _)) hi.ly, by omega⟩)
            obtain ⟨d, hd⟩ : ∃ d, d = y - x := ⟨_, rfl⟩
            rw [← hd] at HSU HDL HI2 HI3
            clear hd hi hi2 hi3 hc3 ho3 hb3 hc4 ho4 hb4 hlt
            go_wp2_with fail
            refine HSU.out.mono ?_
            rintro e w10 ⟨x10, d10, rfl, hc10, ho10, hb10⟩
            have HS10 := Lib.hid ((HSO.out.below hb10).setY ho10 hc10)
            have HO10 := Lib.hid ((ho10.setBox (HBG.out.below hb10) 0 (.int .i64 (sgnOf 1 d))).setBox ((HBG.out.below hb10).set_ 0 _) 1 (.slice x10 (lim d).length d10))
            have HB10 := Lib.hid (boxSet (HBG.out.below hb10) (.int .i64 (sgnOf 1 d)) (.slice x10 (lim d).length d10))
            obtain ⟨g1, g2, g3, g4⟩ := (HBG.out.below hb10).two
            clear hc10 ho10 hb10 x1 x2 x3 x4 y1 y2 y3 y4 HBG HSU
            go_wp2_with fail
            obtain ⟨w11, hw11⟩ : ∃ w11, w11 = (w10.setCell ⟨gy, 0, none⟩ (.int .i64 (sgnOf 1 d))).setCell ⟨gy, 1, none⟩ (.slice x10 (lim d).length d10) := ⟨_, rfl⟩
            rw [← hw11] at HS10 HO10 HB10 ⊢
            clear g1 g2 g3 g4 hw11
            obtain ⟨t1, t2⟩ := cutOk (c := d10) HO10.out HDL.out.2 HDL.out.1 HS10.out.bel.size
            have HT1 := Lib.hid t1
            have HC1 := Lib.hid t2
            have HF := Lib.hid (show ∀ W, Below w11.heap.size w11 W → (W.cell? ⟨gy, 0, none⟩ = some (.int .i64 (sgnOf 1 d)) ∧ W.cell? ⟨gy, 1, none⟩ = some (.slice x10 (lim d).length d10) ∧ W.frozen? ⟨gy, 0, none⟩ = false ∧ W.frozen? ⟨gy, 1, none⟩ = false) from fun W hW => (HB10.out.below hW).two)
            have hV : Below w11.heap.size w11 w11 := Below.refl _ _
            have hVd : Below w11.heap.size w11 w11.drew := hV.drew
            obtain ⟨f1, f2, f3, f4⟩ := HF.out _ hV
            clear t1 t2 HO10 HB10
            go_region_with (first
              | (go_at_call 147; with_reducible refine (HT1.out _ (by first | exact hV | exact hVd)).mono ?_; rintro e w12 ⟨rfl, hb12⟩; clear f1 f2 f3 f4; obtain ⟨f1, f2, f3, f4⟩ := HF.out _ hb12)
              | (go_at_call 148; with_reducible refine (HC1.out _ hb12).mono ?_; rintro e w13 ⟨x13, d13, rfl, hc13, ho13, hb13⟩; clear f1 f2 f3 f4; obtain ⟨f1, f2, f3, f4⟩ := HF.out _ hb13))
            all_goals
              have HS13 := Lib.hid ((HS10.out.below hb13).setY ho13 hc13)
              clear hc13 ho13 hb12 hb13 hV hVd
              obtain ⟨a5, c5, hc5, ho5, hb5⟩ := HS13.out.xV
              obtain ⟨a6, c6, hc6, ho6, hb6⟩ := HS13.out.yV
              obtain ⟨x1, x2, x3, x4⟩ := hb5.two
              obtain ⟨y1, y2, y3, y4⟩ := hb6.two
              have HCP := Lib.hid (cmpOk (c := c5) (d := c6) ho5 ho6 HI2.out.lx HI2.out.ly)
              clear hc5 ho5 hb5 hc6 ho6 hb6 HF HT1 HC1
              go_wp2_with fail
              refine HCP.out.mono ?_
              rintro e w15 ⟨rfl, hb15⟩
              have HS15 := Lib.hid (HS13.out.below hb15)
              clear hb15 x1 x2 x3 x4 y1 y2 y3 y4 HCP
              go_wp2_with fail
              go_roundw
              case rel => exact ⟨_, _, rfl, HS15, HI2⟩
              case measure =>
                rw [varN_eq HS15.out.xV, varN_eq HS15.out.yV, varN_eq HSO.out.xV, varN_eq HSO.out.yV]
                have := HI3.out
                omega
          · rw [cmpZ_eq (show (x : Int) = (y : Int) by omega)]
            have hGx : G = x * 2 ^ T := by
              have h := hi.gcd
              rw [← hlt, Nat.gcd_self] at h
              rw [HG.out, h]
            have HLF := Lib.hid (leftOk (c := c3) ho3 hi.lx HT4.out hst.out.bel)
            rw [← hGx] at HLF
            clear hGx hi hinv hc3 ho3 hb3 hc4 ho4 hb4 hlt
            go_wp2_with fail
            refine HLF.out.mono ?_
            rintro e w10 ⟨x10, d10, rfl, hc10, ho10, hb10⟩
            have HEND := Lib.hid (fun u v => comEnd P3.out P4.out hb10 ho10 hc10 u v)
            obtain ⟨q1, q2, q3, q4⟩ := SR.out _ hb10
            clear hc10 ho10 hb10 x1 x2 x3 x4 y1 y2 y3 y4
            go_wp2_with fail
            refine bodyPost_ret (v := .agg #[.int .i64 (sgnOf 1 G), .slice x10 (lim G).length d10]) (by simp [results, Try.results122, go_sem, *]) rfl ?_
            exact HEND.out _ _
          · rw [cmpZ_gt (show (y : Int) < (x : Int) by omega)]
            skip
            obtain ⟨hi2, hi3⟩ := ComInv.less hi (show y < x by omega)
            have HI2 := Lib.hid (show ComInv g0 (od (x - y)) y from hi2)
            have HI3 := Lib.hid hi3
            have HSU := Lib.hid (subOk (c := c3) (d := c4) (show y < x by omega) ho3 ho4 hi.lx hi.ly hc3 hc4 hst.out.bel.size)
            have HBG := Lib.hid hb3
            have HDL := Lib.hid (show (lim (x - y)).length ≤ 200 ∧ x - y ≠ 0 from ⟨Nat.le_trans (lim_le_of_le (Nat.sub_le _ _)) hi.lx, by omega⟩)
            obtain ⟨d, hd⟩ : ∃ d, d = x - y := ⟨_, rfl⟩
            rw [← hd] at HSU HDL HI2 HI3
            clear hd hi hi2 hi3 hc3 ho3 hb3 hc4 ho4 hb4 hlt
            go_wp2_with fail
            refine HSU.out.mono ?_
            rintro e w10 ⟨x10, d10, rfl, hc10, ho10, hb10⟩
            have HS10 := Lib.hid ((HSO.out.below hb10).setX ho10 hc10)
            have HO10 := Lib.hid ((ho10.setBox (HBG.out.below hb10) 0 (.int .i64 (sgnOf 1 d))).setBox ((HBG.out.below hb10).set_ 0 _) 1 (.slice x10 (lim d).length d10))
            have HB10 := Lib.hid (boxSet (HBG.out.below hb10) (.int .i64 (sgnOf 1 d)) (.slice x10 (lim d).length d10))
            obtain ⟨g1, g2, g3, g4⟩ := (HBG.out.below hb10).two
            clear hc10 ho10 hb10 x1 x2 x3 x4 y1 y2 y3 y4 HBG HSU
            go_wp2_with fail
            obtain ⟨w11, hw11⟩ : ∃ w11, w11 = (w10.setCell ⟨gx, 0, none⟩ (.int .i64 (sgnOf 1 d))).setCell ⟨gx, 1, none⟩ (.slice x10 (lim d).length d10) := ⟨_, rfl⟩
            rw [← hw11] at HS10 HO10 HB10 ⊢
            clear g1 g2 g3 g4 hw11
            obtain ⟨t1, t2⟩ := cutOk (c := d10) HO10.out HDL.out.2 HDL.out.1 HS10.out.bel.size
            have HT1 := Lib.hid t1
            have HC1 := Lib.hid t2
            have HF := Lib.hid (show ∀ W, Below w11.heap.size w11 W → (W.cell? ⟨gx, 0, none⟩ = some (.int .i64 (sgnOf 1 d)) ∧ W.cell? ⟨gx, 1, none⟩ = some (.slice x10 (lim d).length d10) ∧ W.frozen? ⟨gx, 0, none⟩ = false ∧ W.frozen? ⟨gx, 1, none⟩ = false) from fun W hW => (HB10.out.below hW).two)
            have hV : Below w11.heap.size w11 w11 := Below.refl _ _
            have hVd : Below w11.heap.size w11 w11.drew := hV.drew
            obtain ⟨f1, f2, f3, f4⟩ := HF.out _ hV
            clear t1 t2 HO10 HB10
            go_region_with (first
              | (go_at_call 147; with_reducible refine (HT1.out _ (by first | exact hV | exact hVd)).mono ?_; rintro e w12 ⟨rfl, hb12⟩; clear f1 f2 f3 f4; obtain ⟨f1, f2, f3, f4⟩ := HF.out _ hb12)
              | (go_at_call 148; with_reducible refine (HC1.out _ hb12).mono ?_; rintro e w13 ⟨x13, d13, rfl, hc13, ho13, hb13⟩; clear f1 f2 f3 f4; obtain ⟨f1, f2, f3, f4⟩ := HF.out _ hb13))
            all_goals
              have HS13 := Lib.hid ((HS10.out.below hb13).setX ho13 hc13)
              clear hc13 ho13 hb12 hb13 hV hVd
              obtain ⟨a5, c5, hc5, ho5, hb5⟩ := HS13.out.xV
              obtain ⟨a6, c6, hc6, ho6, hb6⟩ := HS13.out.yV
              obtain ⟨x1, x2, x3, x4⟩ := hb5.two
              obtain ⟨y1, y2, y3, y4⟩ := hb6.two
              have HCP := Lib.hid (cmpOk (c := c5) (d := c6) ho5 ho6 HI2.out.lx HI2.out.ly)
              clear hc5 ho5 hb5 hc6 ho6 hb6 HF HT1 HC1
              go_wp2_with fail
              refine HCP.out.mono ?_
              rintro e w15 ⟨rfl, hb15⟩
              have HS15 := Lib.hid (HS13.out.below hb15)
              clear hb15 x1 x2 x3 x4 y1 y2 y3 y4 HCP
              go_wp2_with fail
              go_roundw
              case rel => exact ⟨_, _, rfl, HS15, HI2⟩
              case measure =>
                rw [varN_eq HS15.out.xV, varN_eq HS15.out.yV, varN_eq HSO.out.xV, varN_eq HSO.out.yV]
                have := HI3.out
                omega

set_option maxHeartbeats 2000000 in
theorem sCommonOfWholes (s t : Int) (a b : Option Addr) (xs ys : List Int) (c1 c2 : Nat) (w : World) (B C : Nat) (hB : B ≤ w.heap.size) (hC : C ≤ w.heap.size) (hx : Ints w B a xs) (hy : Ints w C b ys) (hl : xs.length ≤ 9223372036854775807) (hl' : ys.length ≤ 9223372036854775807) (hc1 : xs.length ≤ c1) (hc2 : ys.length ≤ c2) :
    Calls Try.prog 56 #[.agg #[.int .i64 s, .slice a xs.length c1], .agg #[.int .i64 t, .slice b ys.length c2]] w (RetWC (binR gcdZ s xs t ys) w.heap.size w) := by

  obtain ⟨W0, hW0⟩ : ∃ W0 : World, ((w.alloc (.cells #[.int .i64 s, .slice a xs.length c1] 58)).alloc (.cells #[.int .i64 t, .slice b ys.length c2] 58)).alloc (.cells #[.int .i64 0, .slice none 0 0] 58) = W0 := ⟨_, rfl⟩
  obtain ⟨p1, p2, p5, p3, p4⟩ := three_box w 58 #[.int .i64 s, .slice a xs.length c1] #[.int .i64 t, .slice b ys.length c2] #[.int .i64 0, .slice none 0 0]
  rw [hW0] at p1 p2 p3 p4 p5
  have HW0 := Lib.hid hW0
  have P3 := Lib.hid p3
  have P4 := Lib.hid p4
  have SS := Lib.hid (show ∀ W, Below W0.heap.size W0 W → (W.cell? ⟨w.heap.size, 0, none⟩ = some (.int .i64 s) ∧ W.cell? ⟨w.heap.size, 1, none⟩ = some (.slice a xs.length c1) ∧ W.cell? ⟨w.heap.size + 1, 0, none⟩ = some (.int .i64 t) ∧ W.cell? ⟨w.heap.size + 1, 1, none⟩ = some (.slice b ys.length c2)) from
    fun W hW => ⟨(p1.below hW).cell 0, (p1.below hW).cell 1, (p2.below hW).cell 0, (p2.below hW).cell 1⟩)
  have SR := Lib.hid (show ∀ W, Below W0.heap.size W0 W → (W.cell? ⟨w.heap.size + 1 + 1, 0, none⟩ = some (.int .i64 0) ∧ W.cell? ⟨w.heap.size + 1 + 1, 1, none⟩ = some (.slice none 0 0) ∧ W.frozen? ⟨w.heap.size + 1 + 1, 0, none⟩ = false ∧ W.frozen? ⟨w.heap.size + 1 + 1, 1, none⟩ = false) from
    fun W hW => (p5.below hW).two)
  have ST := Lib.hid (show ∀ W u v, Below W0.heap.size W0 W → (fun W : World => W.cell? ⟨w.heap.size, 0, none⟩ = some (.int .i64 s) ∧ W.cell? ⟨w.heap.size, 1, none⟩ = some (.slice a xs.length c1) ∧ W.cell? ⟨w.heap.size + 1, 0, none⟩ = some (.int .i64 t) ∧ W.cell? ⟨w.heap.size + 1, 1, none⟩ = some (.slice b ys.length c2)) ((W.setCell ⟨w.heap.size + 1 + 1, 0, none⟩ u).setCell ⟨w.heap.size + 1 + 1, 1, none⟩ v) from fun W u v hW =>
    ⟨(((p1.below hW).far (by simp <;> omega) _).far (by simp <;> omega) _).cell 0, (((p1.below hW).far (by simp <;> omega) _).far (by simp <;> omega) _).cell 1, (((p2.below hW).far (by simp <;> omega) _).far (by simp <;> omega) _).cell 0, (((p2.below hW).far (by simp <;> omega) _).far (by simp <;> omega) _).cell 1⟩)
  have hT : Below W0.heap.size W0 W0 := Below.refl _ _
  have hT' : Below W0.heap.size W0 W0.drew := hT.drew
  have IX := Lib.hid (show ∀ W, Below W0.heap.size W0 W → Ints W B a xs ∧ Ints W C b ys ∧ B ≤ W.heap.size ∧ C ≤ W.heap.size from fun W hW => ⟨hx.below ((p3.mono hB).trans (hW.mono (by omega))), hy.below ((p3.mono hC).trans (hW.mono (by omega))), by have := hW.size; omega, by have := hW.size; omega⟩)
  have HBO := Lib.hid (show ∀ W, Below W0.heap.size W0 W → Calls Try.prog 121 #[.agg #[.int .i64 s, .slice a xs.length c1], .agg #[.int .i64 t, .slice b ys.length c2]] W fun e w' => e = .returned (.int .i64 (bothR s xs t ys)) ∧ Below W0.heap.size W0 w' from
    fun W hW => (sBoth s t a b xs ys c1 c2 W B C (IX.out W hW).2.2.1 (IX.out W hW).2.2.2 (IX.out W hW).1 (IX.out W hW).2.1 hl hl').mono fun e w' ⟨he, hb⟩ => ⟨he, hW.trans (hb.mono hW.size)⟩)
  by_cases hw : IsWh s xs ∧ IsWh t ys
  · obtain ⟨e1, e2⟩ := hw
    rw [bothR_yes e1 e2] at HBO
    rw [binR_yes e1 e2]
    obtain ⟨m, rfl, hm, sm⟩ := isWh_of e1
    obtain ⟨n, rfl, hn, sn⟩ := isWh_of e2
    rw [wv_lim, wv_lim]
    have hgl : (lim (Nat.gcd m n)).length ≤ 200 := gcd_len hm hn
    rw [gcdZ_lim sm sn, fitZ_lim hgl]
    obtain ⟨g, hg⟩ : ∃ g, g = Nat.gcd m n := ⟨_, rfl⟩
    have HP := Lib.hid (show ∀ W, Below W0.heap.size W0 W → Calls Try.prog 122 #[.agg #[.int .i64 s, .slice a (lim m).length c1], .agg #[.int .i64 t, .slice b (lim n).length c2]] W fun e w' => ∃ a c, e = .returned (.agg #[.int .i64 (sgnOf 1 g), .slice a (lim g).length c]) ∧ (lim g).length ≤ c ∧ Own w' W0.heap.size a (lim g) ∧ Below W0.heap.size W0 w' from
      fun W hW => by
        have := sCommon s t a b m n c1 c2 W B C (IX.out W hW).2.2.1 (IX.out W hW).2.2.2 (IX.out W hW).1 (IX.out W hW).2.1 sm sn hm hn hc1 hc2
        rw [← hg] at this
        exact this.mono fun e w' ⟨a, c, he, hc, ho, hb⟩ => ⟨a, c, he, hc, ho.mono hW.size, hW.trans (hb.mono hW.size)⟩)
    rw [← hg]
    clear hg hgl
    clear p1 p2 p3 p4 p5 hx hy hW0 hB hC hl hl' IX sm sn hm hn e1 e2 hc1 hc2
    go_enter Try.func56, Try.ntmps56
    go_wp2_with fail
    rw [HW0.out]
    refine (HBO.out _ hT).mono ?_
    rintro e w1 ⟨rfl, hb⟩
    obtain ⟨k1, k2, k3, k4⟩ := SS.out _ hb
    go_wp2_with fail
    refine (HP.out _ hb).mono ?_
    rintro e w4 ⟨a4, c4, rfl, hc4, ho4, hb4⟩
    have HC4 := Lib.hid hc4
    have HO4 := Lib.hid ho4
    clear hc4 ho4
    obtain ⟨q1, q2, q3, q4⟩ := SR.out _ hb4
    go_wp2_with fail
    refine bodyPost_ret (v := .tuple #[.agg #[.int .i64 (sgnOf 1 g), .slice a4 (lim g).length c4], .int .i64 0]) (by simp [results, Try.results56, go_sem, *]) rfl ?_
    exact retWC_end (r := (sgnOf 1 g, lim g, 0)) P3.out P4.out hb4 _ _ HO4.out HC4.out
  · rw [binR_no hw]
    rw [bothR_no hw] at HBO
    clear p1 p2 p3 p4 p5 hx hy hW0 hB hC hl hl' IX hw hc1 hc2
    go_enter Try.func56, Try.ntmps56
    go_wp2_with fail
    rw [HW0.out]
    refine (HBO.out _ hT).mono ?_
    rintro e w1 ⟨rfl, hb⟩
    obtain ⟨k1, k2, k3, k4⟩ := SS.out _ hb
    obtain ⟨q1, q2, q3, q4⟩ := SR.out _ hb
    go_wp2_with fail
    refine bodyPost_ret (v := .tuple #[.agg #[.int .i64 0, .slice none 0 0], .int .i64 1]) (by simp [results, Try.results56, go_sem, *]) rfl ?_
    exact retWC_zero 1 P3.out P4.out hb _ _
end Go.Proofs.Ytnnbfoemmgddeaa
