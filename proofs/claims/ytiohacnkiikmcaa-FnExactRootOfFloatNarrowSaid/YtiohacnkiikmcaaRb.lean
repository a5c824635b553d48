/-
  Contract: root, Newton's steps. Conditions: the limbs can be read. Contract: RootOfWhole of the program. Conditions: the limbs can be read. What loops over boxed variables share: worlds with a new variable, signs, shifts to the left by the model. Conditions: the limbs can be read. Contract of the model: roots bit by bit. Conditions: the limbs can be read.
-/
import Derived.Test.YtiohacnkiikmcaaRa
import Derived.Test.YtiohacnkiikmcaaVe
import Derived.Test.YtiohacnkiikmcaaVl
import Derived.Test.YtiohacnkiikmcaaLx
import Derived.Test.YtiohacnkiikmcaaTg
import Derived.Test.YtiohacnkiikmcaaUf
namespace Go.Proofs.Ytiohacnkiikmcaa
set_option linter.unusedVariables false
open Go Go.RowKit

theorem lim1 : lim 1 = [1] := by
  rw [lim, dig_pos (by decide)]
  have : dig (1 / 16777216) = [] := by rw [show 1 / 16777216 = 0 by decide, dig_zero]
  rw [this]
  rfl
theorem ints1 (w : World) (z : Int) (t : TypeId) : Ints (w.alloc (.cells #[.int .i64 z] t)) (w.alloc (.cells #[.int .i64 z] t)).heap.size (some ⟨w.heap.size, 0, none⟩) [z] := fun i hi => by
  have h0 : i = 0 := by simpa using hi
  subst h0
  refine ⟨w.heap.size, 0, rfl, by simp, ?_⟩
  simp
theorem pow_len {K L : Nat} (h : K < 24 * L) : (lim (2 ^ K)).length ≤ L := by
  rw [lim_length]
  refine dig_length_le ?_
  rw [two24]
  exact Nat.pow_lt_pow_right (by omega) h
/-- How many bits, as a natural number. -/
theorem blen_nat {n : Nat} (h : n ≠ 0) (hl : (lim n).length ≤ 200) : ∃ b : Nat, blen n = (b : Int) ∧ b ≤ 4800 ∧ n < 2 ^ b := by
  rw [lim_length] at hl
  have hp := dig_length_pos h
  have hb := bitLen_le24 (show (dig n).getD ((dig n).length - 1) 0 < 16777216 from getD_lt (small_dig n) _)
  have e := blen_pos h
  obtain ⟨b, hb'⟩ := Int.eq_ofNat_of_zero_le (show 0 ≤ blen n by omega)
  exact ⟨b, hb', by omega, blen_le.1 (by omega)⟩
theorem root_start {n b K : Nat} (h : n < 2 ^ b) (hK : K = (b + 1) / 2) : n < (2 ^ K + 1) * (2 ^ K + 1) := by
  have h1 : 2 ^ b ≤ 2 ^ (K + K) := Nat.pow_le_pow_right (by omega) (by omega)
  rw [Nat.pow_add] at h1
  have h2 : 2 ^ K * 2 ^ K ≤ (2 ^ K + 1) * (2 ^ K + 1) := Nat.mul_le_mul (by omega) (by omega)
  omega

/-- The root of a number, rounded down. -/
def rootN : Nat → Nat
  | 0 => 0
  | n + 1 => if (rootN n + 1) * (rootN n + 1) ≤ n + 1 then rootN n + 1 else rootN n
theorem rootN_spec (n : Nat) : rootN n * rootN n ≤ n ∧ n < (rootN n + 1) * (rootN n + 1) := by
  induction n with
  | zero => exact ⟨Nat.le_refl _, by decide⟩
  | succ n ih =>
    obtain ⟨h1, h2⟩ := ih
    unfold rootN
    generalize rootN n = r at *
    split
    · rename_i h
      have e : (r + 1 + 1) * (r + 1 + 1) = (r + 1) * (r + 1) + (r + 1) + (r + 1) + 1 := by grind
      exact ⟨h, by omega⟩
    · exact ⟨by omega, by omega⟩
theorem rootN_le (n : Nat) : rootN n ≤ n := by
  have h := (rootN_spec n).1
  rcases Nat.eq_zero_or_pos (rootN n) with h0 | h0
  · omega
  · exact Nat.le_trans (Nat.le_mul_of_pos_right _ h0) h
/-- What RootOfWhole answers. -/
noncomputable def rootR (s : Int) (xs : List Int) : Int × List Int × Int := @ite _ (IsWh s xs) (Classical.propDecidable _) (if s < 0 then (0, [], 5) else (sgnOf 1 (rootN (val (xs.map Int.toNat))), lim (rootN (val (xs.map Int.toNat))), 0)) (0, [], 1)
theorem rootR_yes {s : Int} {xs : List Int} (h : IsWh s xs) (h1 : ¬ s < 0) : rootR s xs = (sgnOf 1 (rootN (val (xs.map Int.toNat))), lim (rootN (val (xs.map Int.toNat))), 0) := by unfold rootR; rw [if_pos h, if_neg h1]
theorem rootR_neg {s : Int} {xs : List Int} (h : IsWh s xs) (h1 : s < 0) : rootR s xs = (0, [], 5) := by unfold rootR; rw [if_pos h, if_pos h1]
theorem rootR_no {s : Int} {xs : List Int} (h : ¬ IsWh s xs) : rootR s xs = (0, [], 1) := by unfold rootR; rw [if_neg h]
theorem rootR_len (s : Int) (xs : List Int) : (rootR s xs).2.1.length ≤ 200 := by
  by_cases h : IsWh s xs
  · by_cases h1 : s < 0
    · rw [rootR_neg h h1]; simp
    · rw [rootR_yes h h1]
      obtain ⟨m, rfl, hm, sm⟩ := isWh_of h
      rw [val_lim]
      exact Nat.le_trans (lim_le_of_le (rootN_le m)) hm
  · rw [rootR_no h]; simp
theorem retWC_zeroC {w W0 W : World} (code : Int) (P3 : Below w.heap.size w W0) (P4 : W0.heap.size = w.heap.size + 2) (hb : Below W0.heap.size W0 W) (u v : Value) :
    RetWC (0, [], code) w.heap.size w (.returned (.tuple #[.agg #[.int .i64 0, .slice none 0 0], .int .i64 code])) ((W.setCell ⟨w.heap.size + 1, 0, none⟩ u).setCell ⟨w.heap.size + 1, 1, none⟩ v) :=
  ⟨none, 0, rfl, Nat.le_refl _, Own.nil, ((P3.trans (hb.mono (by omega))).setCell (by simp <;> omega) _).setCell (by simp <;> omega) _⟩
theorem retWC_endC {w W0 W : World} {r : Int × List Int × Int} {a : Option Addr} {c : Nat} (P3 : Below w.heap.size w W0) (P4 : W0.heap.size = w.heap.size + 2) (hb : Below W0.heap.size W0 W) (u v : Value) (ho : Own W W0.heap.size a r.2.1) (hc : r.2.1.length ≤ c) :
    RetWC r w.heap.size w (.returned (.tuple #[.agg #[.int .i64 r.1, .slice a r.2.1.length c], .int .i64 r.2.2])) ((W.setCell ⟨w.heap.size + 1, 0, none⟩ u).setCell ⟨w.heap.size + 1, 1, none⟩ v) :=
  ⟨a, c, rfl, hc, ((ho.setFar (by simp; omega) _).setFar (by simp; omega) _).mono (by omega), ((P3.trans (hb.mono (by omega))).setCell (by simp <;> omega) _).setCell (by simp <;> omega) _⟩

theorem bal {w W : World} {o : Obj} (h : Below w.heap.size w W) : Below w.heap.size w (W.alloc o) := h.alloc h.size o
theorem sgn_mul {x y : Nat} (hy : y ≠ 0) : sgnOf (sgnOf 1 x) (x * y) = sgnOf 1 (x * y) := by
  by_cases h : x = 0
  · subst h; simp [sgnOf]
  · rw [sgnOf_pos h]
theorem sLeftN (n : Nat) (a : Option Addr) (c1 K0 : Nat) (w : World) (hx : Ints w w.heap.size a (lim n)) (hl : (lim n).length ≤ 1048576) (hk : K0 ≤ 100000000) :
    Calls Try.prog 108 #[.agg #[.int .i64 (sgnOf 1 n), .slice a (lim n).length c1], .int .i64 (K0 : Int)] w (RetN (sgnOf 1 (n * 2 ^ K0)) (n * 2 ^ K0) w) := by
  have h := sLeft (sgnOf 1 n) a n c1 K0 w _ (Nat.le_refl _) hx hl hk
  rwa [sgn_mul (by have := Nat.pow_pos (n := K0) (show 0 < 2 by omega); omega)] at h
theorem sgn_self (m : Nat) : Sg (sgnOf 1 m) m ∧ sgnOf 1 m * (m : Int) = (m : Int) := by
  by_cases h : m = 0
  · subst h; exact ⟨.inl ⟨rfl, sgnOf_zero _⟩, by simp⟩
  · rw [sgnOf_pos h]; exact ⟨.inr ⟨h, .inl rfl⟩, by simp⟩

theorem blen_nat' {n : Nat} (hl : (lim n).length ≤ 200) : ∃ b : Nat, blen n = (b : Int) ∧ b ≤ 4800 ∧ n < 2 ^ b := by
  by_cases h : n = 0
  · subst h; exact ⟨0, by simp [blen], by omega, by simp⟩
  · exact blen_nat h hl
/-- A variable of the root's loop: the number it holds, whose limbs lie from block lo on. -/
structure VarAt (w : World) (lo g n : Nat) (a : Option Addr) (c : Nat) : Prop where
  fit : (lim n).length ≤ c
  own : Own w lo a (lim n)
  box : BoxAt w g 103 #[.int .i64 (sgnOf 1 n), .slice a (lim n).length c]
theorem VarAt.zero {w : World} {lo g : Nat} (h : BoxAt w g 103 #[.int .i64 0, .slice none 0 0]) : VarAt w lo g 0 none 0 := by
  have e : (lim 0).length = 0 := by rw [lim_zero]; rfl
  refine ⟨by rw [e]; exact Nat.le_refl _, by rw [lim_zero]; exact Own.nil, ?_⟩
  rw [e, sgnOf_zero]
  exact h
/-- The root's loop in memory. -/
structure RootSt (w2 wr : World) (g out : Nat) (b : Option Addr) (d : Nat) : Prop where
  bel : Below g w2 wr
  size : g + 3 ≤ wr.heap.size
  outV : ∃ a c, VarAt wr (g + 3) g out a c
  sqV : ∃ a c, VarAt wr (g + 3) (g + 1) (out * out) a c
  one : BoxAt wr (g + 2) 103 #[.int .i64 1, .slice b 1 d]

theorem VarAt.below {w w' : World} {lo g n : Nat} {a : Option Addr} {c : Nat} (h : VarAt w lo g n a c) (hb : Below w.heap.size w w') : VarAt w' lo g n a c := ⟨h.fit, h.own.below hb, h.box.below hb⟩
theorem RootSt.keep {w2 wr W : World} {out : Nat} {b : Option Addr} {d : Nat} (h : RootSt w2 wr w2.heap.size out b d) (hb : Below wr.heap.size wr W) : RootSt w2 W w2.heap.size out b d := by
  obtain ⟨a3, c3, h3⟩ := h.outV
  obtain ⟨a4, c4, h4⟩ := h.sqV
  have hs := h.size
  exact ⟨h.bel.trans (hb.mono (by omega)), by have := hb.size; omega, ⟨a3, c3, h3.below hb⟩, ⟨a4, c4, h4.below hb⟩, h.one.below hb⟩
theorem RootSt.next {w2 wr W : World} {out out' N : Nat} {b x y : Option Addr} {d c e : Nat} (h : RootSt w2 wr w2.heap.size out b d) (hb : Below wr.heap.size wr W) (hx : (lim out').length ≤ c) (ox : Own W wr.heap.size x (lim out')) (hy : (lim N).length ≤ e) (oy : Own W wr.heap.size y (lim N)) (hN : N = out' * out') :
    RootSt w2 ((((W.setCell ⟨w2.heap.size, 0, none⟩ (.int .i64 (sgnOf 1 out'))).setCell ⟨w2.heap.size, 1, none⟩ (.slice x (lim out').length c)).setCell ⟨w2.heap.size + 1, 0, none⟩ (.int .i64 (sgnOf 1 N))).setCell ⟨w2.heap.size + 1, 1, none⟩ (.slice y (lim N).length e)) w2.heap.size out' b d := by
  obtain ⟨a3, c3, h3⟩ := h.outV
  obtain ⟨a4, c4, h4⟩ := h.sqV
  have hs := h.size
  have hsW := hb.size
  have hB := h.bel.trans (hb.mono (show w2.heap.size ≤ wr.heap.size by omega))
  refine ⟨(((hB.setCell (by simp <;> omega) _).setCell (by simp <;> omega) _).setCell (by simp <;> omega) _).setCell (by simp <;> omega) _, by simp [World.setCell]; omega, ⟨x, c, hx, ?_, ?_⟩, ⟨y, e, by rw [← hN]; exact hy, ?_, ?_⟩, ?_⟩
  · exact ((((ox.setFar (by simp; omega) _).setFar (by simp; omega) _).setFar (by simp; omega) _).setFar (by simp; omega) _).mono (by omega)
  · have := (((h3.box.below hb).set_ 0 (.int .i64 (sgnOf 1 out'))).set_ 1 (.slice x (lim out').length c)).far (p := ⟨w2.heap.size + 1, 0, none⟩) (by simp <;> omega) (.int .i64 (sgnOf 1 N)) |>.far (p := ⟨w2.heap.size + 1, 1, none⟩) (by simp <;> omega) (.slice y (lim N).length e)
    simpa using this
  · rw [← hN]
    exact ((((oy.setFar (by simp; omega) _).setFar (by simp; omega) _).setFar (by simp; omega) _).setFar (by simp; omega) _).mono (by omega)
  · rw [← hN]
    have := ((((h4.box.below hb).far (p := ⟨w2.heap.size, 0, none⟩) (by simp <;> omega) (.int .i64 (sgnOf 1 out'))).far (p := ⟨w2.heap.size, 1, none⟩) (by simp <;> omega) (.slice x (lim out').length c)).set_ 0 (.int .i64 (sgnOf 1 N))).set_ 1 (.slice y (lim N).length e)
    simpa using this
  · exact ((((h.one.below hb).far (by simp <;> omega) _).far (by simp <;> omega) _).far (by simp <;> omega) _).far (by simp <;> omega) _
theorem RootSt.start {w2 w4 : World} {b : Option Addr} {d : Nat}
    (hb : Below (((w2.alloc (.cells #[.int .i64 0, .slice none 0 0] 103)).alloc (.cells #[.int .i64 0, .slice none 0 0] 103)).alloc (.cells #[.int .i64 1, .slice b 1 d] 103)).heap.size (((w2.alloc (.cells #[.int .i64 0, .slice none 0 0] 103)).alloc (.cells #[.int .i64 0, .slice none 0 0] 103)).alloc (.cells #[.int .i64 1, .slice b 1 d] 103)) w4) :
    RootSt w2 w4 w2.heap.size 0 b d := by
  have hsz := hb.size
  simp at hsz
  refine ⟨(((Below.refl _ _).alloc (Nat.le_refl _) _).alloc (by simp) _ |>.alloc (by simp; omega) _).trans (hb.mono (by simp; omega)), by omega, ⟨none, 0, VarAt.zero ?_⟩, ⟨none, 0, VarAt.zero ?_⟩, ?_⟩
  · exact (((BoxAt.new w2 _ _).alloc _).alloc _).below hb
  · have := ((BoxAt.new (w2.alloc (.cells #[.int .i64 0, .slice none 0 0] 103)) 103 #[.int .i64 0, .slice none 0 0]).alloc (.cells #[.int .i64 1, .slice b 1 d] 103)).below hb
    simpa using this
  · have := (BoxAt.new ((w2.alloc (.cells #[.int .i64 0, .slice none 0 0] 103)).alloc (.cells #[.int .i64 0, .slice none 0 0] 103)) 103 #[.int .i64 1, .slice b 1 d]).below hb
    simpa using this
/-- The next square in its variable. -/
def NextAt (wr W : World) (p : Value) (N : Nat) : Prop := ∃ h x c, p = .pointer (some ⟨h, 0, none⟩) ∧ wr.heap.size ≤ h ∧ (lim N).length ≤ c ∧ Own W wr.heap.size x (lim N) ∧ BoxAt W h 103 #[.int .i64 (sgnOf 1 N), .slice x (lim N).length c] ∧ Below wr.heap.size wr W
theorem NextAt.mk1 {wr W : World} {N lo c : Nat} {x : Option Addr} (hc : (lim N).length ≤ c) (ho : Own W lo x (lim N)) (hlo : wr.heap.size ≤ lo) (hb : Below wr.heap.size wr W) :
    NextAt wr (W.alloc (.cells #[.int .i64 (sgnOf 1 N), .slice x (lim N).length c] 103)) (.pointer (some ⟨W.heap.size, 0, none⟩)) N :=
  ⟨_, x, c, rfl, hb.size, hc, (ho.alloc _).mono hlo, BoxAt.new W 103 #[.int .i64 (sgnOf 1 N), .slice x (lim N).length c], hb.alloc hb.size _⟩
theorem NextAt.mk2 {wr W : World} {N lo c h : Nat} {x : Option Addr} {v0 v1 : Value} (hq : BoxAt W h 103 #[v0, v1]) (hh : wr.heap.size ≤ h) (hl : h < lo) (hc : (lim N).length ≤ c) (ho : Own W lo x (lim N)) (hb : Below wr.heap.size wr W) :
    NextAt wr ((W.setCell ⟨h, 0, none⟩ (.int .i64 (sgnOf 1 N))).setCell ⟨h, 1, none⟩ (.slice x (lim N).length c)) (.pointer (some ⟨h, 0, none⟩)) N := by
  refine ⟨_, x, c, rfl, hh, hc, ((ho.setFar (by simpa using hl) _).setFar (by simpa using hl) _).mono (by omega), ?_, (hb.setCell (by simp <;> omega) _).setCell (by simp <;> omega) _⟩
  have := (hq.set_ 0 (.int .i64 (sgnOf 1 N))).set_ 1 (.slice x (lim N).length c)
  simpa using this
theorem sAddN (m n : Nat) (a b : Option Addr) (c1 c2 : Nat) (w : World) (hx : Ints w w.heap.size a (lim m)) (hy : Ints w w.heap.size b (lim n)) (hl : (lim m).length ≤ 1048576) (hl' : (lim n).length ≤ 1048576) (hc1 : (lim m).length ≤ c1) (hc2 : (lim n).length ≤ c2) :
    Calls Try.prog 112 #[.agg #[.int .i64 (sgnOf 1 m), .slice a (lim m).length c1], .agg #[.int .i64 (sgnOf 1 n), .slice b (lim n).length c2]] w (RetN (sgnOf 1 (m + n)) (m + n) w) := by
  have h := sAdd (sgnOf 1 m) (sgnOf 1 n) a b m n c1 c2 w _ _ (Nat.le_refl _) (Nat.le_refl _) hx hy (sgn_self m).1 (sgn_self n).1 hl hl' hc1 hc2
  rw [(sgn_self m).2, (sgn_self n).2] at h
  have e1 : ((m : Int) + (n : Int)).natAbs = m + n := by omega
  have e2 : ((m : Int) + (n : Int)).sign = sgnOf 1 (m + n) := by
    by_cases h0 : m + n = 0
    · rw [h0, sgnOf_zero, show (m : Int) + (n : Int) = 0 by omega]; rfl
    · rw [sgnOf_pos h0]; exact Int.sign_eq_one_of_pos (by omega)
  unfold RetZ at h
  rw [e1, e2] at h
  exact h

set_option maxRecDepth 100000 in
set_option maxHeartbeats 4000000 in
theorem sRoot (s : Int) (a : Option Addr) (m c1 r : Nat) (w : World) (B : Nat) (hB : B ≤ w.heap.size) (hx : Ints w B a (lim m)) (hs : Sg s m) (hs0 : 0 ≤ s) (hl : (lim m).length ≤ 200) (h1 : r * r ≤ m) (h2 : m < (r + 1) * (r + 1)) :
    Calls Try.prog 109 #[.agg #[.int .i64 s, .slice a (lim m).length c1]] w (RetN (sgnOf 1 r) r w) := by
  obtain ⟨W0, hW0⟩ : ∃ W0 : World, (w.alloc (.cells #[.int .i64 s, .slice a (lim m).length c1] 103)).alloc (.cells #[.int .i64 0, .slice none 0 0] 103) = W0 := ⟨_, rfl⟩
  obtain ⟨p1, p5, p3, p4⟩ := two_box w 103 #[.int .i64 s, .slice a (lim m).length c1] #[.int .i64 0, .slice none 0 0]
  rw [hW0] at p1 p3 p4 p5
  have HW0 := Lib.hid hW0
  have P3 := Lib.hid p3
  have P4 := Lib.hid p4
  have SS := Lib.hid (show ∀ W, Below W0.heap.size W0 W → (W.cell? ⟨w.heap.size, 0, none⟩ = some (.int .i64 s) ∧ W.cell? ⟨w.heap.size, 1, none⟩ = some (.slice a (lim m).length c1)) from
    fun W hW => ⟨(p1.below hW).cell 0, (p1.below hW).cell 1⟩)
  have SR := Lib.hid (show ∀ W, Below W0.heap.size W0 W → (W.cell? ⟨w.heap.size + 1, 0, none⟩ = some (.int .i64 0) ∧ W.cell? ⟨w.heap.size + 1, 1, none⟩ = some (.slice none 0 0) ∧ W.frozen? ⟨w.heap.size + 1, 0, none⟩ = false ∧ W.frozen? ⟨w.heap.size + 1, 1, none⟩ = false) from
    fun W hW => (p5.below hW).two)
  have hT : Below W0.heap.size W0 W0 := Below.refl _ _
  have IX := Lib.hid (show ∀ W, Below W0.heap.size W0 W → Ints W B a (lim m) ∧ B ≤ W.heap.size from fun W hW => ⟨hx.below ((p3.mono hB).trans (hW.mono (by omega))), by have := hW.size; omega⟩)
  obtain ⟨bl, hb, hb2, hb3⟩ := blen_nat' hl
  obtain ⟨K, hK⟩ : ∃ K, K = (bl + 1) / 2 := ⟨_, rfl⟩
  have hqK : Int.tdiv ((bl : Int) + 1) 2 = (K : Int) := by rw [Int.tdiv_eq_ediv_of_nonneg (by omega)]; omega
  have HLEN := Lib.hid (show ∀ W, Below W0.heap.size W0 W → Calls Try.prog 107 #[.agg #[.int .i64 s, .slice a (lim m).length c1]] W (RetB (.int .i64 (bl : Int)) W) from
    fun W hW => by rw [← hb]; exact sLength s a m c1 W B (IX.out W hW).2 (IX.out W hW).1 (by omega))
  have HOF := Lib.hid (show Calls Try.prog 113 #[.int .i64 1] W0 fun e w' => ∃ b d, e = .returned (.agg #[.int .i64 1, .slice b 1 d]) ∧ 1 ≤ d ∧ Own w' W0.heap.size b [1] ∧ Below W0.heap.size W0 w' from by
    have h := sOfP 1 (by omega) W0
    have e1 : sgnOf 1 1 = 1 := sgnOf_pos (by decide)
    exact h.mono fun e w' ⟨b, d, he, hd, ho, hb⟩ => by
      rw [e1, lim1] at he
      rw [lim1] at hd ho
      exact ⟨b, d, he, hd, ho, hb⟩)
  have HST := Lib.hid (show RootInv m 0 (K + 1) from ⟨by omega, by
    have h : 2 ^ bl ≤ 2 ^ ((K + 1) + (K + 1)) := Nat.pow_le_pow_right (by omega) (by omega)
    rw [Nat.pow_add] at h
    simpa using Nat.lt_of_lt_of_le hb3 h⟩)
  have HR := Lib.hid (show r * r ≤ m ∧ m < (r + 1) * (r + 1) ∧ (lim m).length ≤ 200 from ⟨h1, h2, hl⟩)
  have HSG := Lib.hid (show Sg s m ∧ s * (m : Int) = (m : Int) from ⟨hs, by unfold Sg at hs; rcases hs with ⟨rfl, rfl⟩ | ⟨_, rfl | rfl⟩ <;> simp at hs0 ⊢⟩)
  have hbI : (bl : Int) ≤ 4800 := by omega
  have hbI0 : (0 : Int) ≤ (bl : Int) := by omega
  have hKI : (K : Int) ≤ 4800 := by omega
  have hKI0 : (0 : Int) ≤ (K : Int) := by omega
  have HKK := Lib.hid (show K ≤ 2400 by omega)
  clear p1 p3 p4 p5 hx hl hW0 hB hs hs0 h1 h2 hb hb2 hb3 hK
  go_enter Try.func109, Try.ntmps109
  go_wp2_with fail
  rw [HW0.out]
  refine HOF.out.mono ?_
  rintro e w2 ⟨b, d, rfl, hd, ho, hb⟩
  have HD := Lib.hid hd
  have HO := Lib.hid ho
  have HB := Lib.hid hb
  have P4' := P4.out
  have hs2 := hb.size
  obtain ⟨k1, k2⟩ := SS.out _ hb
  have hlt : w.heap.size < w2.heap.size := by omega
  have hlt2 : w.heap.size + 1 < w2.heap.size := by omega
  have HB3 := Lib.hid (show Below W0.heap.size W0 (((w2.alloc (.cells #[.int .i64 0, .slice none 0 0] 103)).alloc (.cells #[.int .i64 0, .slice none 0 0] 103)).alloc (.cells #[.int .i64 1, .slice b 1 d] 103)) from ((hb.alloc hs2 _).alloc (by simp; omega) _).alloc (by simp; omega) _)
  clear hd ho hb k1 k2
  obtain ⟨k1, k2⟩ := SS.out _ HB3.out
  go_wp2_with fail
  refine (HLEN.out _ HB3.out).mono ?_
  rintro e w4 ⟨rfl, hb4⟩
  have HS4 := Lib.hid (RootSt.start hb4)
  clear hb4
  go_wp2_with fail
  go_loopw [6] (fun q wr => ∃ (k out : Nat), q = .int .i64 ((k : Int) - 1) ∧ k ≤ 2401 ∧ Hid (RootInv m out k) ∧ Hid (RootSt w2 wr w2.heap.size out b d)) (fun q _ => (intOf q + 1).toNat)
  case atStart => exact ⟨K + 1, 0, by congr 1; omega, by have := HKK.out; omega, HST, HS4⟩
  case round =>
    obtain ⟨k, out, rfl, hk, hinv, hst⟩ := hrel
    have HBW := Lib.hid (show Below W0.heap.size W0 wr from HB.out.trans (hst.out.bel.mono hs2))
    obtain ⟨a3, c3, hv3⟩ := hst.out.outV
    obtain ⟨a4, c4, hv4⟩ := hst.out.sqV
    have HV3 := Lib.hid hv3
    have HV4 := Lib.hid hv4
    have hsz := hst.out.size
    by_cases hk0 : k = 0
    · subst hk0
      have hor : out = r := by
        have h2 := hinv.out.lt
        rw [Nat.pow_zero] at h2
        exact root_unique hinv.out.le h2 HR.out.1 HR.out.2.1
      obtain ⟨y1, y2, y3, y4⟩ := hv3.box.two
      obtain ⟨q1, q2, q3, q4⟩ := SR.out _ HBW.out
      have HEND := Lib.hid (show ∀ u v, RetN (sgnOf 1 r) r w (.returned (.agg #[.int .i64 (sgnOf 1 out), .slice a3 (lim out).length c3])) ((wr.setCell ⟨w.heap.size + 1, 0, none⟩ u).setCell ⟨w.heap.size + 1, 1, none⟩ v) from fun u v =>
        ⟨a3, c3, by rw [hor], by rw [← hor]; exact hv3.fit, by rw [← hor]; exact ((hv3.own.setFar (by simp; omega) _).setFar (by simp; omega) _).mono (by omega), ((P3.out.trans (HBW.out.mono (by omega))).setCell (by simp <;> omega) _).setCell (by simp <;> omega) _⟩)
      clear hv3 hv4 hst hinv hor
      go_wp2_with fail
      refine bodyPost_ret (v := .agg #[.int .i64 (sgnOf 1 out), .slice a3 (lim out).length c3]) (by simp [results, Try.results109, go_sem, *]) rfl ?_
      exact HEND.out _ _
    · obtain ⟨j, rfl⟩ : ∃ j, k = j + 1 := ⟨k - 1, by omega⟩
      have ej : (((j + 1 : Nat)) : Int) - 1 = (j : Int) := by omega
      rw [ej]
      have hjI : (j : Int) ≤ 4800 := by omega
      have hjI0 : (0 : Int) ≤ (j : Int) := by omega
      have hw1 : IntKind.i64.wrap ((j : Int) + 1) = ((j + 1 : Nat) : Int) := by rw [IntKind.wrap_i64]; omega
      have hw2 : IntKind.i64.wrap (2 * (j : Int)) = ((2 * j : Nat) : Int) := by rw [IntKind.wrap_i64]; omega
      have hom : out ≤ m := by
        have := hinv.out.le
        rcases Nat.eq_zero_or_pos out with h | h
        · omega
        · exact Nat.le_trans (Nat.le_mul_of_pos_right _ h) this
      have hlo : (lim out).length ≤ 200 := Nat.le_trans (lim_le_of_le hom) HR.out.2.2
      have hls : (lim (out * out)).length ≤ 200 := Nat.le_trans (lim_le_of_le hinv.out.le) HR.out.2.2
      have hp1 := pow_len (K := j + 1) (L := 401) (by omega)
      have hp2 := pow_len (K := 2 * j) (L := 401) (by omega)
      have hp3 := pow_len (K := j) (L := 401) (by omega)
      obtain ⟨o1, ho1⟩ : ∃ o, o = out * 2 ^ (j + 1) := ⟨_, rfl⟩
      obtain ⟨o2, ho2⟩ : ∃ o, o = 1 * 2 ^ (2 * j) := ⟨_, rfl⟩
      obtain ⟨o3, ho3⟩ : ∃ o, o = 1 * 2 ^ j := ⟨_, rfl⟩
      have hl1 : (lim o1).length ≤ 601 := by rw [ho1]; have := lim_mul_len out (2 ^ (j + 1)); omega
      have hl2 : (lim o2).length ≤ 401 := by rw [ho2, Nat.one_mul]; exact hp2
      have hl3 : (lim o3).length ≤ 401 := by rw [ho3, Nat.one_mul]; exact hp3
      have hNe : out * out + o1 + o2 = (out + o3) * (out + o3) := by rw [ho1, ho2, ho3, show 1 * 2 ^ j = 2 ^ j from Nat.one_mul _]; exact root_next out j
      have hl4 : (lim (out * out + o1)).length ≤ 602 := by have := lim_add_len (out * out) o1; omega
      have hl5 : (lim (out * out + o1 + o2)).length ≤ 603 := by have := lim_add_len (out * out + o1) o2; omega
      have e11 : sgnOf 1 1 = 1 := sgnOf_pos (by decide)
      have hIone : ∀ W, Below wr.heap.size wr W → Ints W W.heap.size b (lim 1) := fun W hW => by
        rw [lim1]
        exact ((HO.out.below hst.out.bel).below hW).ints
      have HL1 := Lib.hid (show ∀ W, Below wr.heap.size wr W → Calls Try.prog 108 #[.agg #[.int .i64 (sgnOf 1 out), .slice a3 (lim out).length c3], .int .i64 (IntKind.i64.wrap ((j : Int) + 1))] W fun e w' => ∃ x c, e = .returned (.agg #[.int .i64 (sgnOf 1 o1), .slice x (lim o1).length c]) ∧ (lim o1).length ≤ c ∧ Own w' wr.heap.size x (lim o1) ∧ Below wr.heap.size wr w' ∧ Below W.heap.size W w' from
        fun W hW => by
          rw [hw1, ho1]
          exact (sLeftN out a3 c3 (j + 1) W (hv3.own.below hW).ints (by omega) (by omega)).mono fun e w' ⟨x, c, he, hc, ho, hb⟩ => ⟨x, c, he, hc, ho.mono hW.size, hW.trans (hb.mono hW.size), hb⟩)
      have HL2 := Lib.hid (show ∀ W, Below wr.heap.size wr W → Calls Try.prog 108 #[.agg #[.int .i64 1, .slice b 1 d], .int .i64 (IntKind.i64.wrap (2 * (j : Int)))] W fun e w' => ∃ x c, e = .returned (.agg #[.int .i64 (sgnOf 1 o2), .slice x (lim o2).length c]) ∧ (lim o2).length ≤ c ∧ Own w' wr.heap.size x (lim o2) ∧ Below wr.heap.size wr w' ∧ Below W.heap.size W w' from
        fun W hW => by
          rw [hw2, ho2]
          have h := sLeftN 1 b d (2 * j) W (hIone W hW) (by rw [lim1]; simp) (by omega)
          rw [e11, lim1] at h
          exact h.mono fun e w' ⟨x, c, he, hc, ho, hb⟩ => ⟨x, c, he, hc, ho.mono hW.size, hW.trans (hb.mono hW.size), hb⟩)
      have HL3 := Lib.hid (show ∀ W, Below wr.heap.size wr W → Calls Try.prog 108 #[.agg #[.int .i64 1, .slice b 1 d], .int .i64 (j : Int)] W fun e w' => ∃ x c, e = .returned (.agg #[.int .i64 (sgnOf 1 o3), .slice x (lim o3).length c]) ∧ (lim o3).length ≤ c ∧ Own w' wr.heap.size x (lim o3) ∧ Below wr.heap.size wr w' ∧ Below W.heap.size W w' from
        fun W hW => by
          rw [ho3]
          have h := sLeftN 1 b d j W (hIone W hW) (by rw [lim1]; simp) (by omega)
          rw [e11, lim1] at h
          exact h.mono fun e w' ⟨x, c, he, hc, ho, hb⟩ => ⟨x, c, he, hc, ho.mono hW.size, hW.trans (hb.mono hW.size), hb⟩)
      have HA1 := Lib.hid (show ∀ x c W, (lim o1).length ≤ c → Own W wr.heap.size x (lim o1) → Below wr.heap.size wr W → Calls Try.prog 112 #[.agg #[.int .i64 (sgnOf 1 (out * out)), .slice a4 (lim (out * out)).length c4], .agg #[.int .i64 (sgnOf 1 o1), .slice x (lim o1).length c]] W fun e w' => ∃ x c, e = .returned (.agg #[.int .i64 (sgnOf 1 (out * out + o1)), .slice x (lim (out * out + o1)).length c]) ∧ (lim (out * out + o1)).length ≤ c ∧ Own w' wr.heap.size x (lim (out * out + o1)) ∧ Below wr.heap.size wr w' ∧ Below W.heap.size W w' from
        fun x c W hc ho hW => (sAddN (out * out) o1 a4 x c4 c W (hv4.own.below hW).ints ho.ints (by omega) (by omega) hv4.fit hc).mono fun e w' ⟨x, c, he, hc, ho, hb⟩ => ⟨x, c, he, hc, ho.mono hW.size, hW.trans (hb.mono hW.size), hb⟩)
      have HA2 := Lib.hid (show ∀ x c x' c' W, (lim (out * out + o1)).length ≤ c → Own W wr.heap.size x (lim (out * out + o1)) → (lim o2).length ≤ c' → Own W wr.heap.size x' (lim o2) → Below wr.heap.size wr W → Calls Try.prog 112 #[.agg #[.int .i64 (sgnOf 1 (out * out + o1)), .slice x (lim (out * out + o1)).length c], .agg #[.int .i64 (sgnOf 1 o2), .slice x' (lim o2).length c']] W fun e w' => ∃ x c, e = .returned (.agg #[.int .i64 (sgnOf 1 (out * out + o1 + o2)), .slice x (lim (out * out + o1 + o2)).length c]) ∧ (lim (out * out + o1 + o2)).length ≤ c ∧ Own w' W.heap.size x (lim (out * out + o1 + o2)) ∧ Below wr.heap.size wr w' ∧ Below W.heap.size W w' from
        fun x c x' c' W hc ho hc' ho' hW => (sAddN (out * out + o1) o2 x x' c c' W ho.ints ho'.ints (by omega) (by omega) hc hc').mono fun e w' ⟨x, c, he, hc, ho, hb⟩ => ⟨x, c, he, hc, ho, hW.trans (hb.mono hW.size), hb⟩)
      have HA3 := Lib.hid (show ∀ x c W, (lim o3).length ≤ c → Own W wr.heap.size x (lim o3) → Below wr.heap.size wr W → Calls Try.prog 112 #[.agg #[.int .i64 (sgnOf 1 out), .slice a3 (lim out).length c3], .agg #[.int .i64 (sgnOf 1 o3), .slice x (lim o3).length c]] W fun e w' => ∃ x c, e = .returned (.agg #[.int .i64 (sgnOf 1 (out + o3)), .slice x (lim (out + o3)).length c]) ∧ (lim (out + o3)).length ≤ c ∧ Own w' wr.heap.size x (lim (out + o3)) ∧ Below wr.heap.size wr w' ∧ Below W.heap.size W w' from
        fun x c W hc ho hW => (sAddN out o3 a3 x c3 c W (hv3.own.below hW).ints ho.ints (by omega) (by omega) hv3.fit hc).mono fun e w' ⟨x, c, he, hc, ho, hb⟩ => ⟨x, c, he, hc, ho.mono hW.size, hW.trans (hb.mono hW.size), hb⟩)
      have hone := hst.out.one
      have HX := Lib.hid (show ∀ W, Below wr.heap.size wr W → (W.cell? ⟨w2.heap.size, 0, none⟩ = some (.int .i64 (sgnOf 1 out)) ∧ W.cell? ⟨w2.heap.size, 1, none⟩ = some (.slice a3 (lim out).length c3) ∧ W.cell? ⟨w2.heap.size + 1, 0, none⟩ = some (.int .i64 (sgnOf 1 (out * out))) ∧ W.cell? ⟨w2.heap.size + 1, 1, none⟩ = some (.slice a4 (lim (out * out)).length c4) ∧ W.cell? ⟨w2.heap.size + 2, 0, none⟩ = some (.int .i64 1) ∧ W.cell? ⟨w2.heap.size + 2, 1, none⟩ = some (.slice b 1 d)) from
        fun W hW => ⟨(hv3.box.below hW).cell 0, (hv3.box.below hW).cell 1, (hv4.box.below hW).cell 0, (hv4.box.below hW).cell 1, (hone.below hW).cell 0, (hone.below hW).cell 1⟩)
      obtain ⟨N, hN⟩ : ∃ N, N = out * out + o1 + o2 := ⟨_, rfl⟩
      obtain ⟨M, hM⟩ : ∃ M, M = out * out + o1 := ⟨_, rfl⟩
      obtain ⟨S, hS⟩ : ∃ S, S = out * out := ⟨_, rfl⟩
      rw [← hN] at hNe HA2
      have HNE := Lib.hid hNe
      have HO3 := Lib.hid (show o3 = 2 ^ j by rw [ho3, Nat.one_mul])
      rw [← hM] at HA1 HA2
      rw [← hS] at HA1 HX
      have HCM := Lib.hid (show ∀ x c W, Own W wr.heap.size x (lim N) → Below wr.heap.size wr W → Calls Try.prog 110 #[.agg #[.int .i64 (sgnOf 1 N), .slice x (lim N).length c], .agg #[.int .i64 s, .slice a (lim m).length c1]] W (RetB (.int .i64 (cmpZ (N : Int) (m : Int))) W) from
        fun x c W ho hW => by
          have hi := IX.out W (HBW.out.trans (hW.mono HBW.out.size))
          have h := sCompare (sgnOf 1 N) s x a N m c c1 W _ B (Nat.le_refl _) hi.2 ho.ints hi.1 (sgn_self N).1 HSG.out.1 (by rw [hN]; omega) (by have := HR.out.2.2; omega)
          rw [(sgn_self N).2, HSG.out.2] at h
          exact h)
      have hTd : Below wr.heap.size wr wr.drew := (Below.refl _ _).drew
      have hT0 : Below wr.heap.size wr wr := Below.refl _ _
      have HINV := hinv
      have HSTT := hst
      clear hv3 hv4 hinv hst hone hw1 hw2 hom hlo hls hp1 hp2 hp3 hl1 hl2 hl3 hl4 hl5 hNe ho1 ho2 ho3 e11 hIone hN hM hS
      go_wp2_with fail
      go_cut [7] from 15 to 39 (fun p W => NextAt wr W p N)
      case first => as_aux_lemma =>
        go_region_held3 (fun W => W.cell? ⟨w2.heap.size, 0, none⟩ = some (.int .i64 (sgnOf 1 out)) ∧ W.cell? ⟨w2.heap.size, 1, none⟩ = some (.slice a3 (lim out).length c3) ∧ W.cell? ⟨w2.heap.size + 1, 0, none⟩ = some (.int .i64 (sgnOf 1 S)) ∧ W.cell? ⟨w2.heap.size + 1, 1, none⟩ = some (.slice a4 (lim S).length c4) ∧ W.cell? ⟨w2.heap.size + 2, 0, none⟩ = some (.int .i64 1) ∧ W.cell? ⟨w2.heap.size + 2, 1, none⟩ = some (.slice b 1 d))
          (first | exact HX.out _ (by assumption) | exact HX.out _ (bal (by assumption)) | exact HX.out _ (below_allocd (by assumption) _) | exact HX.out _ (below_set2 (by assumption) (by first | omega | (simp; omega) | simp) _ _))
          (first
          | (go_at_call 108; with_reducible refine (HL1.out _ (by first | assumption | exact bal (by assumption) | exact below_allocd (by assumption) _)).mono ?_; rintro e w5 ⟨x5, d5, rfl, hc5, ho5, hb5, hb5'⟩; have hk5 := fun g v0 v1 (h : BoxAt _ g 103 #[v0, v1]) => BoxAt.below h hb5'; have hz5 := hb5.size; have hy5 := hb5'.size; (try simp at hy5))
          | (go_at_call 112; with_reducible refine (HA1.out _ _ _ hc5 (by first | exact ho5 | exact ho5.alloc _) (by first | exact hb5 | exact bal hb5)).mono ?_; rintro e w6 ⟨x6, d6, rfl, hc6, ho6, hb6, hb6'⟩; have hk6 := fun g v0 v1 (h : BoxAt _ g 103 #[v0, v1]) => BoxAt.below h hb6'; have hz6 := hb6.size; have hy6 := hb6'.size; (try simp at hy6))
          | (go_at_call 108; with_reducible refine (HL2.out _ (by first | exact hb6 | exact bal hb6)).mono ?_; rintro e w7 ⟨x7, d7, rfl, hc7, ho7, hb7, hb7'⟩; have hk7 := fun g v0 v1 (h : BoxAt _ g 103 #[v0, v1]) => BoxAt.below h hb7'; have hz7 := hb7.size; have hy7 := hb7'.size; (try simp at hy7); first | (have ho67 := ho6.below hb7') | (have ho67 := (ho6.alloc _).below hb7'))
          | (go_at_call 112; with_reducible refine (HA2.out _ _ _ _ _ hc6 (by first | exact ho67 | exact ho67.alloc _) hc7 (by first | exact ho7 | exact ho7.alloc _) (by first | exact hb7 | exact bal hb7)).mono ?_; rintro e w8 ⟨x8, d8, rfl, hc8, ho8, hb8, hb8'⟩; have hz8 := hb8.size; have hy8 := hb8'.size; (try simp at hy8); (first | (with_reducible have hq := BoxAt.below (BoxAt.new w7 _ _) hb8'; obtain ⟨q1, q2, q3, q4⟩ := BoxAt.two hq) | (with_reducible have hq := BoxAt.below (hk7 _ _ _ (BoxAt.new w6 _ _)) hb8'; obtain ⟨q1, q2, q3, q4⟩ := BoxAt.two hq) | (with_reducible have hq := BoxAt.below (hk7 _ _ _ (hk6 _ _ _ (BoxAt.new w5 _ _))) hb8'; obtain ⟨q1, q2, q3, q4⟩ := BoxAt.two hq) | (with_reducible have hq := BoxAt.below (hk7 _ _ _ (hk6 _ _ _ (hk5 _ _ _ (BoxAt.newd wr _ _)))) hb8'; obtain ⟨q1, q2, q3, q4⟩ := BoxAt.two hq) | skip)))
        all_goals
          go_wp2_with fail
          go_meet
          first
          | exact NextAt.mk1 hc8 ho8 (by first | omega | (simp; omega)) hb8
          | exact NextAt.mk2 hq (by first | omega | (simp; omega) | simp) (by first | omega | (simp; done) | (simp; omega)) hc8 ho8 hb8
      case rest => as_aux_lemma =>
        obtain ⟨h, x, c, rfl, hh, hc, ho, hbx, hb⟩ := hcut
        have HOX := Lib.hid ho
        have HCX := Lib.hid hc
        have HBX := Lib.hid hbx
        have HBB := Lib.hid hb
        obtain ⟨z1, z2, z3, z4⟩ := hbx.two
        obtain ⟨k1, k2⟩ := SS.out _ (HBW.out.trans (hb.mono HBW.out.size))
        clear hTd hT0 hc ho hbx hb
        by_cases hle : N ≤ m
        · have hcm : cmpZ (N : Int) (m : Int) = 0 ∨ cmpZ (N : Int) (m : Int) = -1 := by
            rcases Nat.lt_or_ge N m with h | h
            · right; exact cmpZ_lt (by omega)
            · left; exact cmpZ_eq (by omega)
          obtain ⟨z, hz⟩ : ∃ z, z = cmpZ (N : Int) (m : Int) := ⟨_, rfl⟩
          rw [← hz] at HCM hcm
          have hz0 : decide (z ≤ 0) = true := decide_eq_true (by omega)
          clear hz hcm
          go_wp2_with fail
          refine (HCM.out _ _ _ HOX.out HBB.out).mono ?_
          rintro e w9 ⟨rfl, hb9⟩
          have hB9 := HBB.out.trans (hb9.mono HBB.out.size)
          have HBX9 := Lib.hid (HBX.out.below hb9)
          have HOX9 := Lib.hid (HOX.out.below hb9)
          have HYES := Lib.hid (show RootInv m (out + o3) j from by rw [HO3.out]; exact rootInv_yes HINV.out (by rw [← HO3.out, ← HNE.out]; exact hle))
          obtain ⟨f1, f2, f3, f4, f5, f6⟩ := HX.out _ hB9
          have hgh : w2.heap.size < h := by omega
          have hgh1 : w2.heap.size + 1 < h := by omega
          clear z1 z2 z3 z4 k1 k2 hb9 hle
          go_wp2_with fail
          go_region_with ((first
            | (go_at_call 108; with_reducible refine (HL3.out _ (by first | exact hB9 | exact hB9.drew)).mono ?_; rintro e w10 ⟨x10, d10, rfl, hc10, ho10, hb10, hb10'⟩; clear f1 f2 f3 f4 f5 f6; obtain ⟨f1, f2, f3, f4, f5, f6⟩ := HX.out _ hb10)
            | (go_at_call 112; with_reducible refine (HA3.out _ _ _ hc10 ho10 hb10).mono ?_; rintro e w11 ⟨x11, d11, rfl, hc11, ho11, hb11, hb11'⟩; clear f1 f2 f3 f4 f5 f6; obtain ⟨q1, q2, q3, q4⟩ := (HV3.out.box.below hb11).two; obtain ⟨q5, q6, q7, q8⟩ := (HV4.out.box.below hb11).two)))
          all_goals
            have hbx9 : BoxAt w9.drew h 103 #[.int .i64 (sgnOf 1 N), .slice x (lim N).length c] := HBX9.out
            have hox9 : Own w9.drew wr.heap.size x (lim N) := HOX9.out
            have hbx11 := (hbx9.below hb10').below hb11'
            have hox11 := (hox9.below hb10').below hb11'
            have HRS := Lib.hid (HSTT.out.next hb11 hc11 ho11 HCX.out hox11 HNE.out)
            obtain ⟨z1, z2, z3, z4⟩ := ((hbx11.far (p := ⟨w2.heap.size, 0, none⟩) (by simp <;> omega) (.int .i64 (sgnOf 1 (out + o3)))).far (p := ⟨w2.heap.size, 1, none⟩) (by simp <;> omega) (.slice x11 (lim (out + o3)).length d11)).two
            obtain ⟨q5, q6, q7, q8⟩ := (((HV4.out.box.below hb11).far (p := ⟨w2.heap.size, 0, none⟩) (by simp <;> omega) (.int .i64 (sgnOf 1 (out + o3)))).far (p := ⟨w2.heap.size, 1, none⟩) (by simp <;> omega) (.slice x11 (lim (out + o3)).length d11)).two
            clear hbx9 hox9 hbx11 hox11 hb10 hb10' hb11 hb11' ho10 ho11 hc10 hc11
            go_wp2_with fail
            go_roundw
            case rel => exact ⟨j, out + o3, rfl, by omega, HYES, HRS⟩
            case measure => simp [intOf]
        · have hgt : m < N := by omega
          rw [cmpZ_gt (show (m : Int) < (N : Int) by omega)] at HCM
          have HNO := Lib.hid (show RootInv m out j from rootInv_no HINV.out (by rw [← HO3.out, ← HNE.out]; exact hgt))
          clear hgt hle
          go_wp2_with fail
          refine (HCM.out _ _ _ HOX.out HBB.out).mono ?_
          rintro e w9 ⟨rfl, hb9⟩
          have HS9 := Lib.hid (HSTT.out.keep (HBB.out.trans (hb9.mono HBB.out.size)))
          clear hb9
          go_wp2_with fail
          go_roundw
          case rel => exact ⟨j, out, rfl, by omega, HNO, HS9⟩
          case measure => simp [intOf]
end Go.Proofs.Ytiohacnkiikmcaa
