/-
  Contract: root, Newton's steps. Conditions: the limbs can be read. Contract: RootOfWhole of the program. Conditions: the limbs can be read. What loops over boxed variables share: worlds with a new variable, signs, shifts to the left by the model. Conditions: the limbs can be read. Contract of the model: roots bit by bit. Conditions: the limbs can be read.
-/
import Derived.Test.YtnnbfoemmgddeaaRa
import Derived.Test.YtnnbfoemmgddeaaVe
import Derived.Test.YtnnbfoemmgddeaaVl
import Derived.Test.YtnnbfoemmgddeaaLx
import Derived.Test.YtnnbfoemmgddeaaTg
import Derived.Test.YtnnbfoemmgddeaaUf
namespace Go.Proofs.Ytnnbfoemmgddeaa
set_option linter.unusedVariables false
open Go Go.RowKit

theorem lim1 : lim 1 = [1] := by
  rw [lim, dig_pos (by decide)]
  have : dig (1 / 16777216) = [] := by rw [show 1 / 16777216 = 0 by decide, dig_zero]
  rw [this]
  rfl
theorem ints1 (w : World) (z : Int) (t : TypeId) : Ints (w.alloc (.cells #[.int .i64 z] t)) (w.alloc (.cells #[.int .i64 z] t)).heap.size (some ⟨w.heap.size, 0, none⟩) [z] := fun i hi => by
  have h0 : i = 0 := by simpa using hi
  subst h0
  refine ⟨w.heap.size, 0, rfl, by simp, ?_⟩
  simp
theorem pow_len {K L : Nat} (h : K < 24 * L) : (lim (2 ^ K)).length ≤ L := by
  rw [lim_length]
  refine dig_length_le ?_
  rw [two24]
  exact Nat.pow_lt_pow_right (by omega) h
/-- How many bits, as a natural number. -/
theorem blen_nat {n : Nat} (h : n ≠ 0) (hl : (lim n).length ≤ 200) : ∃ b : Nat, blen n = (b : Int) ∧ b ≤ 4800 ∧ n < 2 ^ b := by
  rw [lim_length] at hl
  have hp := dig_length_pos h
  have hb := bitLen_le24 (show (dig n).getD ((dig n).length - 1) 0 < 16777216 from getD_lt (small_dig n) _)
  have e := blen_pos h
  obtain ⟨b, hb'⟩ := Int.eq_ofNat_of_zero_le (show 0 ≤ blen n by omega)
  exact ⟨b, hb', by omega, blen_le.1 (by omega)⟩
theorem root_start {n b K : Nat} (h : n < 2 ^ b) (hK : K = (b + 1) / 2) : n < (2 ^ K + 1) * (2 ^ K + 1) := by
  have h1 : 2 ^ b ≤ 2 ^ (K + K) := Nat.pow_le_pow_right (by omega) (by omega)
  rw [Nat.pow_add] at h1
  have h2 : 2 ^ K * 2 ^ K ≤ (2 ^ K + 1) * (2 ^ K + 1) := Nat.mul_le_mul (by omega) (by omega)
  omega

/-- The root of a number, rounded down. -/
def rootN : Nat → Nat
  | 0 => 0
  | n + 1 => if (rootN n + 1) * (rootN n + 1) ≤ n + 1 then rootN n + 1 else rootN n
theorem rootN_spec (n : Nat) : rootN n * rootN n ≤ n ∧ n < (rootN n + 1) * (rootN n + 1) := by
  induction n with
  | zero => exact ⟨Nat.le_refl _, by decide⟩
  | succ n ih =>
    obtain ⟨h1, h2⟩ := ih
    unfold rootN
    generalize rootN n = r at *
    split
    · rename_i h
      have e : (r + 1 + 1) * (r + 1 + 1) = (r + 1) * (r + 1) + (r + 1) + (r + 1) + 1 := by grind
      exact ⟨h, by omega⟩
    · exact ⟨by omega, by omega⟩
theorem rootN_le (n : Nat) : rootN n ≤ n := by
  have h := (rootN_spec n).1
  rcases Nat.eq_zero_or_pos (rootN n) with h0 | h0
  · omega
  · exact Nat.le_trans (Nat.le_mul_of_pos_right _ h0) h
/-- What RootOfWhole answers. -/
noncomputable def rootR (s : Int) (xs : List Int) : Int × List Int × Int := @ite _ (IsWh s xs) (Classical.propDecidable _) (if s < 0 then (0, [], 5) else (sgnOf 1 (rootN (val (xs.map Int.toNat))), lim (rootN (val (xs.map Int.toNat))), 0)) (0, [], 1)
theorem rootR_yes {s : Int} {xs : List Int} (h : IsWh s xs) (h1 : ¬ s < 0) : rootR s xs = (sgnOf 1 (rootN (val (xs.map Int.toNat))), lim (rootN (val (xs.map Int.toNat))), 0) := by unfold rootR; rw [if_pos h, if_neg h1]
theorem rootR_neg {s : Int} {xs : List Int} (h : IsWh s xs) (h1 : s < 0) : rootR s xs = (0, [], 5) := by unfold rootR; rw [if_pos h, if_pos h1]
theorem rootR_no {s : Int} {xs : List Int} (h : ¬ IsWh s xs) : rootR s xs = (0, [], 1) := by unfold rootR; rw [if_neg h]
theorem rootR_len (s : Int) (xs : List Int) : (rootR s xs).2.1.length ≤ 200 := by
  by_cases h : IsWh s xs
  · by_cases h1 : s < 0
    · rw [rootR_neg h h1]; simp
    · rw [rootR_yes h h1]
      obtain ⟨m, rfl, hm, sm⟩ := isWh_of h
      rw [val_lim]
      exact Nat.le_trans (lim_le_of_le (rootN_le m)) hm
  · rw [rootR_no h]; simp
theorem retWC_zeroC {w W0 W : World} (code : Int) (P3 : Below w.heap.size w W0) (P4 : W0.heap.size = w.heap.size + 2) (hb : Below W0.heap.size W0 W) (u v : Value) :
    RetWC (0, [], code) w.heap.size w (.returned (.tuple #[.agg #[.int .i64 0, .slice none 0 0], .int .i64 code])) ((W.setCell ⟨w.heap.size + 1, 0, none⟩ u).setCell ⟨w.heap.size + 1, 1, none⟩ v) :=
  ⟨none, 0, rfl, Nat.le_refl _, Own.nil, ((P3.trans (hb.mono (by omega))).setCell (by simp <;> omega) _).setCell (by simp <;> omega) _⟩
theorem retWC_endC {w W0 W : World} {r : Int × List Int × Int} {a : Option Addr} {c : Nat} (P3 : Below w.heap.size w W0) (P4 : W0.heap.size = w.heap.size + 2) (hb : Below W0.heap.size W0 W) (u v : Value) (ho : Own W W0.heap.size a r.2.1) (hc : r.2.1.length ≤ c) :
    RetWC r w.heap.size w (.returned (.tuple #[.agg #[.int .i64 r.1, .slice a r.2.1.length c], .int .i64 r.2.2])) ((W.setCell ⟨w.heap.size + 1, 0, none⟩ u).setCell ⟨w.heap.size + 1, 1, none⟩ v) :=
  ⟨a, c, rfl, hc, ((ho.setFar (by simp; omega) _).setFar (by simp; omega) _).mono (by omega), ((P3.trans (hb.mono (by omega))).setCell (by simp <;> omega) _).setCell (by simp <;> omega) _⟩

theorem bal {w W : World} {o : Obj} (h : Below w.heap.size w W) : Below w.heap.size w (W.alloc o) := h.alloc h.size o
theorem sgn_mul {x y : Nat} (hy : y ≠ 0) : sgnOf (sgnOf 1 x) (x * y) = sgnOf 1 (x * y) := by
  by_cases h : x = 0
  · subst h; simp [sgnOf]
  · rw [sgnOf_pos h]
theorem sLeftN (n : Nat) (a : Option Addr) (c1 K0 : Nat) (w : World) (hx : Ints w w.heap.size a (lim n)) (hl : (lim n).length ≤ 1048576) (hk : K0 ≤ 100000000) :
    Calls Try.prog 151 #[.agg #[.int .i64 (sgnOf 1 n), .slice a (lim n).length c1], .int .i64 (K0 : Int)] w (RetN (sgnOf 1 (n * 2 ^ K0)) (n * 2 ^ K0) w) := by
  have h := sLeft (sgnOf 1 n) a n c1 K0 w _ (Nat.le_refl _) hx hl hk
  rwa [sgn_mul (by have := Nat.pow_pos (n := K0) (show 0 < 2 by omega); omega)] at h
theorem sgn_self (m : Nat) : Sg (sgnOf 1 m) m ∧ sgnOf 1 m * (m : Int) = (m : Int) := by
  by_cases h : m = 0
  · subst h; exact ⟨.inl ⟨rfl, sgnOf_zero _⟩, by simp⟩
  · rw [sgnOf_pos h]; exact ⟨.inr ⟨h, .inl rfl⟩, by simp⟩

theorem blen_nat' {n : Nat} (hl : (lim n).length ≤ 200) : ∃ b : Nat, blen n = (b : Int) ∧ b ≤ 4800 ∧ n < 2 ^ b := by
  by_cases h : n = 0
  · subst h; exact ⟨0, by simp [blen], by omega, by simp⟩
  · exact blen_nat h hl
/-- A variable of the root's loop: the number it holds, whose limbs lie from block lo on. -/
structure VarAt (w : World) (lo g n : Nat) (a : Option Addr) (c : Nat) : Prop where
  fit : (lim n).length ≤ c
  own : Own w lo a (lim n)
  box : BoxAt w g 58 #[.int .i64 (sgnOf 1 n), .slice a (lim n).length c]
theorem VarAt.zero {w : World} {lo g : Nat} (h : BoxAt w g 58 #[.int .i64 0, .slice none 0 0]) : VarAt w lo g 0 none 0 := by
  have e : (lim 0).length = 0 := by rw [lim_zero]; rfl
  refine ⟨by rw [e]; exact Nat.le_refl _, by rw [lim_zero]; exact Own.nil, ?_⟩
  rw [e, sgnOf_zero]
  exact h
/-- The root's loop in memory. -/
structure RootSt (w2 wr : World) (g out : Nat) (b : Option Addr) (d : Nat) : Prop where
  bel : Below g w2 wr
  size : g + 3 ≤ wr.heap.size
  outV : ∃ a c, VarAt wr (g + 3) g out a c
  sqV : ∃ a c, VarAt wr (g + 3) (g + 1) (out * out) a c
  one : BoxAt wr (g + 2) 58 #[.int .i64 1, .slice b 1 d]

theorem VarAt.below {w w' : World} {lo g n : Nat} {a : Option Addr} {c : Nat} (h : VarAt w lo g n a c) (hb : Below w.heap.size w w') : VarAt w' lo g n a c := ⟨h.fit, h.own.below hb, h.box.below hb⟩
theorem RootSt.keep {w2 wr W : World} {out : Nat} {b : Option Addr} {d : Nat} (h : RootSt w2 wr w2.heap.size out b d) (hb : Below wr.heap.size wr W) : RootSt w2 W w2.heap.size out b d := by
  obtain ⟨a3, c3, h3⟩ := h.outV
  obtain ⟨a4, c4, h4⟩ := h.sqV
  have hs := h.size
  exact ⟨h.bel.trans (hb.mono (by omega)), by have := hb.size; omega, ⟨a3, c3, h3.below hb⟩, ⟨a4, c4, h4.below hb⟩, h.one.below hb⟩
theorem RootSt.next {w2 wr W : World} {out out' N : Nat} {b x y : Option Addr} {d c e : Nat} (h : RootSt w2 wr w2.heap.size out b d) (hb : Below wr.heap.size wr W) (hx : (lim out').length ≤ c) (ox : Own W wr.heap.size x (lim out')) (hy : (lim N).length ≤ e) (oy : Own W wr.heap.size y (lim N)) (hN : N = out' * out') :
    RootSt w2 ((((W.setCell ⟨w2.heap.size, 0, none⟩ (.int .i64 (sgnOf 1 out'))).setCell ⟨w2.heap.size, 1, none⟩ (.slice x (lim out').length c)).setCell ⟨w2.heap.size + 1, 0, none⟩ (.int .i64 (sgnOf 1 N))).setCell ⟨w2.heap.size + 1, 1, none⟩ (.slice y (lim N).length e)) w2.heap.size out' b d := by
  obtain ⟨a3, c3, h3⟩ := h.outV
  obtain ⟨a4, c4, h4⟩ := h.sqV
  have hs := h.size
  have hsW := hb.size
  have hB := h.bel.trans (hb.mono (show w2.heap.size ≤ wr.heap.size by omega))
  refine ⟨(((hB.setCell (by simp <;> omega) _).setCell (by simp <;> omega) _).setCell (by simp <;> omega) _).setCell (by simp <;> omega) _, by simp [World.setCell]; omega, ⟨x, c, hx, ?_, ?_⟩, ⟨y, e, by rw [← hN]; exact hy, ?_, ?_⟩, ?_⟩
  · exact ((((ox.setFar (by simp; omega) _).setFar (by simp; omega) _).setFar (by simp; omega) _).setFar (by simp; omega) _).mono (by omega)
  · have := (((h3.box.below hb).set_ 0 (.int .i64 (sgnOf 1 out'))).set_ 1 (.slice x (lim out').length c)).far (p := ⟨w2.heap.size + 1, 0, none⟩) (by simp <;> omega) (.int .i64 (sgnOf 1 N)) |>.far (p := ⟨w2.heap.size + 1, 1, none⟩) (by simp <;> omega) (.slice y (lim N).length e)
    simpa using this
  · rw [← hN]
    exact ((((oy.setFar (by simp; omega) _).setFar (by simp; omega) _).setFar (by simp; omega) _).setFar (by simp; omega) _).mono (by omega)
  · rw [← hN]
    have := ((((h4.box.below hb).far (p := ⟨w2.heap.size, 0, none⟩) (by simp <;> omega) (.int .i64 (sgnOf 1 out'))).far (p := ⟨w2.heap.size, 1, none⟩) (by simp <;> omega) (.slice x (lim out').length c)).set_ 0 (.int .i64 (sgnOf 1 N))).set_ 1 (.slice y (lim N).length e)
    simpa using this
  · exact ((((h.one.below hb).far (by simp <;> omega) _).far (by simp <;> omega) _).far (by simp <;> omega) _).far (by simp <;> omega) _
theorem RootSt.start {w2 w4 : World} {b : Option Addr} {d : Nat}
    (hb : Below (((w2.alloc (.cells #[.int .i64 0, .slice none 0 0] 58)).alloc (.cells #[.int .i64 0, .slice none 0 0] 58)).alloc (.cells #[.int .i64 1, .slice b 1 d] 58)).heap.size (((w2.alloc (.cells #[.int .i64 0, .slice none 0 0] 58)).alloc (.cells #[.int .i64 0, .slice none 0 0] 58)).alloc (.cells #[.int .i64 1, .slice b 1 d] 58)) w4) :
    RootSt w2 w4 w2.heap.size 0 b d := by
  have hsz := hb.size
  simp at hsz
  refine ⟨(((Below.refl _ _).alloc (Nat.le_refl _) _).alloc (by simp) _ |>.alloc (by simp; omega) _).trans (hb.mono (by simp; omega)), by omega, ⟨none, 0, VarAt.zero ?_⟩, ⟨none, 0, VarAt.zero ?_⟩, ?_⟩
  · exact (((BoxAt.new w2 _ _).alloc _).alloc _).below hb
  · have := ((BoxAt.new (w2.alloc (.cells #[.int .i64 0, .slice none 0 0] 58)) 58 #[.int .i64 0, .slice none 0 0]).alloc (.cells #[.int .i64 1, .slice b 1 d] 58)).below hb
    simpa using this
  · have := (BoxAt.new ((w2.alloc (.cells #[.int .i64 0, .slice none 0 0] 58)).alloc (.cells #[.int .i64 0, .slice none 0 0] 58)) 58 #[.int .i64 1, .slice b 1 d]).below hb
    simpa using this
/-- The next square in its variable. -/
def NextAt (wr W : World) (p : Value) (N : Nat) : Prop := ∃ h x c, p = .pointer (some ⟨h, 0, none⟩) ∧ wr.heap.size ≤ h ∧ (lim N).length ≤ c ∧ Own W wr.heap.size x (lim N) ∧ BoxAt W h 58 #[.int .i64 (sgnOf 1 N), .slice x (lim N).length c] ∧ Below wr.heap.size wr W
theorem NextAt.mk1 {wr W : World} {N lo c : Nat} {x : Option Addr} (hc : (lim N).length ≤ c) (ho : Own W lo x (lim N)) (hlo : wr.heap.size ≤ lo) (hb : Below wr.heap.size wr W) :
    NextAt wr (W.alloc (.cells #[.int .i64 (sgnOf 1 N), .slice x (lim N).length c] 58)) (.pointer (some ⟨W.heap.size, 0, none⟩)) N :=
  ⟨_, x, c, rfl, hb.size, hc, (ho.alloc _).mono hlo, BoxAt.new W 58 #[.int .i64 (sgnOf 1 N), .slice x (lim N).length c], hb.alloc hb.size _⟩
theorem NextAt.mk2 {wr W : World} {N lo c h : Nat} {x : Option Addr} {v0 v1 : Value} (hq : BoxAt W h 58 #[v0, v1]) (hh : wr.heap.size ≤ h) (hl : h < lo) (hc : (lim N).length ≤ c) (ho : Own W lo x (lim N)) (hb : Below wr.heap.size wr W) :
    NextAt wr ((W.setCell ⟨h, 0, none⟩ (.int .i64 (sgnOf 1 N))).setCell ⟨h, 1, none⟩ (.slice x (lim N).length c)) (.pointer (some ⟨h, 0, none⟩)) N := by
  refine ⟨_, x, c, rfl, hh, hc, ((ho.setFar (by simpa using hl) _).setFar (by simpa using hl) _).mono (by omega), ?_, (hb.setCell (by simp <;> omega) _).setCell (by simp <;> omega) _⟩
  have := (hq.set_ 0 (.int .i64 (sgnOf 1 N))).set_ 1 (.slice x (lim N).length c)
  simpa using this
theorem sAddN (m n : Nat) (a b : Option Addr) (c1 c2 : Nat) (w : World) (hx : Ints w w.heap.size a (lim m)) (hy : Ints w w.heap.size b (lim n)) (hl : (lim m).length ≤ 1048576) (hl' : (lim n).length ≤ 1048576) (hc1 : (lim m).length ≤ c1) (hc2 : (lim n).length ≤ c2) :
    Calls Try.prog 163 #[.agg #[.int .i64 (sgnOf 1 m), .slice a (lim m).length c1], .agg #[.int .i64 (sgnOf 1 n), .slice b (lim n).length c2]] w (RetN (sgnOf 1 (m + n)) (m + n) w) := by
  have h := sAdd (sgnOf 1 m) (sgnOf 1 n) a b m n c1 c2 w _ _ (Nat.le_refl _) (Nat.le_refl _) hx hy (sgn_self m).1 (sgn_self n).1 hl hl' hc1 hc2
  rw [(sgn_self m).2, (sgn_self n).2] at h
  have e1 : ((m : Int) + (n : Int)).natAbs = m + n := by omega
  have e2 : ((m : Int) + (n : Int)).sign = sgnOf 1 (m + n) := by
    by_cases h0 : m + n = 0
    · rw [h0, sgnOf_zero, show (m : Int) + (n : Int) = 0 by omega]; rfl
    · rw [sgnOf_pos h0]; exact Int.sign_eq_one_of_pos (by omega)
  unfold RetZ at h
  rw [e1, e2] at h
  exact h

end Go.Proofs.Ytnnbfoemmgddeaa
