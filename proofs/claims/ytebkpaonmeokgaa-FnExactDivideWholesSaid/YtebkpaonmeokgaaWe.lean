/-
  Contract: (*division).step. Conditions: the limbs can be read, the rest and the quotient lie in rows of their own.
-/
import Derived.Test.YtebkpaonmeokgaaUp
import Derived.Test.YtebkpaonmeokgaaVb
namespace Go.Proofs.Ytebkpaonmeokgaa
set_option linter.unusedVariables false
open Go Go.RowKit

/-- A division under way. -/
structure DivSt (w0 : World) (B gd gr gq : Nat) (da : Option Addr) (dc qc rc : Nat) (D : List Nat) (R Q : List Nat) (w : World) : Prop where
  bel : Below B w0 w
  box : BoxAt w gd 97 #[.slice da D.length dc, .slice (some ⟨gq, 0, none⟩) Q.length qc, .slice (some ⟨gr, 0, none⟩) R.length rc]
  row : RowI w gr (ofN R)
  quo : RowI w gq (ofN Q)
theorem DivSt.grown {w0 w w' : World} {B gd gr gq : Nat} {da : Option Addr} {dc qc rc : Nat} {D R Q R' : List Nat} (h : DivSt w0 B gd gr gq da dc qc rc D R Q w) (hg : w.grownBy w' (some gr)) (hB : B ≤ w.heap.size) (hBr : B ≤ gr) (h1 : gd ≠ gr) (h2 : gq ≠ gr) (hr : RowI w' gr (ofN R')) (hl : R'.length = R.length) :
    DivSt w0 B gd gr gq da dc qc rc D R' Q w' :=
  ⟨h.bel.trans (below_of_grown hg hB (fun g e => by cases e; exact hBr)), by rw [hl]; exact h.box.grown hg (by simp; omega), hr, h.quo.keep (hg.block gq h.quo.lt (by simp; omega))⟩
theorem DivSt.below {w0 w w' : World} {B gd gr gq : Nat} {da : Option Addr} {dc qc rc : Nat} {D R Q : List Nat} (h : DivSt w0 B gd gr gq da dc qc rc D R Q w) (hb : Below w.heap.size w w') (hB : B ≤ w.heap.size) : DivSt w0 B gd gr gq da dc qc rc D R Q w' :=
  ⟨h.bel.trans (hb.mono hB), h.box.below hb, h.row.below hb h.row.lt, h.quo.below hb h.quo.lt⟩

/-- The rest behind a step. -/
structure Stepped (R S : List Int) (D : List Nat) (i r : Nat) : Prop where
  len : S.length = R.length
  same : ∀ j, (j < i ∨ i + D.length < j) → S.getD j 0 = R.getD j 0
  digs : ∀ j, j ≤ D.length → 0 ≤ S.getD (i + j) 0 ∧ S.getD (i + j) 0 < 16777216
  eq : segI S i (D.length + 1) = r
theorem stepped_one {R S : List Int} {D : List Nat} {i V q : Nat} (sD : Small D) (hl : S.length = R.length) (hs : ∀ j, (j < i ∨ i + D.length < j) → S.getD j 0 = R.getD j 0) (hd : ∀ j, j < D.length → 0 ≤ S.getD (i + j) 0 ∧ S.getD (i + j) 0 < 16777216)
    (hR : segI R i (D.length + 1) = (V : Int)) (e : segI S i (D.length + 1) = segI R i (D.length + 1) - (q : Int) * (val D : Int)) (hq : V / val D ≤ q ∧ q ≤ V / val D + 1) (hv : 0 < val D) :
    (q = V / val D ∧ S.getD (i + D.length) 0 = 0 ∧ Stepped R S D i (V % val D)) ∨
    (q = V / val D + 1 ∧ S.getD (i + D.length) 0 = -1 ∧ segI S i (D.length + 1) = ((V % val D : Nat) : Int) - (val D : Int)) := by
  have hdm := Nat.div_add_mod V (val D)
  have hml := Nat.mod_lt V hv
  have hvl := val_lt sD
  have hvI : ((val D : Nat) : Int) < 16777216 ^ D.length := by rw [← cast_pow]; omega
  rw [hR] at e
  rcases (show q = V / val D ∨ q = V / val D + 1 by omega) with rfl | rfl
  · left
    have hW : segI S i (D.length + 1) = ((V % val D : Nat) : Int) := by
      rw [e, ← Int.natCast_mul, Nat.mul_comm]
      omega
    obtain ⟨_, h2⟩ := seg_top hd hW (by omega) (by omega)
    have h3 := h2 (by omega)
    refine ⟨rfl, h3, hl, hs, fun j hj => ?_, hW⟩
    by_cases hjd : j < D.length
    · exact hd j hjd
    · obtain rfl : j = D.length := by omega
      rw [h3]; omega
  · right
    have hW : segI S i (D.length + 1) = ((V % val D : Nat) : Int) - (val D : Int) := by
      rw [e, ← Int.natCast_mul, Nat.add_mul, Nat.one_mul, Nat.mul_comm]
      omega
    obtain ⟨h2, _⟩ := seg_top hd hW (by omega) (by omega)
    exact ⟨rfl, h2 (by omega), hW⟩
theorem stepped_two {R S T : List Int} {D : List Nat} {i r : Nat} (sD : Small D) (hl : S.length = R.length) (hs : ∀ j, (j < i ∨ i + D.length < j) → S.getD j 0 = R.getD j 0)
    (hT : T.length = S.length) (hs2 : ∀ j, (j < i ∨ i + D.length < j) → T.getD j 0 = S.getD j 0) (hd2 : ∀ j, j < D.length → 0 ≤ T.getD (i + j) 0 ∧ T.getD (i + j) 0 < 16777216)
    (hW : segI S i (D.length + 1) = (r : Int) - (val D : Int)) (e : segI T i (D.length + 1) = segI S i (D.length + 1) - (-1) * (val D : Int)) (hr : r < val D) : Stepped R T D i r := by
  have hvl := val_lt sD
  have hvI : ((val D : Nat) : Int) < 16777216 ^ D.length := by rw [← cast_pow]; omega
  have hW2 : segI T i (D.length + 1) = (r : Int) := by omega
  obtain ⟨_, h2⟩ := seg_top hd2 hW2 (by omega) (by omega)
  have h3 := h2 (by omega)
  refine ⟨by omega, fun j hj => (hs2 j hj).trans (hs j hj), fun j hj => ?_, hW2⟩
  by_cases hjd : j < D.length
  · exact hd2 j hjd
  · obtain rfl : j = D.length := by omega
    rw [h3]; omega
/-- The rest as numbers again. -/
theorem Stepped.nat {R : List Nat} {S : List Int} {D : List Nat} {i r : Nat} (h : Stepped (ofN R) S D i r) (rs : Small R) : ∃ R' : List Nat, S = ofN R' ∧ Small R' ∧ R'.length = R.length ∧ (∀ j, (j < i ∨ i + D.length < j) → R'.getD j 0 = R.getD j 0) ∧ val ((R'.drop i).take (D.length + 1)) = r := by
  obtain ⟨R', rfl, hs⟩ := ofN_of (S := S) (fun j hj => by
    by_cases h1 : i ≤ j ∧ j ≤ i + D.length
    · have := h.digs (j - i) (by omega)
      rwa [show i + (j - i) = j by omega] at this
    · rw [h.same j (by omega), ofN_getD]
      have := getD_lt rs j
      omega)
  have hl := h.len
  rw [ofN_length, ofN_length] at hl
  refine ⟨R', rfl, hs, hl, fun j hj => ?_, ?_⟩
  · have := h.same j hj
    rw [ofN_getD, ofN_getD] at this
    exact Int.ofNat.inj this
  · have := h.eq
    rw [segI_ofN] at this
    exact Int.ofNat.inj this
end Go.Proofs.Ytebkpaonmeokgaa
