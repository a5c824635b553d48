/-
  Contract: (*division).take. Conditions: the limbs can be read, the rest lies in a row of its own.
-/
import Derived.Test.YtebkpaonmeokgaaUn
import Derived.Deep.AppendLies
import Derived.BigRegion
namespace Go.Proofs.Ytebkpaonmeokgaa
set_option linter.unusedVariables false
open Go Go.RowKit

def segI (R : List Int) (i : Nat) : Nat → Int
  | 0 => 0
  | k + 1 => segI R i k + 16777216 ^ k * R.getD (i + k) 0
theorem segI_same {R S : List Int} {i : Nat} : ∀ {k : Nat}, (∀ j, j < k → S.getD (i + j) 0 = R.getD (i + j) 0) → segI S i k = segI R i k
  | 0, _ => rfl
  | k + 1, h => by rw [segI, segI, segI_same (fun j hj => h j (by omega)), h k (by omega)]
theorem getD_set_ne {R : List Int} {a b : Nat} (x : Int) (h : a ≠ b) : (R.set a x).getD b 0 = R.getD b 0 := by
  simp [List.getD, List.getElem?_set_ne h]
theorem getD_set_eq {R : List Int} {a : Nat} (x : Int) (h : a < R.length) : (R.set a x).getD a 0 = x := by
  simp [List.getD, List.getElem?_set_self h]
/-- How often the divisor may be taken. -/
def Times (t : Int) : Prop := t = -1 ∨ (0 ≤ t ∧ t ≤ 16777216)
structure TakeInv (R : List Int) (D : List Nat) (t : Int) (i : Nat) (S : List Int) (k : Nat) (c : Int) : Prop where
  len : S.length = R.length
  same : ∀ j, (j < i ∨ i + k ≤ j) → S.getD j 0 = R.getD j 0
  digs : ∀ j, j < k → 0 ≤ S.getD (i + j) 0 ∧ S.getD (i + j) 0 < 16777216
  eq : segI S i k + 16777216 ^ k * c = segI R i k - t * (val (D.take k) : Int)
  lo : -16777216 ≤ c
  hi : c ≤ 1
theorem takeInv_start (R : List Int) (D : List Nat) (t : Int) (i : Nat) : TakeInv R D t i R 0 0 :=
  ⟨rfl, fun _ _ => rfl, fun j hj => absurd hj (Nat.not_lt_zero _), by
    have e : ((val (D.take 0) : Nat) : Int) = 0 := by rw [List.take_zero]; rfl
    rw [e, Int.mul_zero, Int.mul_zero, Int.add_zero, Int.sub_zero], by omega, by omega⟩
theorem take_part {t : Int} (ht : Times t) {d : Nat} (hd : d < 16777216) {r c : Int} (hr : 0 ≤ r ∧ r < 16777216) (hc : -16777216 ≤ c ∧ c ≤ 1) :
    -281474976710656 ≤ c + (r - (d : Int) * t) ∧ c + (r - (d : Int) * t) ≤ 33554431 ∧ -281474959933440 ≤ r - (d : Int) * t ∧ r - (d : Int) * t ≤ 33554430 ∧ -16777216 ≤ (d : Int) * t ∧ (d : Int) * t ≤ 281474959933440 := by
  rcases ht with rfl | ⟨h0, h1⟩
  · omega
  · have h2 : 0 ≤ (d : Int) * t := Int.mul_nonneg (by omega) h0
    have h3 : (d : Int) * t ≤ 16777215 * 16777216 := Int.mul_le_mul (by omega) h1 h0 (by omega)
    omega
theorem takeInv_step {R S : List Int} {D : List Nat} {t c : Int} {i k : Nat} (h : TakeInv R D t i S k c) (ht : Times t) (hD : Small D) (hk : k < D.length) (hl : i + k < R.length) (hr : 0 ≤ R.getD (i + k) 0 ∧ R.getD (i + k) 0 < 16777216) :
    TakeInv R D t i (S.set (i + k) ((c + (R.getD (i + k) 0 - (D[k] : Int) * t)) % 16777216)) (k + 1) ((c + (R.getD (i + k) 0 - (D[k] : Int) * t)) / 16777216) := by
  have hp := take_part ht (hD k hk) hr ⟨h.lo, h.hi⟩
  obtain ⟨x, hx⟩ : ∃ x, x = c + (R.getD (i + k) 0 - (D[k] : Int) * t) := ⟨_, rfl⟩
  rw [← hx] at hp ⊢
  have hlS : i + k < S.length := by rw [h.len]; exact hl
  refine ⟨by rw [List.length_set]; exact h.len, fun j hj => ?_, fun j hj => ?_, ?_, by omega, by omega⟩
  · rw [getD_set_ne _ (by omega)]
    exact h.same j (by omega)
  · by_cases hjk : j = k
    · subst hjk
      rw [getD_set_eq _ hlS]
      omega
    · rw [getD_set_ne _ (by omega)]
      exact h.digs j (by omega)
  · have e := h.eq
    have e2 : segI (S.set (i + k) (x % 16777216)) i k = segI S i k := segI_same fun j hj => getD_set_ne _ (by omega)
    have e3 : ((val (D.take (k + 1)) : Nat) : Int) = (val (D.take k) : Int) + 16777216 ^ k * (D[k] : Int) := by
      rw [val_take_getD, getD_of_lt hk, Int.natCast_add, Int.natCast_mul, Int.natCast_pow]
      congr 1
    rw [segI, segI, e2, getD_set_eq _ hlS, e3, Int.pow_succ]
    have e4 : x % 16777216 + 16777216 * (x / 16777216) = x := Int.emod_add_mul_ediv x 16777216
    generalize x % 16777216 = u at *
    generalize x / 16777216 = v at *
    generalize (16777216 : Int) ^ k = P at *
    generalize segI S i k = a1 at *
    generalize segI R i k = a2 at *
    generalize R.getD (i + k) 0 = r at *
    generalize ((val (D.take k) : Nat) : Int) = w at *
    generalize (D[k] : Int) = d at *
    grind

/-- The divisor was taken off, t times. -/
def RetT (gr i n : Nat) (R : List Int) (v t : Int) (w : World) (w' : World) : Prop := ∃ S : List Int, S.length = R.length ∧ (∀ j, (j < i ∨ i + n < j) → S.getD j 0 = R.getD j 0) ∧ (∀ j, j < n → 0 ≤ S.getD (i + j) 0 ∧ S.getD (i + j) 0 < 16777216) ∧ segI S i (n + 1) = segI R i (n + 1) - t * v ∧ -16777216 + R.getD (i + n) 0 ≤ S.getD (i + n) 0 ∧ S.getD (i + n) 0 ≤ R.getD (i + n) 0 + 1 ∧ RowI w' gr S ∧ w.grownBy w' (some gr)

set_option maxRecDepth 100000 in
set_option maxHeartbeats 4000000 in
theorem iTake (gd gr i : Nat) (D : List Nat) (R : List Int) (t : Int) (da qa : Option Addr) (dc ql qc rc : Nat) (w : World) (B : Nat) (hbox : BoxAt w gd 97 #[.slice da D.length dc, .slice qa ql qc, .slice (some ⟨gr, 0, none⟩) R.length rc])
    (hx : Ints w B da (ofN D)) (hB : B ≤ gr) (hgd : gd ≠ gr) (hrow : RowI w gr R) (sD : Small D) (ht : Times t) (hl : R.length ≤ 1048576) (hi : i + D.length < R.length)
    (hr : ∀ j, j < D.length → 0 ≤ R.getD (i + j) 0 ∧ R.getD (i + j) 0 < 16777216) (htop : -33554432 ≤ R.getD (i + D.length) 0 ∧ R.getD (i + D.length) 0 ≤ 33554432) :
    Calls Try.prog 106 #[.pointer (some ⟨gd, 0, none⟩), .int .i64 (i : Int), .int .i64 t] w fun e w' => e = .returned (.tuple #[]) ∧ RetT gr i D.length R (val D) t w w' := by
  have HX := Lib.hid hx
  have HBX := Lib.hid hbox
  have HR0 := Lib.hid hrow
  have HT := Lib.hid ht
  have SD := Lib.hid sD
  have HRR := Lib.hid hr
  have HTOP := Lib.hid htop
  have HI := Lib.hid hi
  have c0 := hbox.cell 0
  have c2 := hbox.cell 2
  simp at c0 c2
  have hdl : (D.length : Int) ≤ 1048576 := by omega
  have hil : (i : Int) ≤ 1048576 := by omega
  have htb : (-1 : Int) ≤ t ∧ t ≤ 16777216 := by unfold Times at ht; omega
  have HTB := Lib.hid htb
  have hm := i64_mask24
  clear hx hbox hrow ht sD hr htop hi htb hl
  go_enter Try.func106, Try.ntmps106
  go_wp2
  go_loopw [14, 6] (fun a b wr => ∃ (k : Nat) (S : List Int) (c : Int), k ≤ D.length ∧ a = .int .i64 (k : Int) ∧ b = .int .i64 c ∧ Hid (TakeInv R D t i S k c) ∧ RowI wr gr S ∧ w.grownBy wr (some gr)) (fun a _ _ => D.length - (intOf a).toNat)
  case atStart => exact ⟨0, R, 0, Nat.zero_le _, rfl, rfl, takeInv_start R D t i, HR0.out, World.grownBy.refl _ _⟩
  case round =>
    obtain ⟨k, S, c, hk, rfl, rfl, hinv, hrow, hgr⟩ := hrel
    have HS := Lib.hid hrow
    have HG := Lib.hid hgr
    have HB2 := Lib.hid (HBX.out.grown hgr (by simp; omega))
    have d0 := HB2.out.cell 0
    have d2 := HB2.out.cell 2
    simp at d0 d2
    have hlS := hinv.out.len
    clear c0 c2 hrow hgr
    by_cases hkn : k < D.length
    · obtain ⟨b, o, ha, hcB, hcell⟩ := HX.out k (by rw [ofN_length]; exact hkn)
      rw [ofN_at] at hcell
      subst ha
      obtain ⟨d, hd⟩ : ∃ d : Nat, d = D[k] := ⟨_, rfl⟩
      rw [← hd] at hcell
      have hx1 := (HG.out.cell_far ⟨b, o + k, none⟩ (by have := HR0.out.lt; show b < _; omega) (by simp; omega)).trans hcell
      clear hcell
      have hik : i + k < S.length := by have := HI.out; omega
      have hcR := HS.out.cell (i + k) hik
      have hfR := HS.out.frozen (i + k)
      have hsame := hinv.out.same (i + k) (.inr (Nat.le_refl _))
      have hge : S[i + k] = S.getD (i + k) 0 := by simp [List.getD, List.getElem?_eq_getElem hik]
      obtain ⟨r, hr⟩ : ∃ r, r = R.getD (i + k) 0 := ⟨_, rfl⟩
      rw [hge, hsame, ← hr] at hcR
      have hrb := HRR.out k hkn
      rw [← hr] at hrb
      have hst := takeInv_step hinv.out HT.out SD.out hkn (by rw [← hlS]; exact hik) (by rw [← hr]; exact hrb)
      rw [← hr, ← hd] at hst
      have hp := take_part HT.out (SD.out k hkn) hrb ⟨hinv.out.lo, hinv.out.hi⟩
      rw [← hd] at hp
      have hclo := hinv.out.lo
      have hchi := hinv.out.hi
      obtain ⟨P, hP⟩ : ∃ P, P = (d : Int) * t := ⟨_, rfl⟩
      rw [← hP] at hst hp
      have k1 : wrap64 ((d : Int) * t) = P := by rw [← hP]; unfold wrap64; omega
      have k2 : wrap64 (r - P) = r - P := by unfold wrap64; omega
      have k3 : wrap64 (c + (r - P)) = c + (r - P) := by unfold wrap64; omega
      have HST := Lib.hid hst
      have hidx : ((i : Int) + (k : Int)).toNat = i + k := by omega
      have hidx2 : (i : Int) + (k : Int) < (R.length : Int) := by have := HI.out; omega
      have hidx3 : (0 : Int) ≤ (i : Int) + (k : Int) := by omega
      have hkI : (k : Int) < (D.length : Int) := by omega
      have HIK := Lib.hid hik
      clear hd hge hsame hr hrb hst hp hclo hchi hP hlS hik
      go_wp2
      go_roundw
      case rel =>
        refine ⟨k + 1, _, _, by omega, by go_num, rfl, HST, ?_, grown_set HG.out _ _⟩
        exact HS.out.set_ (i + k) HIK.out _
      case measure => simp [intOf]; omega
    · obtain rfl : k = D.length := by omega
      have hik : i + D.length < S.length := by have := HI.out; omega
      have hcR := HS.out.cell (i + D.length) hik
      have hfR := HS.out.frozen (i + D.length)
      have hsame := hinv.out.same (i + D.length) (.inr (Nat.le_refl _))
      have hge : S[i + D.length] = S.getD (i + D.length) 0 := by simp [List.getD, List.getElem?_eq_getElem hik]
      obtain ⟨r, hr⟩ : ∃ r, r = R.getD (i + D.length) 0 := ⟨_, rfl⟩
      rw [hge, hsame, ← hr] at hcR
      have hrb := HTOP.out
      rw [← hr] at hrb
      have hclo := hinv.out.lo
      have hchi := hinv.out.hi
      have k3 : wrap64 (r + c) = r + c := by unfold wrap64; omega
      have hidx : ((i : Int) + (D.length : Int)).toNat = i + D.length := by omega
      have hidx2 : (i : Int) + (D.length : Int) < (R.length : Int) := by have := HI.out; omega
      have hidx3 : (0 : Int) ≤ (i : Int) + (D.length : Int) := by omega
      have HEND := Lib.hid (show RetT gr i D.length R (val D) t w (wr.setCell ⟨gr, i + D.length, none⟩ (.int .i64 (r + c))).drew from by
        refine ⟨S.set (i + D.length) (r + c), by rw [List.length_set]; exact hlS, fun j hj => ?_, fun j hj => ?_, ?_, ?_, ?_, (HS.out.set_ _ hik _).drew, grown_drewN (grown_set HG.out _ _) 1⟩
        · rw [getD_set_ne _ (by omega)]; exact hinv.out.same j (by omega)
        · rw [getD_set_ne _ (by omega)]; exact hinv.out.digs j hj
        · have e := hinv.out.eq
          rw [List.take_length] at e
          have e2 : segI (S.set (i + D.length) (r + c)) i D.length = segI S i D.length := segI_same fun j hj => getD_set_ne _ (by omega)
          rw [segI, segI, e2, getD_set_eq _ hik, ← hr, Int.mul_add]
          omega
        · rw [getD_set_eq _ hik, ← hr]; omega
        · rw [getD_set_eq _ hik, ← hr]; omega)
      clear hge hsame hr hrb hclo hchi hlS hik hinv
      go_wp2
      go_region
      all_goals
        refine bodyPost_end (v := .tuple #[]) (by simp [results, Try.results106, go_sem]) rfl ?_
        exact ⟨rfl, HEND.out⟩
end Go.Proofs.Ytebkpaonmeokgaa
