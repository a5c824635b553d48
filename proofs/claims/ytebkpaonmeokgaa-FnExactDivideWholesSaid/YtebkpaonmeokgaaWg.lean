/-
  Contracts: dividedBy where the divisor is greater, or of one limb. Conditions: the limbs can be read.
-/
import Derived.Test.YtebkpaonmeokgaaWf
import Derived.Test.YtebkpaonmeokgaaUe
import Derived.Test.YtebkpaonmeokgaaTg
namespace Go.Proofs.Ytebkpaonmeokgaa
set_option linter.unusedVariables false
open Go Go.RowKit

/-- Two slices of the call's own that share no memory. -/
def Apart (a b : Option Addr) (xs ys : List Int) : Prop := xs = [] ∨ ys = [] ∨ a ≠ b
/-- The call returned a quotient and a remainder. -/
def RetQR (q r : Nat) (w : World) (e : Ending) (w' : World) : Prop := ∃ a c a' c', e = .returned (.tuple #[.slice a (lim q).length c, .slice a' (lim r).length c']) ∧ (lim q).length ≤ c ∧ (lim r).length ≤ c' ∧ Own w' w.heap.size a (lim q) ∧ Own w' w.heap.size a' (lim r) ∧ Apart a a' (lim q) (lim r) ∧ Below w.heap.size w w'

set_option maxHeartbeats 400000 in
theorem iCloneV (a : Option Addr) (xs : List Int) (c : Nat) (w : World) (B : Nat) (hB : B ≤ w.heap.size) (hl : xs.length ≤ 8388608) (hx : Ints w B a xs) :
    Calls Try.prog 78 #[.slice a xs.length c] w fun e w' => ∃ v, e = .returned v ∧ OwnV w' w.heap.size v xs ∧ Below w.heap.size w w' := by
  have hnil := fun (W : World) (a : Option Addr) (n c : Nat) => Lib.run_eql_slice_nil W 54 2 a n c 0 0 Try.underlying54
  cases a with
  | none =>
    have h0 : xs = [] := by
      rcases Nat.eq_zero_or_pos xs.length with h | h
      · exact List.eq_nil_of_length_eq_zero h
      · obtain ⟨_, _, he, _⟩ := hx 0 h; cases he
    subst h0
    clear hx hl
    simp only [List.length_nil]
    go_enter Try.func78, Try.ntmps78
    go_wp2
    go_ret
    exact ⟨_, rfl, OwnV.nil _ _, (by repeat (first | exact Below.refl _ _ | assumption | refine Below.alloc ?_ (by simp <;> omega) _ | refine Below.setCell ?_ (by simp <;> omega) _ | refine below_drewN ?_ _))⟩
  | some ad =>
    have HX := Lib.hid hx
    have HL := Lib.hid hl
    clear hx hl
    go_enter Try.func78, Try.ntmps78
    go_wp2_with (at_builtin; refine wp_app rfl _ _ 54 rfl Try.underlying54 w.heap.size _ [] (OwnV.empty w _ (Nat.le_refl _)) rfl ad xs.length c xs rfl rfl (ints_add (HX.out.alloc hB _)) (by have := HL.out; simp; omega) (by simp) ?_; intro v' w' hown hgrow)
    have HO := Lib.hid hown
    have HB := Lib.hid ((Below.alloc (Below.refl w.heap.size w) (Nat.le_refl _) (.cells #[] 2)).grown hgrow (by simp) (fun g hg => by simp [Value.ownBlock] at hg; omega))
    obtain ⟨a', c', rfl, _, _, _⟩ := hown.parts
    clear hgrow hown
    go_wp2_with fail
    go_ret
    exact ⟨_, rfl, HO.out, HB.out⟩

set_option maxRecDepth 100000 in
set_option maxHeartbeats 1000000 in
theorem iDivLess (a b : Option Addr) (m n c1 c2 : Nat) (w : World) (B C : Nat) (hB : B ≤ w.heap.size) (hx : Ints w B a (lim m)) (hy : Ints w C b (lim n)) (hl : (lim m).length ≤ 1048000) (hl' : (lim n).length ≤ 1048000) (hlt : m < n) :
    Calls Try.prog 40 #[.slice a (lim m).length c1, .slice b (lim n).length c2] w (RetQR (m / n) (m % n) w) := by
  have HCMP := Lib.hid (iMagCompare a b m n c1 c2 w B C hx hy (by omega) (by omega))
  rw [cmpZ_lt (show (m : Int) < (n : Int) by omega)] at HCMP
  have HCL := Lib.hid (show ∀ W, Below w.heap.size w W → Calls Try.prog 78 #[.slice a (lim m).length c1] W fun e w' => ∃ a' c', e = .returned (.slice a' (lim m).length c') ∧ (lim m).length ≤ c' ∧ Own w' w.heap.size a' (lim m) ∧ Below w.heap.size w w' from
    fun W hW => (iClone a (lim m) c1 W B (by have := hW.size; omega) (by omega) (hx.below (hW.mono hB))).mono fun e w' ⟨a', c', he, hc, ho, hb⟩ => ⟨a', c', he, hc, ho.mono hW.size, hW.trans (hb.mono hW.size)⟩)
  have hq : m / n = 0 := Nat.div_eq_of_lt hlt
  have hr : m % n = m := Nat.mod_eq_of_lt hlt
  rw [hq, hr]
  have HT := Lib.hid (Below.refl w.heap.size w)
  clear hx hy hl hl' hlt hq hr hB
  go_enter Try.func40, Try.ntmps40
  go_wp2_with fail
  refine HCMP.out.mono ?_
  rintro e w1 ⟨q, rfl, rfl⟩
  go_wp2_with fail
  refine (HCL.out _ (below_drewN HT.out _)).mono ?_
  rintro e w2 ⟨a', c', rfl, hc, ho, hb⟩
  go_wp2_with fail
  go_ret2
  exact ⟨none, 0, a', c', by rw [lim_zero]; rfl, by rw [lim_zero]; exact Nat.le_refl _, hc, by rw [lim_zero]; exact Own.nil, ho, .inl lim_zero, hb⟩

theorem dig_one {n : Nat} (h : (dig n).length = 1) : n < 16777216 ∧ n ≠ 0 := by
  have h1 := dig_lt n
  rw [h] at h1
  refine ⟨by omega, ?_⟩
  rintro rfl
  rw [dig_zero] at h
  cases h
set_option maxRecDepth 100000 in
set_option maxHeartbeats 1000000 in
theorem iDivOne (a b : Option Addr) (m n c1 c2 : Nat) (w : World) (B C : Nat) (hB : B ≤ w.heap.size) (hC : C ≤ w.heap.size) (hx : Ints w B a (lim m)) (hy : Ints w C b (lim n)) (hl : (lim m).length ≤ 1048000) (hle : n ≤ m) (h1 : (dig n).length = 1) :
    Calls Try.prog 40 #[.slice a (lim m).length c1, .slice b (lim n).length c2] w (RetQR (m / n) (m % n) w) := by
  obtain ⟨hn, hn0⟩ := dig_one h1
  have h1' : (lim n).length = 1 := by rw [lim_length, h1]
  have HCMP := Lib.hid (iMagCompare a b m n c1 c2 w B C hx hy (by omega) (by omega))
  have hcm : cmpZ (m : Int) (n : Int) = 0 ∨ cmpZ (m : Int) (n : Int) = 1 := by
    rcases Nat.lt_or_ge n m with h | h
    · right; exact cmpZ_gt (by omega)
    · left; exact cmpZ_eq (by omega)
  obtain ⟨z, hz⟩ : ∃ z, z = cmpZ (m : Int) (n : Int) := ⟨_, rfl⟩
  rw [← hz] at HCMP hcm
  have hz0 : decide (z < 0) = false := decide_eq_false (by omega)
  have hg : (lim n)[0]'(by omega) = ((n % 16777216 : Nat) : Int) := by
    have : (lim n).getD 0 0 = ((n % 16777216 : Nat) : Int) := by rw [lim, dig_pos hn0]; rfl
    rw [← this]
    simp [List.getD, List.getElem?_eq_getElem (show 0 < (lim n).length by omega)]
  obtain ⟨c, o, hb, hcC, hcell⟩ := hy 0 (by omega)
  subst hb
  rw [hg, Nat.mod_eq_of_lt hn, Nat.add_zero] at hcell
  have HPT := Lib.hid (show ∀ W, Below w.heap.size w W → Calls Try.prog 79 #[.slice a (lim m).length c1, .int .i64 (n : Int)] W fun e w' => ∃ a' c', e = .returned (.tuple #[.slice a' (lim (m / n)).length c', .int .i64 ((m % n : Nat) : Int)]) ∧ (lim (m / n)).length ≤ c' ∧ Own2 w' w.heap.size w'.heap.size a' (lim (m / n)) ∧ Below w.heap.size w w' from
    fun W hW => (iByPart a m c1 n W B (by have := hW.size; omega) (hx.below (hW.mono hB)) (by omega) (by omega) (by omega)).mono fun e w' ⟨a', c', he, hc, ho, hb⟩ => ⟨a', c', he, hc, (Own2.of (ho.mono hW.size)), hW.trans (hb.mono hW.size)⟩)
  have hrl : m % n < n := Nat.mod_lt _ (by omega)
  have HMG := Lib.hid (show ∀ W, Calls Try.prog 57 #[.int .u64 ((m % n : Nat) : Int)] W (RetL (lim (m % n)) W) from fun W => iMagOf (m % n) (by omega) W)
  obtain ⟨q, hq⟩ : ∃ q, q = m / n := ⟨_, rfl⟩
  obtain ⟨r, hr⟩ : ∃ r, r = m % n := ⟨_, rfl⟩
  rw [← hq, ← hr] at HPT ⊢
  rw [← hr] at HMG hrl
  have hrI : (r : Int) ≤ 9223372036854775807 := by omega
  have hru : IntKind.u64.wrap (r : Int) = (r : Int) := by rw [IntKind.wrap_u64]; omega
  have HT := Lib.hid (Below.refl w.heap.size w)
  rw [h1'] at HCMP ⊢
  clear hx hy hl hle hn hn0 hg hrl hq hr hB hC h1 h1' hz hcm hcC
  go_enter Try.func40, Try.ntmps40
  go_wp2_with fail
  refine HCMP.out.mono ?_
  rintro e w1 ⟨k, rfl, rfl⟩
  go_wp2_with fail
  refine (HPT.out _ (below_drewN HT.out _)).mono ?_
  rintro e w2 ⟨a1, k1, rfl, hk1, ho1, hb1⟩
  go_wp2_with fail
  refine (HMG.out w2).mono ?_
  rintro e w3 ⟨a2, k2, rfl, hk2, ho2, hb2⟩
  have HEND := Lib.hid (show RetQR q r w (.returned (.tuple #[.slice a1 (lim q).length k1, .slice a2 (lim r).length k2])) w3 from
    ⟨a1, k1, a2, k2, rfl, hk1, hk2, (ho1.below hb2 (Nat.le_refl _)).own, ho2.mono hb1.size, by
      rcases ho1 with h | ⟨g, rfl, _, hg, _⟩
      · exact .inl h
      · rcases ho2 with h | ⟨g2, rfl, hg2, _⟩
        · exact .inr (.inl h)
        · refine .inr (.inr fun e => ?_)
          simp at e
          try omega, hb1.trans (hb2.mono hb1.size)⟩)
  clear hk1 ho1 hb1 hk2 ho2 hb2
  go_wp2_with fail
  go_ret2
  exact HEND.out
end Go.Proofs.Ytebkpaonmeokgaa
