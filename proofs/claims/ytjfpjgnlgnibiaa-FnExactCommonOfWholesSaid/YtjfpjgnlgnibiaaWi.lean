/-
  Contract: common, the greatest common divisor of two absolute values. Conditions: the limbs can be read.
-/
import Derived.Test.YtjfpjgnlgnibiaaWh
namespace Go.Proofs.Ytjfpjgnlgnibiaa
set_option linter.unusedVariables false
open Go Go.RowKit

theorem ints_unique {w : World} {B B' : Nat} {a : Option Addr} {xs ys : List Int} (h : Ints w B a xs) (k : Ints w B' a ys) (hl : xs.length = ys.length) : xs = ys := by
  refine List.ext_getElem hl fun i h1 h2 => ?_
  obtain ⟨c, o, rfl, _, hx⟩ := h i h1
  obtain ⟨c', o', e, _, hy⟩ := k i h2
  cases e
  rw [hx] at hy
  injection hy with hy
  injection hy with _ hy
/-- The number whose limbs a slice holds. -/
noncomputable def magAt (v : Value) (w : World) : Nat :=
  @dite _ (∃ (y : Nat) (a : Option Addr) (c B : Nat), v = .slice a (lim y).length c ∧ Ints w B a (lim y)) (Classical.propDecidable _) (fun h => Classical.choose h) (fun _ => 0)
theorem magAt_eq {w : World} {y : Nat} {a : Option Addr} {c B : Nat} (h : Ints w B a (lim y)) : magAt (.slice a (lim y).length c) w = y := by
  have hex : ∃ (z : Nat) (a' : Option Addr) (c' B : Nat), Value.slice a (lim y).length c = .slice a' (lim z).length c' ∧ Ints w B a' (lim z) := ⟨y, a, c, B, rfl, h⟩
  unfold magAt
  rw [dif_pos hex]
  obtain ⟨a', c', B', he, h'⟩ := Classical.choose_spec hex
  obtain ⟨z, hz⟩ : ∃ z, z = Classical.choose hex := ⟨_, rfl⟩
  rw [← hz] at he h' ⊢
  injection he with e1 e2 e3
  subst e1
  exact lim_inj (ints_unique h' h e2.symm)

set_option maxRecDepth 100000 in
set_option maxHeartbeats 1000000 in
theorem iCommon (a b : Option Addr) (m n c1 c2 : Nat) (w : World) (B C : Nat) (hB : B ≤ w.heap.size) (hC : C ≤ w.heap.size) (hx : Ints w B a (lim m)) (hy : Ints w C b (lim n)) (hl : (lim m).length ≤ 1048000) (hl' : (lim n).length ≤ 1048000) :
    Calls Try.prog 72 #[.slice a (lim m).length c1, .slice b (lim n).length c2] w (RetL (lim (Nat.gcd m n)) w) := by
  have HX := Lib.hid (hx.more hB)
  have HY := Lib.hid (hy.more hC)
  obtain ⟨g, hg⟩ : ∃ g, g = Nat.gcd m n := ⟨_, rfl⟩
  rw [← hg]
  have HL := Lib.hid (show (lim m).length ≤ 1048000 ∧ (lim n).length ≤ 1048000 ∧ Nat.gcd m n = g from ⟨hl, hl', hg.symm⟩)
  have HT := Lib.hid (Below.refl w.heap.size w)
  clear hx hy hl hl' hB hC hg
  go_enter Try.func72, Try.ntmps72
  go_wp2
  go_loopw [0, 1] (fun p q wr => ∃ (x y : Nat) (a b : Option Addr) (c d : Nat), p = .slice a (lim x).length c ∧ q = .slice b (lim y).length d ∧ Hid (Ints wr wr.heap.size a (lim x)) ∧ Hid (Ints wr wr.heap.size b (lim y)) ∧ Hid ((lim x).length ≤ 1048000 ∧ (lim y).length ≤ 1048000 ∧ Nat.gcd x y = g) ∧ Hid (Below w.heap.size w wr)) (fun _ q wr => magAt q wr)
  case atStart => exact ⟨m, n, a, b, c1, c2, rfl, rfl, HX, HY, HL, HT⟩
  case round =>
    obtain ⟨x, y, a, b, c, d, rfl, rfl, hx, hy, hh, hb⟩ := hrel
    by_cases h0 : y = 0
    · subst h0
      have hg : lim x = lim g := by
        have := hh.out.2.2
        rw [Nat.gcd_zero_right] at this
        rw [this]
      have HCL := Lib.hid (show Calls Try.prog 83 #[.slice a (lim x).length c] wr fun e w' => ∃ a' c', e = .returned (.slice a' (lim x).length c') ∧ Hid (RetL (lim g) w (.returned (.slice a' (lim x).length c')) w') from
        (iClone a (lim x) c wr _ (Nat.le_refl _) (by have := hh.out.1; omega) hx.out).mono fun e w' ⟨a', c', he, hc, ho, hb'⟩ => ⟨a', c', he, Lib.hid ⟨a', c', by rw [← hg], by rw [← hg]; exact hc, by rw [← hg]; exact ho.mono hb.out.size, hb.out.trans (hb'.mono hb.out.size)⟩⟩)
      have hl0 : (lim 0).length = 0 := by rw [lim_zero]; rfl
      rw [hl0]
      obtain ⟨lx, hlx⟩ : ∃ l, l = (lim x).length := ⟨_, rfl⟩
      rw [← hlx] at HCL ⊢
      clear hx hy hh hg hl0 hlx
      go_wp2_with fail
      refine HCL.out.mono ?_
      rintro e w2 ⟨a', c', rfl, HR⟩
      go_wp2_with fail
      go_ret
      exact HR.out
    · have hyl : 0 < (lim y).length := by rw [lim_length]; exact dig_length_pos h0
      have HDIV := Lib.hid (iDividedBy a b x y c d wr _ _ (Nat.le_refl _) (Nat.le_refl _) hx.out hy.out hh.out.1 hh.out.2.1 h0)
      have HM := Lib.hid (show magAt (.slice b (lim y).length d) wr = y from magAt_eq hy.out)
      have HLT := Lib.hid (show x % y < y from Nat.mod_lt _ (by omega))
      have HG := Lib.hid (show Nat.gcd y (x % y) = g by rw [← hh.out.2.2, Nat.gcd_comm x y, Nat.gcd_rec y x, Nat.gcd_comm])
      have HLL := Lib.hid (show (lim (x % y)).length ≤ 1048000 from Nat.le_trans (lim_le_of_le (Nat.le_of_lt HLT.out)) hh.out.2.1)
      obtain ⟨q, hq⟩ : ∃ q, q = x / y := ⟨_, rfl⟩
      obtain ⟨r, hr⟩ : ∃ r, r = x % y := ⟨_, rfl⟩
      rw [← hq, ← hr] at HDIV
      rw [← hr] at HLT HG HLL
      have hyb : (lim y).length ≤ 1048000 := hh.out.2.1
      have HYB := Lib.hid hyb
      clear hx hq hr hh h0
      have hy2 := hy.out
      have HYF := Lib.hid (show ∀ w2, Below wr.heap.size wr w2 → Ints w2 w2.heap.size b (lim y) from fun w2 hb2 => (hy2.below hb2).more hb2.size)
      clear hy hy2
      have hyI : (0 : Int) < ((lim y).length : Int) := by omega
      go_wp2_with fail
      refine HDIV.out.mono ?_
      rintro e w2 ⟨a1, e1, a2, e2, rfl, k1, k2, o1, o2, hap, hb2⟩
      have HO := Lib.hid o2.ints
      have HB2 := Lib.hid hb2
      clear k1 k2 o1 o2 hap hb2
      go_wp2_with fail
      go_roundw
      case rel => exact ⟨y, r, b, a2, d, e2, rfl, rfl, Lib.hid (HYF.out _ HB2.out), HO, Lib.hid ⟨HYB.out, HLL.out, HG.out⟩, Lib.hid (hb.out.trans (HB2.out.mono hb.out.size))⟩
      case measure =>
        rw [HM.out, magAt_eq HO.out]
        exact HLT.out
end Go.Proofs.Ytjfpjgnlgnibiaa
