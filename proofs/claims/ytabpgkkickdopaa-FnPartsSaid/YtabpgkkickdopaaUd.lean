/-
  Contracts: the length of whole numbers, of the program and of the model. Conditions: the limbs can be read.
-/
import Derived.Test.YtabpgkkickdopaaTg
import Derived.Shelf.Strconv.Itoa0
namespace Go.Proofs.Ytabpgkkickdopaa
set_option linter.unusedVariables false
open Go Go.RowKit

theorem tab_fin : ∀ n : Fin 256, (Lib.len8tab[n.val]'(by have h : Lib.len8tab.size = 256 := by decide +kernel
                                                         omega)).toNat = Lib.bitLen n.val := by decide +kernel
theorem tab_len (y : Int) (h0 : 0 ≤ y) (h1 : y < 256) (h : y.toNat < Lib.len8tab.size) : wrap64 ((Lib.len8tab[y.toNat]'h).toNat : Int) = (Lib.bitLen y.toNat : Int) ∧ Lib.bitLen y.toNat ≤ 8 := by
  have e := tab_fin ⟨y.toNat, by omega⟩
  have l := Lib.bitLen_le8 ⟨y.toNat, by omega⟩
  simp only at e l
  rw [e]
  exact ⟨by unfold wrap64; omega, l⟩

/-- The number of bits, by the limbs. -/
def blen (n : Nat) : Int := if n = 0 then 0 else 24 * (((dig n).length : Int) - 1) + (Lib.bitLen ((dig n).getD ((dig n).length - 1) 0) : Int)
theorem blen_pos {n : Nat} (h : n ≠ 0) : blen n = 24 * (((dig n).length : Int) - 1) + (Lib.bitLen ((dig n).getD ((dig n).length - 1) 0) : Int) := if_neg h
theorem bitLen_le24 {x : Nat} (h : x < 16777216) : Lib.bitLen x ≤ 24 := by
  by_cases h1 : 65536 ≤ x
  · have := Lib.bitLen_shift16 x h1 (by omega)
    have := Lib.bitLen_le8 ⟨x / 65536, by omega⟩
    simp only at this
    omega
  · by_cases h2 : 256 ≤ x
    · have := Lib.bitLen_shift8 x h2 (by omega)
      have := Lib.bitLen_le8 ⟨x / 256, by omega⟩
      simp only at this
      omega
    · have := Lib.bitLen_le8 ⟨x, by omega⟩
      simp only at this
      omega

/-- The last limb, as it lies in memory. -/
theorem last_limb {n : Nat} (h : n ≠ 0) {w : World} {B : Nat} {a : Option Addr} (hx : Ints w B a (lim n)) : ∃ (x : Nat) (c o : Nat), x = (dig n).getD ((dig n).length - 1) 0 ∧ x < 16777216 ∧ x ≠ 0 ∧ a = some ⟨c, o, none⟩ ∧ c < B ∧ w.cell? ⟨c, o + ((lim n).length - 1), none⟩ = some (.int .i64 x) := by
  have hp := dig_length_pos h
  obtain ⟨c, o, ha, hc, hcell⟩ := hx ((lim n).length - 1) (by rw [lim_length]; omega)
  have hlast := (norm_dig n).2 hp
  have e : (dig n).getD ((dig n).length - 1) 0 = (dig n)[(dig n).length - 1] := getD_of_lt (by omega)
  refine ⟨_, c, o, rfl, ?_, ?_, ha, hc, ?_⟩
  · rw [e]; exact small_dig n _ _
  · rw [e]; exact hlast
  · rw [hcell]
    simp only [lim, ofN_at, ofN_length]
    rw [e]

noncomputable def lenR (s : Int) (xs : List Int) : Int × Int := @ite _ (IsWh s xs) (Classical.propDecidable _) (blen (val (xs.map Int.toNat)), 0) (0, 1)
theorem lenR_yes {s : Int} {xs : List Int} (h : IsWh s xs) : lenR s xs = (blen (val (xs.map Int.toNat)), 0) := by unfold lenR; rw [if_pos h]
theorem lenR_no {s : Int} {xs : List Int} (h : ¬ IsWh s xs) : lenR s xs = (0, 1) := by unfold lenR; rw [if_neg h]
theorem val_lim (n : Nat) : val ((lim n).map Int.toNat) = n := by
  have := wv_lim 1 n
  unfold wv at this
  omega

theorem one_box (w : World) (t : TypeId) (p : Array Value) : BoxAt (w.alloc (.cells p t)) w.heap.size t p ∧ Below w.heap.size w (w.alloc (.cells p t)) ∧ (w.alloc (.cells p t)).heap.size = w.heap.size + 1 :=
  ⟨BoxAt.new w t p, (Below.refl _ w).alloc (Nat.le_refl _) _, by simp⟩

end Go.Proofs.Ytabpgkkickdopaa
