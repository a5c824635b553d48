/-
  Limbs as integers in memory; the leaf contracts of magnitudes: trimmed, size, signed, limitWhole. Conditions: the limbs can be read.
-/
import Derived.Test.YtabpgkkickdopaaMh
import Derived.Laws.BitsLemmas
namespace Go.Proofs.Ytabpgkkickdopaa
set_option linter.unusedVariables false
open Go Go.RowKit

def ofN (L : List Nat) : List Int := L.map (fun (x : Nat) => (x : Int))
theorem ofN_length (L : List Nat) : (ofN L).length = L.length := by simp [ofN]
theorem ofN_at (L : List Nat) (i : Nat) (h : i < (ofN L).length) : (ofN L)[i] = ((L[i]'(by simpa [ofN] using h) : Nat) : Int) := by simp [ofN]
theorem ofN_set (L : List Nat) (i x : Nat) : (ofN L).set i (x : Int) = ofN (L.set i x) := by simp [ofN, List.map_set]
theorem ofN_take (L : List Nat) (n : Nat) : (ofN L).take n = ofN (L.take n) := by simp [ofN, List.map_take]
theorem ofN_zeros (n : Nat) : ofN (List.replicate n 0) = List.replicate n 0 := by simp [ofN]
theorem ofN_nil : ofN [] = [] := rfl
theorem ofN_append (L M : List Nat) : ofN (L ++ M) = ofN L ++ ofN M := by simp [ofN]
theorem ofN_inj {L M : List Nat} (h : ofN L = ofN M) : L = M := by
  apply List.ext_getElem
  · have := congrArg List.length h; simpa [ofN] using this
  · intro i h1 h2
    have : (ofN L)[i]'(by rw [ofN_length]; exact h1) = (ofN M)[i]'(by rw [ofN_length]; exact h2) := by simp only [h]
    rw [ofN_at, ofN_at] at this
    omega
/-- The limbs of n, as they lie in memory. -/
def lim (n : Nat) : List Int := ofN (dig n)
theorem lim_length (n : Nat) : (lim n).length = (dig n).length := ofN_length _
theorem lim_zero : lim 0 = [] := by rw [lim, dig_zero]; rfl
theorem lim_inj {m n : Nat} (h : lim m = lim n) : m = n := by
  have := ofN_inj h
  rw [← val_dig m, ← val_dig n, this]
theorem lim_len_zero {n : Nat} : (lim n).length = 0 ↔ n = 0 := by
  rw [lim_length]
  constructor
  · intro h; exact (dig_nil_iff n).1 (List.eq_nil_of_length_eq_zero h)
  · intro h; subst h; rw [dig_zero]; rfl

/-- A whole number is a sign and the limbs of a number. -/
theorem isWh_of {s : Int} {xs : List Int} (h : IsWh s xs) : ∃ n, xs = lim n ∧ (lim n).length ≤ 200 ∧ ((n = 0 ∧ s = 0) ∨ (n ≠ 0 ∧ (s = 1 ∨ s = -1))) := by
  rcases h with ⟨h0, hs⟩ | ⟨hl, ⟨hp, hlast⟩, hb, hs⟩
  · exact ⟨0, by rw [lim_zero]; exact List.eq_nil_of_length_eq_zero h0, by rw [lim_zero]; simp, .inl ⟨rfl, hs⟩⟩
  · have e : xs = ofN (xs.map Int.toNat) := by
      apply List.ext_getElem
      · simp [ofN]
      · intro i h1 h2
        rw [ofN_at]
        simp only [List.getElem_map]
        have := (hb i h1).1
        omega
    have hn : Norm (xs.map Int.toNat) := by
      refine ⟨fun i hi => ?_, fun hl0 => ?_⟩
      · simp only [List.getElem_map]
        have := hb i (by simpa using hi)
        omega
      · simp only [List.getElem_map, List.length_map]
        have := (hb (xs.length - 1) (by omega)).1
        omega
    have e2 : xs = lim (val (xs.map Int.toNat)) := by rw [lim, dig_val hn]; exact e
    refine ⟨_, e2, by rw [← e2]; exact hl, .inr ⟨fun h => ?_, hs⟩⟩
    rw [h, lim_zero] at e2
    rw [e2] at hp
    simp at hp
theorem isWh_lim {s : Int} {n : Nat} (hl : (lim n).length ≤ 200) (h : (n = 0 ∧ s = 0) ∨ (n ≠ 0 ∧ (s = 1 ∨ s = -1))) : IsWh s (lim n) := by
  rcases h with ⟨rfl, hs⟩ | ⟨hn, hs⟩
  · exact .inl ⟨by rw [lim_zero]; rfl, hs⟩
  · have hp : 0 < (dig n).length := dig_length_pos hn
    refine .inr ⟨hl, ⟨by rw [lim_length]; exact hp, ?_⟩, fun i hi => ?_, hs⟩
    · have := (norm_dig n).2 hp
      simp only [lim, ofN_at, ofN_length]
      omega
    · simp only [lim, ofN_at]
      have := small_dig n i (by rw [lim_length] at hi; exact hi)
      omega
theorem isWh_lim_no {s : Int} {n : Nat} (hl : 200 < (lim n).length) : ¬ IsWh s (lim n) := fun h => by
  rcases h with h | h
  · omega
  · have := h.1; omega

/-- What signed makes of a sign and limbs. -/
def sgnOf (s : Int) (n : Nat) : Int := if n = 0 then 0 else s
theorem sgnOf_zero (s : Int) : sgnOf s 0 = 0 := if_pos rfl
theorem sgnOf_pos {s : Int} {n : Nat} (h : n ≠ 0) : sgnOf s n = s := if_neg h

/-- The call returned a whole number over limbs that were there. -/
def RetS (s : Int) (n : Nat) (w : World) (lo : Nat) (e : Ending) (w' : World) : Prop := ∃ a c, e = .returned (.agg #[.int .i64 (sgnOf s n), .slice a (lim n).length c]) ∧ (lim n).length ≤ c ∧ Own w' lo a (lim n) ∧ Below w.heap.size w w'

/-- Whether a number fits, and what is told. -/
def fitW (s : Int) (n : Nat) : Int × List Int × Int := if (lim n).length ≤ 200 then (s, lim n, 0) else (0, [], 3)
theorem fitW_yes {s : Int} {n : Nat} (h : (lim n).length ≤ 200) : fitW s n = (s, lim n, 0) := if_pos h
theorem fitW_no {s : Int} {n : Nat} (h : 200 < (lim n).length) : fitW s n = (0, [], 3) := if_neg (by omega)
/-- The call returned a whole number in memory from block lo on, and a code. -/
def RetWC (r : Int × List Int × Int) (lo : Nat) (w : World) (e : Ending) (w' : World) : Prop := ∃ a c, e = .returned (.tuple #[.agg #[.int .i64 r.1, .slice a r.2.1.length c], .int .i64 r.2.2]) ∧ r.2.1.length ≤ c ∧ Own w' lo a r.2.1 ∧ Below w.heap.size w w'

end Go.Proofs.Ytabpgkkickdopaa
