/-
  Limbs as integers in memory; the leaf contracts of magnitudes: trimmed, size, signed, limitWhole. Conditions: the limbs can be read.
-/
import Derived.Test.YtgppagmejhgmaaaGreatDoorMh
import Derived.Laws.BitsLemmas
namespace Go.Proofs.YtgppagmejhgmaaaGreatDoor
set_option linter.unusedVariables false
open Go Go.RowKit

def ofN (L : List Nat) : List Int := L.map (fun (x : Nat) => (x : Int))
theorem ofN_length (L : List Nat) : (ofN L).length = L.length := by simp [ofN]
theorem ofN_at (L : List Nat) (i : Nat) (h : i < (ofN L).length) : (ofN L)[i] = ((L[i]'(by simpa [ofN] using h) : Nat) : Int) := by simp [ofN]
theorem ofN_set (L : List Nat) (i x : Nat) : (ofN L).set i (x : Int) = ofN (L.set i x) := by simp [ofN, List.map_set]
theorem ofN_take (L : List Nat) (n : Nat) : (ofN L).take n = ofN (L.take n) := by simp [ofN, List.map_take]
theorem ofN_zeros (n : Nat) : ofN (List.replicate n 0) = List.replicate n 0 := by simp [ofN]
theorem ofN_nil : ofN [] = [] := rfl
theorem ofN_append (L M : List Nat) : ofN (L ++ M) = ofN L ++ ofN M := by simp [ofN]
theorem ofN_inj {L M : List Nat} (h : ofN L = ofN M) : L = M := by
  apply List.ext_getElem
  · have := congrArg List.length h; simpa [ofN] using this
  · intro i h1 h2
    have : (ofN L)[i]'(by rw [ofN_length]; exact h1) = (ofN M)[i]'(by rw [ofN_length]; exact h2) := by simp only [h]
    rw [ofN_at, ofN_at] at this
    omega
/-- The limbs of n, as they lie in memory. -/
def lim (n : Nat) : List Int := ofN (dig n)
theorem lim_length (n : Nat) : (lim n).length = (dig n).length := ofN_length _
theorem lim_zero : lim 0 = [] := by rw [lim, dig_zero]; rfl
theorem lim_inj {m n : Nat} (h : lim m = lim n) : m = n := by
  have := ofN_inj h
  rw [← val_dig m, ← val_dig n, this]
theorem lim_len_zero {n : Nat} : (lim n).length = 0 ↔ n = 0 := by
  rw [lim_length]
  constructor
  · intro h; exact (dig_nil_iff n).1 (List.eq_nil_of_length_eq_zero h)
  · intro h; subst h; rw [dig_zero]; rfl

/-- A whole number is a sign and the limbs of a number. -/
theorem isWh_of {s : Int} {xs : List Int} (h : IsWh s xs) : ∃ n, xs = lim n ∧ (lim n).length ≤ 200 ∧ ((n = 0 ∧ s = 0) ∨ (n ≠ 0 ∧ (s = 1 ∨ s = -1))) := by
  rcases h with ⟨h0, hs⟩ | ⟨hl, ⟨hp, hlast⟩, hb, hs⟩
  · exact ⟨0, by rw [lim_zero]; exact List.eq_nil_of_length_eq_zero h0, by rw [lim_zero]; simp, .inl ⟨rfl, hs⟩⟩
  · have e : xs = ofN (xs.map Int.toNat) := by
      apply List.ext_getElem
      · simp [ofN]
      · intro i h1 h2
        rw [ofN_at]
        simp only [List.getElem_map]
        have := (hb i h1).1
        omega
    have hn : Norm (xs.map Int.toNat) := by
      refine ⟨fun i hi => ?_, fun hl0 => ?_⟩
      · simp only [List.getElem_map]
        have := hb i (by simpa using hi)
        omega
      · simp only [List.getElem_map, List.length_map]
        have := (hb (xs.length - 1) (by omega)).1
        omega
    have e2 : xs = lim (val (xs.map Int.toNat)) := by rw [lim, dig_val hn]; exact e
    refine ⟨_, e2, by rw [← e2]; exact hl, .inr ⟨fun h => ?_, hs⟩⟩
    rw [h, lim_zero] at e2
    rw [e2] at hp
    simp at hp
theorem isWh_lim {s : Int} {n : Nat} (hl : (lim n).length ≤ 200) (h : (n = 0 ∧ s = 0) ∨ (n ≠ 0 ∧ (s = 1 ∨ s = -1))) : IsWh s (lim n) := by
  rcases h with ⟨rfl, hs⟩ | ⟨hn, hs⟩
  · exact .inl ⟨by rw [lim_zero]; rfl, hs⟩
  · have hp : 0 < (dig n).length := dig_length_pos hn
    refine .inr ⟨hl, ⟨by rw [lim_length]; exact hp, ?_⟩, fun i hi => ?_, hs⟩
    · have := (norm_dig n).2 hp
      simp only [lim, ofN_at, ofN_length]
      omega
    · simp only [lim, ofN_at]
      have := small_dig n i (by rw [lim_length] at hi; exact hi)
      omega
theorem isWh_lim_no {s : Int} {n : Nat} (hl : 200 < (lim n).length) : ¬ IsWh s (lim n) := fun h => by
  rcases h with h | h
  · omega
  · have := h.1; omega

set_option maxHeartbeats 400000 in
theorem iTrimmed (a : Option Addr) (L : List Nat) (c : Nat) (w : World) (B : Nat) (hx : Ints w B a (ofN L)) (hs : Small L) (hc : L.length ≤ c) (hc2 : c ≤ 9223372036854775807) :
    Calls Tryz.prog 136 #[.slice a L.length c] w fun e w' => e = .returned (.slice a (dig (val L)).length c) ∧ w = w' := by
  have HX := Lib.hid hx
  have HS := Lib.hid hs
  clear hx hs
  obtain ⟨r, hr⟩ : ∃ r, r = (dig (val L)).length := ⟨_, rfl⟩
  rw [← hr]
  have HR := Lib.hid hr
  clear hr
  go_enter Tryz.func136, Tryz.ntmps136
  go_wp2
  go_loop [3] (fun i => ∃ k : Nat, k ≤ L.length ∧ i = .int .i64 k ∧ Hid (∀ (j : Nat) (h : j < L.length), k ≤ j → L[j] = 0)) (fun i => (intOf i).toNat)
  case atStart => exact ⟨L.length, Nat.le_refl _, rfl, fun j h hj => absurd h (by omega)⟩
  case round =>
    obtain ⟨k, hk, rfl, hz⟩ := hrel
    have hend : (∀ (h0 : 0 < k), L[k - 1]'(by omega) ≠ 0) → k = r := fun h => by
      have := take_dig HS.out hk hz.out h
      rw [HR.out, ← this, List.length_take]
      omega
    by_cases h0 : 0 < k
    · obtain ⟨b, o, ha, hcB, hcell⟩ := HX.out (k - 1) (by rw [ofN_length]; omega)
      rw [ofN_at] at hcell
      subst ha
      have hi1 : ((k : Int) - 1).toNat = k - 1 := by omega
      have hi2 : (0 : Int) ≤ (k : Int) - 1 := by omega
      have hi3 : (k : Int) - 1 < (L.length : Int) := by omega
      have h0I : (0 : Int) < (k : Int) := by omega
      obtain ⟨x, hxk⟩ : ∃ x : Nat, x = L[k - 1] := ⟨_, rfl⟩
      rw [← hxk] at hcell
      have HXK := Lib.hid hxk
      clear hxk
      by_cases hx0 : x = 0
      · subst hx0
        have HEND := Lib.hid hend
        clear hend
        go_wp2
        go_round
        case rel =>
          refine ⟨k - 1, by omega, by (try simp); omega, fun j h hj => ?_⟩
          by_cases hjk : j = k - 1
          · subst hjk; exact HXK.out.symm
          · exact hz.out j h (by omega)
        case measure => simp [intOf]; omega
      · have hne : ((x : Int) == 0) = false := by simpa using hx0
        have hkr := hend (fun _ => by rw [← HXK.out]; exact hx0)
        have HK := Lib.hid hkr
        clear hkr hend
        go_wp2
        go_ret
        exact ⟨by rw [← HK.out]; rfl, rfl⟩
    · obtain rfl : k = 0 := by omega
      have HK := Lib.hid (hend (fun h => absurd h (Nat.lt_irrefl 0)))
      clear hend
      go_wp2
      go_ret
      exact ⟨by rw [← HK.out]; rfl, rfl⟩

set_option maxHeartbeats 400000 in
theorem iSize (s : Int) (a : Option Addr) (n c : Nat) (w : World) :
    Calls Tryz.prog 65 #[.agg #[.int .i64 s, .slice a n c]] w (RetB (.slice a n c) w) := by
  go_enter Tryz.func65, Tryz.ntmps65
  go_wp2
  go_ret
  exact ⟨rfl, (by repeat (first | exact Below.refl _ _ | assumption | refine Below.alloc ?_ (by simp <;> omega) _ | refine Below.setCell ?_ (by simp <;> omega) _ | refine below_drewN ?_ _))⟩

/-- What signed makes of a sign and limbs. -/
def sgnOf (s : Int) (n : Nat) : Int := if n = 0 then 0 else s
theorem sgnOf_zero (s : Int) : sgnOf s 0 = 0 := if_pos rfl
theorem sgnOf_pos {s : Int} {n : Nat} (h : n ≠ 0) : sgnOf s n = s := if_neg h

/-- The call returned a whole number over limbs that were there. -/
def RetS (s : Int) (n : Nat) (w : World) (lo : Nat) (e : Ending) (w' : World) : Prop := ∃ a c, e = .returned (.agg #[.int .i64 (sgnOf s n), .slice a (lim n).length c]) ∧ (lim n).length ≤ c ∧ Own w' lo a (lim n) ∧ Below w.heap.size w w'

set_option maxHeartbeats 400000 in
theorem iSigned (s : Int) (n : Nat) (a : Option Addr) (c : Nat) (w : World) (lo : Nat) (hc : (lim n).length ≤ c) (ho : Own w lo a (lim n)) :
    Calls Tryz.prog 95 #[.int .i64 s, .slice a (lim n).length c] w (RetS s n w lo) := by
  have HC := Lib.hid hc
  have HO := Lib.hid ho
  clear hc ho
  by_cases h0 : n = 0
  · have hz : (lim n).length = 0 := lim_len_zero.2 h0
    subst h0
    rw [hz]
    have HZ := Lib.hid hz
    clear hz
    go_enter Tryz.func95, Tryz.ntmps95
    go_wp2
    refine bodyPost_ret (v := .agg #[.int .i64 0, .slice none 0 0]) (by simp [results, Tryz.results95, go_sem]) rfl ⟨none, 0, by rw [sgnOf_zero, HZ.out], by rw [HZ.out]; exact Nat.le_refl _, .inl lim_zero, (by repeat (first | exact Below.refl _ _ | assumption | refine Below.alloc ?_ (by simp <;> omega) _ | refine Below.setCell ?_ (by simp <;> omega) _ | refine below_drewN ?_ _))⟩
  · have hz : (((lim n).length : Int) == 0) = false := by
      have := (not_congr (@lim_len_zero n)).2 h0
      simpa using this
    go_enter Tryz.func95, Tryz.ntmps95
    go_wp2
    refine bodyPost_ret (v := .agg #[.int .i64 s, .slice a (lim n).length c]) (by simp [results, Tryz.results95, go_sem]) rfl ⟨a, c, by rw [sgnOf_pos h0], HC.out, HO.out.alloc _, (by repeat (first | exact Below.refl _ _ | assumption | refine Below.alloc ?_ (by simp <;> omega) _ | refine Below.setCell ?_ (by simp <;> omega) _ | refine below_drewN ?_ _))⟩

/-- Whether a number fits, and what is told. -/
def fitW (s : Int) (n : Nat) : Int × List Int × Int := if (lim n).length ≤ 200 then (s, lim n, 0) else (0, [], 3)
theorem fitW_yes {s : Int} {n : Nat} (h : (lim n).length ≤ 200) : fitW s n = (s, lim n, 0) := if_pos h
theorem fitW_no {s : Int} {n : Nat} (h : 200 < (lim n).length) : fitW s n = (0, [], 3) := if_neg (by omega)
/-- The call returned a whole number in memory from block lo on, and a code. -/
def RetWC (r : Int × List Int × Int) (lo : Nat) (w : World) (e : Ending) (w' : World) : Prop := ∃ a c, e = .returned (.tuple #[.agg #[.int .i64 r.1, .slice a r.2.1.length c], .int .i64 r.2.2]) ∧ r.2.1.length ≤ c ∧ Own w' lo a r.2.1 ∧ Below w.heap.size w w'

end Go.Proofs.YtgppagmejhgmaaaGreatDoor
