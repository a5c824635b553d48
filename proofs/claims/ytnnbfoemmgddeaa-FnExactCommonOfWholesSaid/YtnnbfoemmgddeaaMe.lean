/-
  Lists of numbers in memory, and what stays of them while new blocks are made. No conditions.
-/
import Derived.Test.YtnnbfoemmgddeaaChecked
import Derived.Test.YtnnbfoemmgddeaaRe
import Derived.WalkKit
import Derived.WalkSpells
import Derived.WalkLawsBesides
import Derived.Deep.QuietTactic
import Derived.BigQuiet
import Derived.Lib.Hide
import Derived.Below
import Derived.LoopTactic
import Derived.OwnWalk
import Derived.Deep.OwnRows
import Derived.RegionTactic
import Derived.ChangeAlike
import Derived.BigRegion
import Derived.Lib.SmallJoins
namespace Go.Proofs.Ytnnbfoemmgddeaa
set_option linter.unusedVariables false
open Go Go.RowKit

/-- Numbers that can be read from an address on, in a block below B. -/
def Ints (w : World) (B : Nat) (a : Option Addr) (xs : List Int) : Prop :=
  ∀ (i : Nat) (h : i < xs.length), ∃ c o, a = some ⟨c, o, none⟩ ∧ c < B ∧ w.cell? ⟨c, o + i, none⟩ = some (.int .i64 xs[i])
section
variable {w w' : World} {B B' : Nat} {a : Option Addr} {xs : List Int}
theorem Ints.keep (h : Ints w B a xs) (hk : ∀ b o, b < B → w'.cell? ⟨b, o, none⟩ = w.cell? ⟨b, o, none⟩) : Ints w' B a xs := fun i hi => by
  obtain ⟨c, o, e, hc, hx⟩ := h i hi
  exact ⟨c, o, e, hc, by rw [hk _ _ hc]; exact hx⟩
theorem Ints.below (h : Ints w B a xs) (hb : Below B w w') : Ints w' B a xs := h.keep fun b o hb' => hb.cell (p := ⟨b, o, none⟩) hb'
theorem Ints.more (h : Ints w B a xs) (hB : B ≤ B') : Ints w B' a xs := fun i hi => by
  obtain ⟨c, o, e, hc, hx⟩ := h i hi
  exact ⟨c, o, e, by omega, hx⟩
theorem Ints.drewN (h : Ints w B a xs) (n : Nat) : Ints (w.drewN n) B a xs := h
theorem Ints.drew (h : Ints w B a xs) : Ints w.drew B a xs := h
theorem Ints.alloc (h : Ints w B a xs) (hB : B ≤ w.heap.size) (o : Obj) : Ints (w.alloc o) B a xs := h.keep fun b o' hb => World.cell?_alloc_lt w o ⟨b, o', none⟩ (by show b < _; omega)
theorem Ints.none : Ints w B a [] := fun i hi => absurd hi (Nat.not_lt_zero i)
end

/-- Whether a sign and limbs are a whole number. -/
def IsWh (s : Int) (xs : List Int) : Prop :=
  (xs.length = 0 ∧ s = 0) ∨ (xs.length ≤ 200 ∧ (∃ h : 0 < xs.length, xs[xs.length - 1] ≠ 0) ∧ (∀ (i : Nat) (h : i < xs.length), 0 ≤ xs[i] ∧ xs[i] < 16777216) ∧ (s = 1 ∨ s = -1))
noncomputable def whB (s : Int) (xs : List Int) : Bool := @decide (IsWh s xs) (Classical.propDecidable _)
theorem whB_yes {s : Int} {xs : List Int} (h : IsWh s xs) : whB s xs = true := by unfold whB; exact @decide_eq_true _ (Classical.propDecidable _) h
theorem whB_no {s : Int} {xs : List Int} (h : ¬ IsWh s xs) : whB s xs = false := by unfold whB; exact @decide_eq_false _ (Classical.propDecidable _) h
theorem whB_iff {s : Int} {xs : List Int} : whB s xs = true ↔ IsWh s xs := by unfold whB; exact @decide_eq_true_iff _ (Classical.propDecidable _)

/-- The call returned v, and nothing that was there has turned. -/
def RetB (v : Value) (w : World) (e : Ending) (w' : World) : Prop := e = .returned v ∧ Below w.heap.size w w'
theorem RetB.mk {v : Value} {w w' : World} (h : Below w.heap.size w w') : RetB v w (.returned v) w' := ⟨rfl, h⟩
/-- What a world that has grown reads. -/
theorem bcell {W w1 : World} (hb : Below W.heap.size W w1) : (∀ b o, b < W.heap.size → w1.cell? ⟨b, o, none⟩ = W.cell? ⟨b, o, none⟩) ∧ (∀ b o, b < W.heap.size → w1.frozen? ⟨b, o, none⟩ = W.frozen? ⟨b, o, none⟩) :=
  ⟨fun b o h => hb.cell (p := ⟨b, o, none⟩) h, fun b o h => hb.frozen (p := ⟨b, o, none⟩) h⟩
theorem below_drewN {B : Nat} {a w : World} (h : Below B a w) (n : Nat) : Below B a (w.drewN n) := ⟨h.os, h.tape, h.output, h.size, h.block⟩

set_option maxHeartbeats 400000 in
theorem iIsWhole (s : Int) (a : Option Addr) (xs : List Int) (cap : Nat) (w : World) (B : Nat) (hB : B ≤ w.heap.size) (hl : xs.length ≤ 9223372036854775807) (hx : Ints w B a xs) :
    Calls Try.prog 124 #[.agg #[.int .i64 s, .slice a xs.length cap]] w (RetB (.bool (whB s xs)) w) := by
  have HX := Lib.hid hx
  clear hx
  obtain ⟨b, hb⟩ : ∃ b, b = whB s xs := ⟨_, rfl⟩
  rw [← hb]
  have HV := Lib.hid hb
  clear hb
  by_cases h0 : xs.length = 0
  · have e : whB s xs = decide (s = 0) := by
      by_cases hs : s = 0
      · exact (whB_yes (.inl ⟨h0, hs⟩)).trans (decide_eq_true hs).symm
      · exact (whB_no (fun h => by rcases h with h | h; exact hs h.2; obtain ⟨k, _⟩ := h.2.1; omega)).trans (decide_eq_false hs).symm
    have HW := Lib.hid (show b = _ from HV.out.trans e)
    rw [h0]
    clear e h0 hl
    go_enter Try.func124, Try.ntmps124
    go_wp2
    go_ret
    exact ⟨by rw [HW.out]; rfl, (Below.refl _ _).alloc (Nat.le_refl _) _⟩
  · have hpos : 0 < xs.length := by omega
    have hz : ((xs.length : Int) == 0) = false := by simpa using h0
    by_cases h200 : (xs.length : Int) > 200
    · have HW := Lib.hid (show b = _ from HV.out.trans (whB_no (fun h => by rcases h with h | h; omega; have := h.1; omega)))
      clear h0
      go_enter Try.func124, Try.ntmps124
      go_wp2
      go_ret
      exact ⟨by rw [HW.out]; rfl, (Below.refl _ _).alloc (Nat.le_refl _) _⟩
    · have h200' : ¬ 200 < (xs.length : Int) := h200
      have hd200 : decide (200 < (xs.length : Int)) = false := decide_eq_false h200'
      obtain ⟨c, o, ha, hcB, hcell⟩ := HX.out (xs.length - 1) (by omega)
      subst ha
      have hcb : c < w.heap.size := by omega
      have hi1 : ((xs.length : Int) - 1).toNat = xs.length - 1 := by omega
      have hi2 : (0 : Int) ≤ (xs.length : Int) - 1 := by omega
      obtain ⟨z, hzl⟩ : ∃ z, z = xs[xs.length - 1] := ⟨_, rfl⟩
      have HZ := Lib.hid hzl
      have hlast : ∀ p, (w.alloc (.cells p 58)).cell? ⟨c, o + (xs.length - 1), none⟩ = some (.int .i64 z) := fun p => by
        rw [World.cell?_alloc_lt w _ ⟨c, o + (xs.length - 1), none⟩ hcb, HZ.out]; exact hcell
      clear hcell h0 hzl
      by_cases hl0 : z = 0
      · have HW := Lib.hid (show b = _ from HV.out.trans (whB_no (fun h => by rcases h with h | h; omega; obtain ⟨_, h⟩ := h.2.1; exact h (HZ.out ▸ hl0))))
        subst hl0
        go_enter Try.func124, Try.ntmps124
        go_wp2
        go_ret
        exact ⟨by rw [HW.out]; rfl, (Below.refl _ _).alloc (Nat.le_refl _) _⟩
      · have hne : (z == 0) = false := by simpa using hl0
        go_enter Try.func124, Try.ntmps124
        go_wp2
        clear hlast hi1 hi2 hne
        go_loop [28] (fun i => ∃ k : Nat, k ≤ xs.length ∧ i = .int .i64 k ∧ Hid (∀ (j : Nat) (h : j < xs.length), j < k → 0 ≤ xs[j] ∧ xs[j] < 16777216)) (fun i => xs.length - (intOf i).toNat)
        case atStart => exact ⟨0, Nat.zero_le _, rfl, fun j h hj => absurd hj (Nat.not_lt_zero _)⟩
        case round =>
          obtain ⟨k, hk, rfl, hok⟩ := hrel
          by_cases hkn : k < xs.length
          · obtain ⟨c', o', ha', _, hcell⟩ := HX.out k hkn
            obtain ⟨rfl, rfl⟩ : c = c' ∧ o = o' := by simpa using ha'
            obtain ⟨x, hxk⟩ : ∃ x, x = xs[k] := ⟨_, rfl⟩
            have HXK := Lib.hid hxk
            have hc1 : ∀ p, (w.alloc (.cells p 58)).cell? ⟨c, o + k, none⟩ = some (.int .i64 x) := fun p => by
              rw [World.cell?_alloc_lt w _ ⟨c, o + k, none⟩ hcb, HXK.out]; exact hcell
            clear hcell hxk ha'
            have hkI : (k : Int) < (xs.length : Int) := by omega
            by_cases hx0 : x < 0
            · have HW := Lib.hid (show b = _ from HV.out.trans (whB_no (fun h => by rcases h with h | h; omega; have := (h.2.2.1 k hkn).1; rw [← HXK.out] at this; omega)))
              go_wp2
              go_ret
              exact ⟨by rw [HW.out]; rfl, (Below.refl _ _).alloc (Nat.le_refl _) _⟩
            · have hdx : decide (x < 0) = false := decide_eq_false hx0
              by_cases hx1 : 16777215 < x
              · have HW := Lib.hid (show b = _ from HV.out.trans (whB_no (fun h => by rcases h with h | h; omega; have := (h.2.2.1 k hkn).2; rw [← HXK.out] at this; omega)))
                go_wp2
                go_ret
                exact ⟨by rw [HW.out]; rfl, (Below.refl _ _).alloc (Nat.le_refl _) _⟩
              · have hdx1 : decide (16777215 < x) = false := decide_eq_false hx1
                go_wp2
                go_round
                case rel =>
                  refine ⟨k + 1, by omega, by go_num, fun j h hj => ?_⟩
                  by_cases hjk : j = k
                  · subst hjk; rw [← HXK.out]; omega
                  · exact hok.out j h (by omega)
                case measure => simp [intOf]; omega
          · obtain rfl : k = xs.length := by omega
            by_cases h1 : s = 1
            · have HW := Lib.hid (show b = _ from HV.out.trans (whB_yes (.inr ⟨by omega, ⟨hpos, fun h => hl0 (HZ.out.trans h)⟩, fun i h => hok.out i h h, .inl h1⟩)))
              have e1 : (s == 1) = true := by simpa using h1
              clear h1
              go_wp2
              go_ret
              exact ⟨by rw [HW.out]; rfl, (Below.refl _ _).alloc (Nat.le_refl _) _⟩
            · have e1 : (s == 1) = false := by simpa using h1
              by_cases h2 : s = -1
              · have HW := Lib.hid (show b = _ from HV.out.trans (whB_yes (.inr ⟨by omega, ⟨hpos, fun h => hl0 (HZ.out.trans h)⟩, fun i h => hok.out i h h, .inr h2⟩)))
                have e2 : (s == -1) = true := by simpa using h2
                clear h1 h2
                go_wp2
                go_ret
                exact ⟨by rw [HW.out]; rfl, (Below.refl _ _).alloc (Nat.le_refl _) _⟩
              · have HW := Lib.hid (show b = _ from HV.out.trans (whB_no (fun h => by rcases h with h | h; omega; rcases h.2.2.2 with h | h; exact h1 h; exact h2 h)))
                have e2 : (s == -1) = false := by simpa using h2
                clear h1 h2
                go_wp2
                go_ret
                exact ⟨by rw [HW.out]; rfl, (Below.refl _ _).alloc (Nat.le_refl _) _⟩
end Go.Proofs.Ytnnbfoemmgddeaa
