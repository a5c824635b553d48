/-
  Contracts: strings.CutPrefix of a minus. Conditions: none.
-/
import Derived.Test.YtpchcigpppdfiabDa
namespace Go.Proofs.Ytpchcigpppdfiab
set_option linter.unusedVariables false
open Go Go.RowKit

theorem extract_head (b : UInt8) (r : List UInt8) : ({ data := (b :: r).toArray } : ByteArray).extract 0 1 = { data := [b].toArray } := by
  apply ByteArray.ext
  simp [ByteArray.data_extract]
theorem extract_tail (b : UInt8) (r : List UInt8) (n : Nat) (h : n = r.length + 1) : ({ data := (b :: r).toArray } : ByteArray).extract 1 n = { data := r.toArray } := by
  apply ByteArray.ext
  subst h
  simp [ByteArray.data_extract]
set_option maxRecDepth 100000 in
set_option maxHeartbeats 1000000 in
theorem hasMinus (l : List UInt8) (w : World) :
    Calls Try.prog 148 #[.string ⟨l.toArray⟩, .string ⟨#[45]⟩] w fun e w' => e = .returned (.bool (decide (l.head? = some 45))) ∧ w = w' := by
  rcases l with _ | ⟨b, r⟩
  · go_enter Try.func148, Try.ntmps148
    go_wp2
    go_ret
    exact ⟨rfl, rfl⟩
  · have hpos : (1 : Int) ≤ (r.length : Int) + 1 := by omega
    have hx := extract_head b r
    by_cases hb : b = 45
    · subst hb
      have e : decide ((45 :: r : List UInt8).head? = some 45) = true := by simp
      rw [e]
      go_enter Try.func148, Try.ntmps148
      go_wp2
      go_ret
      exact ⟨rfl, rfl⟩
    · have e : decide ((b :: r : List UInt8).head? = some 45) = false := by simp [hb]
      have hb2 : (b == 45) = false := by simpa using hb
      rw [e]
      go_enter Try.func148, Try.ntmps148
      go_wp2
      go_ret
      exact ⟨rfl, rfl⟩
/-- The text without a minus in front, and whether there was one. -/
def cutM (l : List UInt8) : List UInt8 × Bool := if l.head? = some 45 then (l.tail, true) else (l, false)
set_option maxRecDepth 100000 in
set_option maxHeartbeats 1000000 in
theorem cutMinus0 (l : List UInt8) (w : World) :
    Calls Try.prog 132 #[.string ⟨l.toArray⟩, .string ⟨#[45]⟩] w fun e w' => e = .returned (.tuple #[.string ⟨(cutM l).1.toArray⟩, .bool (cutM l).2]) ∧ w = w' := by
  have H := Lib.hid (hasMinus l)
  unfold cutM
  by_cases h : l.head? = some 45
  · rw [if_pos h]
    rw [decide_eq_true h] at H
    rcases l with _ | ⟨b, r⟩
    · simp at h
    · have hpos : (1 : Int) ≤ (r.length : Int) + 1 := by omega
      have hx := extract_tail b r (r.length + 1) rfl
      clear h
      go_enter Try.func132, Try.ntmps132
      go_wp2_with (go_at_call 148; refine (H.out _).mono ?_; rintro e w' ⟨rfl, rfl⟩)
      go_ret2
      exact ⟨rfl, rfl⟩
  · rw [if_neg h]
    rw [decide_eq_false h] at H
    clear h
    go_enter Try.func132, Try.ntmps132
    go_wp2_with (go_at_call 148; refine (H.out _).mono ?_; rintro e w' ⟨rfl, rfl⟩)
    go_ret2
    exact ⟨rfl, rfl⟩
set_option maxRecDepth 100000 in
set_option maxHeartbeats 1000000 in
theorem cutMinus (l : List UInt8) (w : World) :
    Calls Try.prog 98 #[.string ⟨l.toArray⟩, .string ⟨#[45]⟩] w fun e w' => e = .returned (.tuple #[.string ⟨(cutM l).1.toArray⟩, .bool (cutM l).2]) ∧ w = w' := by
  have H := Lib.hid (cutMinus0 l)
  obtain ⟨⟨r1, r2⟩, hr⟩ : ∃ r, r = cutM l := ⟨_, rfl⟩
  rw [← hr] at H ⊢
  clear hr
  go_enter Try.func98, Try.ntmps98
  go_wp2_with (go_at_call 132; refine (H.out _).mono ?_; rintro e w' ⟨rfl, rfl⟩)
  go_ret2
  exact ⟨rfl, rfl⟩
end Go.Proofs.Ytpchcigpppdfiab
