/-
  Contracts: l02Digits of the model. Conditions: the number lies in 0..9999999.
-/
import Derived.Test.YtpchcigpppdfiaaDoorTx
import Derived.Test.YtpchcigpppdfiaaDoorMe
import Derived.Laws.IdiomStrings
import Derived.Deep.RegionLaw
namespace Go.Proofs.YtpchcigpppdfiaaDoor
set_option linter.unusedVariables false
open Go Go.RowKit

theorem dch_nat {d : Nat} (h : d < 10) : (dch d).toNat = 48 + d := by
  unfold dch
  rw [UInt8.toNat_ofNat_of_lt' (by simp [UInt8.size]; omega)]
/-- A byte of a digit, made into a text. -/
theorem conv_digit {d : Nat} (h : d < 10) (V : World) (g c : Nat) (hc : V.cell? ⟨g, 0, none⟩ = some (.int .u8 (48 + (d : Int)))) :
    (convert 22 9 (.slice (some ⟨g, 0, none⟩) 1 c)).run Tryd.prog V = .ok (.string ⟨#[dch d]⟩) V := by
  have := run_convert_bytes_back (P := Tryd.prog) V 22 9 5 ⟨g, 0, none⟩ c [dch d] Tryd.underlying22 Tryd.underlying5 Tryd.underlying9 (fun j hj => by
    simp at hj
    subst hj
    simp only [List.getElem_cons_zero, dch_nat h, Addr.add]
    simpa using hc)
  simpa using this
set_option maxRecDepth 100000 in
set_option maxHeartbeats 2000000 in
theorem sDigits (n : Nat) : n < 10000000 → ∀ w : World,
    Calls Tryd.prog 79 #[.int .i64 (n : Int)] w (RetB (.string ⟨(decT n).toArray⟩) w) := by
  induction n using Nat.strongRecOn with
  | ind n ih =>
    intro hn w
    by_cases h : n < 10
    · rw [decT_small h]
      have hI : (n : Int) < 10 := by omega
      have h0 : (0 : Int) ≤ (n : Int) := by omega
      have hcv : ∀ W, (convert 22 9 (.slice (some ⟨w.heap.size, 0, none⟩) 1 1)).run Tryd.prog (w.alloc (.cells #[.int .u8 (48 + (n : Int))] W)) = .ok (.string ⟨#[dch n]⟩) (w.alloc (.cells #[.int .u8 (48 + (n : Int))] W)) := fun W => conv_digit h _ _ _ (by simp)
      obtain ⟨l, hl⟩ : ∃ l, l = #[dch n] := ⟨_, rfl⟩
      rw [← hl] at hcv
      have e : [dch n].toArray = l := by rw [hl]
      rw [e]
      clear hl e ih hn h
      go_enter Tryd.func79, Tryd.ntmps79
      go_wp2_with fail
      go_ret
      exact ⟨rfl, (Below.refl _ w).alloc (Nat.le_refl _) _⟩
    · rw [decT_step h]
      obtain ⟨d, hd⟩ : ∃ d, d = n % 10 := ⟨_, rfl⟩
      obtain ⟨q, hq⟩ : ∃ q, q = n / 10 := ⟨_, rfl⟩
      rw [← hd, ← hq]
      have hd10 : d < 10 := by rw [hd]; omega
      have HIH := Lib.hid (ih q (by rw [hq]; omega) (by rw [hq]; omega))
      have hdI : Int.tdiv (n : Int) 10 = (q : Int) := by rw [hq]; simp [Int.tdiv_eq_ediv_of_nonneg]
      have hmI : Int.tmod (n : Int) 10 = (d : Int) := by rw [hd]; simp [Int.tmod_eq_emod_of_nonneg]
      have hI : decide ((n : Int) < 10) = false := decide_eq_false (by omega)
      have hdb : (d : Int) ≤ 9 := by omega
      have hnb : (n : Int) ≤ 9223372036854775807 := by omega
      have HD := Lib.hid hd10
      have hno : ¬ (9223372036854775807 < (decT q).length + 1) := by
        rw [decT_length]
        have := nd_le (k := 6) (n := q) (by rw [hq]; omega)
        omega
      have hcat : ({ data := (decT q).toArray } : ByteArray) ++ { data := #[dch d] } = { data := (decT q ++ [dch d]).toArray } := by
        apply ByteArray.ext
        simp [ByteArray.data_append]
      have hwq : IntKind.i64.wrap (q : Int) = (q : Int) := by rw [IntKind.wrap_i64]; omega
      have hwd : IntKind.i64.wrap (48 + (d : Int)) = 48 + (d : Int) := by rw [IntKind.wrap_i64]; omega
      have hwu : IntKind.u8.wrap (48 + (d : Int)) = 48 + (d : Int) := by rw [IntKind.wrap_u8]; omega
      have hcv : ∀ (W : World) (o : TypeId), (convert 22 9 (.slice (some ⟨W.heap.size, 0, none⟩) 1 1)).run Tryd.prog ((W.alloc (.cells #[.int .u8 (48 + (d : Int))] o)).drew) = .ok (.string ⟨#[dch d]⟩) ((W.alloc (.cells #[.int .u8 (48 + (d : Int))] o)).drew) := fun W o => conv_digit hd10 _ _ _ (by show (W.alloc _).cell? _ = _; simp)
      clear ih hn h hd hq hd10
      go_enter Tryd.func79, Tryd.ntmps79
      go_wp2_with fail
      go_region_law ((first
        | (go_simp; go_at_call 79; refine (HIH.out _).mono ?_; rintro e v1 ⟨rfl, hb1⟩; (first | have hcv3 : (convert 22 9 (.slice (some ⟨w.heap.size, 0, none⟩) 1 1)).run Tryd.prog v1 = .ok (.string ⟨#[dch d]⟩) v1 := conv_digit HD.out _ _ _ (by rw [hb1.cell (p := ⟨w.heap.size, 0, none⟩) (by simp)]; show (w.alloc _).cell? _ = _; simp) | skip); have hcv2 : ∀ (o : TypeId), (convert 22 9 (.slice (some ⟨v1.heap.size, 0, none⟩) 1 1)).run Tryd.prog (v1.alloc (.cells #[.int .u8 (48 + (d : Int))] o)) = .ok (.string ⟨#[dch d]⟩) (v1.alloc (.cells #[.int .u8 (48 + (d : Int))] o)) := fun o => conv_digit HD.out _ _ _ (by simp))))
      all_goals
        go_wp2_with fail
        go_ret
        first
        | exact ⟨rfl, ((Below.refl _ w).drew.trans (hb1.mono (Nat.le_refl _))).alloc (by have := hb1.size; exact this) _⟩
        | exact ⟨rfl, (((Below.refl _ w).alloc (Nat.le_refl _) _).drew.trans (hb1.mono (by simp)))⟩
end Go.Proofs.YtpchcigpppdfiaaDoor
