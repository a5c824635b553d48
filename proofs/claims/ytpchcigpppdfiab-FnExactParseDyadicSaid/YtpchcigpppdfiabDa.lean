/-
  Contracts: isDecimal of the program. Conditions: none.
-/
import Derived.Test.YtpchcigpppdfiabMi
import Derived.Laws.IdiomStrings
namespace Go.Proofs.Ytpchcigpppdfiab
set_option linter.unusedVariables false
open Go Go.RowKit

def isDig (b : UInt8) : Prop := 48 ≤ b.toNat ∧ b.toNat ≤ 57
/-- A text of digits, without superfluous zeros in front. -/
def IsDec (l : List UInt8) : Prop := (∀ b ∈ l, isDig b) ∧ (l = [48] ∨ (l ≠ [] ∧ l.head? ≠ some 48))
noncomputable def decB (l : List UInt8) : Bool := @decide (IsDec l) (Classical.propDecidable _)
theorem decB_yes {l : List UInt8} (h : IsDec l) : decB l = true := by unfold decB; exact @decide_eq_true _ (Classical.propDecidable _) h
theorem decB_no {l : List UInt8} (h : ¬ IsDec l) : decB l = false := by unfold decB; exact @decide_eq_false _ (Classical.propDecidable _) h
theorem bytesRow_cell (l : List UInt8) (n j : Nat) (h : j < l.length) : (bytesRow ⟨l.toArray⟩ n)[j]? = some (.int .u8 ((l[j].toNat : Nat) : Int)) := by
  unfold bytesRow
  rw [Array.getElem?_append_left (by simpa using h)]
  simp [h]
/-- The world behind the conversion of a text to bytes. -/
theorem conv_bytes (l : List UInt8) (w : World) : ∃ (W : World) (c : Nat), (convert 9 32 (.string ⟨l.toArray⟩)).run Try.prog w = .ok (.slice (some ⟨w.heap.size, 0, none⟩) l.length c) W ∧
    (∀ j (h : j < l.length), W.cell? ⟨w.heap.size, j, none⟩ = some (.int .u8 ((l[j].toNat : Nat) : Int))) ∧ Below w.heap.size w W := by
  have h := run_bytes_of_string (P := Try.prog) w 9 32 5 ⟨l.toArray⟩ Try.underlying9 Try.underlying32 Try.underlying5
  refine ⟨_, _, by simpa [ByteArray.size] using h, fun j hj => ?_, (Below.refl _ w).drew.alloc (Nat.le_refl _) _⟩
  show (w.drew.alloc _).cell? ⟨w.drew.heap.size, j, none⟩ = _
  rw [World.cell?_alloc_mark]
  exact bytesRow_cell l _ j hj

set_option maxRecDepth 100000 in
set_option maxHeartbeats 1000000 in
theorem iDecimal (l : List UInt8) (w : World) (hl : l.length ≤ 9223372036854775807) :
    Calls Try.prog 99 #[.string ⟨l.toArray⟩] w (RetB (.bool (decB l)) w) := by
  obtain ⟨W, c, hconv, hcell, hb⟩ := conv_bytes l w
  have HC := Lib.hid hcell
  have HB := Lib.hid hb
  clear hcell hb
  have HEND := Lib.hid (show ∀ v, RetB v w (.returned v) W from fun v => ⟨rfl, HB.out⟩)
  go_enter Try.func99, Try.ntmps99
  go_wp2_with fail
  go_loop [8] (fun i => ∃ k : Nat, k ≤ l.length ∧ i = .int .i64 (k : Int) ∧ ∀ j (h : j < l.length), j < k → isDig l[j]) (fun i => l.length - (intOf i).toNat)
  case atStart => exact ⟨0, Nat.zero_le _, rfl, fun j h hj => by omega⟩
  case round =>
    obtain ⟨k, hk, rfl, hall⟩ := hrel
    have HA := Lib.hid hall
    clear hall
    by_cases hkl : k < l.length
    · have hc := HC.out k hkl
      have hbd : l[k].toNat < 256 := l[k].toNat_lt
      have HD := Lib.hid (show isDig l[k] ↔ 48 ≤ l[k].toNat ∧ l[k].toNat ≤ 57 from Iff.rfl)
      have HN := Lib.hid (show ¬ isDig l[k] → decB l = false from fun h => decB_no fun hd => h (hd.1 _ (List.getElem_mem hkl)))
      obtain ⟨b, hbb⟩ : ∃ b : Nat, b = l[k].toNat := ⟨_, rfl⟩
      rw [← hbb] at hc hbd HD
      clear hbb
      have hkI : (k : Int) < (l.length : Int) := by omega
      by_cases h1 : b < 48
      · have e := HN.out (fun h => by have := HD.out.1 h; omega)
        have h1I : (b : Int) < 48 := by omega
        clear h1
        rw [e]
        go_wp2
        go_ret
        exact HEND.out _
      · have h1I : decide ((b : Int) < 48) = false := decide_eq_false (by omega)
        by_cases h2 : 57 < b
        · have e := HN.out (fun h => by have := HD.out.1 h; omega)
          have h2I : (57 : Int) < (b : Int) := by omega
          clear h2 h1
          rw [e]
          go_wp2
          go_ret
          exact HEND.out _
        · have h2I : decide ((57 : Int) < (b : Int)) = false := decide_eq_false (by omega)
          have HK := Lib.hid (show isDig l[k] from HD.out.2 ⟨by omega, by omega⟩)
          clear h1 h2
          go_wp2
          go_round
          case rel => exact ⟨k + 1, by omega, by go_num, fun j h hj => by
            by_cases e : j = k
            · subst e; exact HK.out
            · exact HA.out j h (by omega)⟩
          case measure => simp [intOf]; omega
    · obtain rfl : k = l.length := by omega
      have HALL := Lib.hid (show ∀ b ∈ l, isDig b from fun b hb => by
        obtain ⟨j, hj, rfl⟩ := List.getElem_of_mem hb
        exact HA.out j hj hj)
      clear HC HA hk hkl hconv
      rcases l with _ | ⟨b, r⟩
      · have e : decB [] = false := decB_no fun h => by rcases h.2 with h | h; exact absurd h (by simp); exact h.1 rfl
        rw [e]
        go_wp2
        go_ret
        exact HEND.out _
      · have hpos : (0 : Int) < (((b :: r).length : Nat) : Int) := by simp
        by_cases hb : b = 48
        · subst hb
          rcases r with _ | ⟨d, r⟩
          · have e : decB [48] = true := decB_yes ⟨HALL.out, .inl rfl⟩
            rw [e]
            go_wp2
            go_ret
            exact HEND.out _
          · have e : decB (48 :: d :: r) = false := decB_no fun h => by
              rcases h.2 with h | h
              · simp at h
              · exact h.2 rfl
            have hg : (({ data := ((48 : UInt8) :: d :: r).toArray } : ByteArray)[0]'(by simp [ByteArray.size])).toNat = 48 := rfl
            rw [e]
            go_wp2
            go_ret
            exact HEND.out _
        · have e : decB (b :: r) = true := decB_yes ⟨HALL.out, .inr ⟨by simp, by simpa using hb⟩⟩
          have hn : ((b.toNat : Int) != 48) = true := by
            have : (b.toNat : Int) ≠ 48 := fun h => hb (UInt8.toNat_inj.1 (by
              have : (48 : UInt8).toNat = 48 := rfl
              omega))
            simpa using this
          have hb2 : (b == 48) = false := by simpa using hb
          have hg : (({ data := (b :: r).toArray } : ByteArray)[0]'(by simp [ByteArray.size])).toNat = b.toNat := rfl
          rw [e]
          go_wp2
          go_ret
          exact HEND.out _
end Go.Proofs.Ytpchcigpppdfiab
