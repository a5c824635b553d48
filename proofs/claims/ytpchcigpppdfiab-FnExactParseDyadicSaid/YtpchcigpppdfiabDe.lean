/-
  Contract: magnitudeOfDigits. Conditions: the text has digits alone.
-/
import Derived.Test.YtpchcigpppdfiabDd
namespace Go.Proofs.Ytpchcigpppdfiab
set_option linter.unusedVariables false
open Go Go.RowKit

/-- The number that digits tell. -/
def dv (l : List UInt8) : Nat := l.foldl (fun n b => n * 10 + (b.toNat - 48)) 0
theorem dv_nil : dv [] = 0 := rfl
theorem dv_one (l : List UInt8) (b : UInt8) : dv (l ++ [b]) = dv l * 10 + (b.toNat - 48) := by simp [dv]
theorem dv_from (l : List UInt8) : ∀ n : Nat, l.foldl (fun n b => n * 10 + (b.toNat - 48)) n = n * 10 ^ l.length + dv l := by
  induction l with
  | nil => intro n; simp [dv_nil]
  | cons b r ih =>
    intro n
    have h1 := ih (n * 10 + (b.toNat - 48))
    have h2 := ih (0 * 10 + (b.toNat - 48))
    have h3 : dv (b :: r) = r.foldl (fun n b => n * 10 + (b.toNat - 48)) (0 * 10 + (b.toNat - 48)) := rfl
    rw [h3, h2, List.foldl_cons, h1, List.length_cons, Nat.pow_succ]
    grind
theorem dv_app (l r : List UInt8) : dv (l ++ r) = dv l * 10 ^ r.length + dv r := by
  rw [dv, List.foldl_append]
  exact dv_from r _
theorem dv_take (l : List UInt8) (k : Nat) (h : k < l.length) : dv (l.take (k + 1)) = dv (l.take k) * 10 + (l[k].toNat - 48) := by
  rw [List.take_succ_eq_append_getElem h, dv_one]
theorem dv_lt {l : List UInt8} (h : ∀ b ∈ l, isDig b) : dv l < 10 ^ l.length := by
  induction l with
  | nil => simp [dv_nil]
  | cons b r ih =>
    have h1 := ih (fun b hb => h b (by simp [hb]))
    have h2 := h b (by simp)
    unfold isDig at h2
    have h3 : dv (b :: r) = (0 * 10 + (b.toNat - 48)) * 10 ^ r.length + dv r := dv_from r _
    rw [h3, List.length_cons, Nat.pow_succ]
    have h4 : (0 * 10 + (b.toNat - 48)) * 10 ^ r.length ≤ 9 * 10 ^ r.length := Nat.mul_le_mul_right _ (by omega)
    omega
theorem extract_take (l : List UInt8) (n : Nat) : ({ data := l.toArray } : ByteArray).extract 0 n = { data := (l.take n).toArray } := by
  apply ByteArray.ext
  simp [ByteArray.data_extract]
theorem extract_drop (l : List UInt8) (n k : Nat) (h : k = l.length) : ({ data := l.toArray } : ByteArray).extract n k = { data := (l.drop n).toArray } := by
  apply ByteArray.ext
  subst h
  simp only [ByteArray.data_extract, List.extract_toArray, List.extract_eq_take_drop]
  rw [List.take_of_length_le (by simp)]
end Go.Proofs.Ytpchcigpppdfiab
