/-
  Contracts: strings.Cut at a p. Conditions: the text has at most 2^63 - 1 bytes.
-/
import Derived.Test.YtpchcigpppdfiabDb
import Derived.Test.YtpchcigpppdfiabDe
import Derived.Lib.Bytealg
import Derived.Laws.Externs
import Derived.BigRegion
namespace Go.Proofs.Ytpchcigpppdfiab
set_option linter.unusedVariables false
open Go Go.RowKit

theorem idx_no {l : List UInt8} (h : (112 : UInt8) ∉ l) : Lib.indexByte l 112 = -1 := by
  induction l with
  | nil => rfl
  | cons x r ih =>
    simp only [List.mem_cons, not_or] at h
    have hx : (x == 112) = false := by simpa using fun e => h.1 e.symm
    simp [Lib.indexByte, hx, ih h.2]
theorem idx_yes {f b : List UInt8} (h : (112 : UInt8) ∉ f) : Lib.indexByte (f ++ 112 :: b) 112 = f.length := by
  induction f with
  | nil => simp [Lib.indexByte]
  | cons x r ih =>
    simp only [List.mem_cons, not_or] at h
    have hx : (x == 112) = false := by simpa using fun e => h.1 e.symm
    have := ih h.2
    simp only [List.cons_append, Lib.indexByte, hx, this]
    have hne : ((r.length : Int) == -1) = false := by simp
    simp [hne]
set_option maxRecDepth 100000 in
set_option maxHeartbeats 1000000 in
theorem idxByte (l : List UInt8) (w : World) :
    Calls Try.prog 144 #[.string ⟨l.toArray⟩, .int .u8 112] w fun e w' => e = .returned (.int .i64 (Lib.indexByte l 112)) ∧ w = w' := by
  have hx : ∀ W, (callFunc 151 #[.string ⟨l.toArray⟩, .int .u8 112]).run Try.prog W = .ok (.value (.int .i64 (Lib.indexByte l 112))) W := fun W => by
    rw [run_callFunc_extern Try.func151 (by kernel_rfl) (by kernel_rfl) (by kernel_rfl) (e := Extern.BytealgIndexByte.indexByte) (by kernel_rfl), Lib.run_indexByteString]
    rfl
  obtain ⟨k, hk⟩ : ∃ k, k = Lib.indexByte l 112 := ⟨_, rfl⟩
  rw [← hk] at hx ⊢
  clear hk
  go_enter Try.func144, Try.ntmps144
  go_wp2
  go_ret
  exact ⟨rfl, rfl⟩
set_option maxRecDepth 100000 in
set_option maxHeartbeats 1000000 in
theorem idxP (l : List UInt8) (w : World) :
    Calls Try.prog 131 #[.string ⟨l.toArray⟩, .string ⟨#[112]⟩] w fun e w' => e = .returned (.int .i64 (Lib.indexByte l 112)) ∧ w = w' := by
  have H := Lib.hid (idxByte l)
  by_cases h1 : l = [112]
  · have e : Lib.indexByte l 112 = 0 := by rw [h1]; rfl
    rw [e] at H ⊢
    subst h1
    clear e
    go_enter Try.func131, Try.ntmps131
    go_wp2_with (go_at_call 144; refine (H.out _).mono ?_; rintro e w' ⟨rfl, rfl⟩)
    all_goals go_ret
    all_goals exact ⟨rfl, rfl⟩
  · obtain ⟨k, hk⟩ : ∃ k, k = Lib.indexByte l 112 := ⟨_, rfl⟩
    rw [← hk] at H ⊢
    clear hk
    have hq : ([112] == l) = false := by simpa using fun e => h1 e.symm
    go_enter Try.func131, Try.ntmps131
    go_wp2_with (go_at_call 144; refine (H.out _).mono ?_; rintro e w' ⟨rfl, rfl⟩)
    all_goals go_ret
    all_goals exact ⟨rfl, rfl⟩
theorem ext_take (f r : List UInt8) : ({ data := (f ++ r).toArray } : ByteArray).extract 0 f.length = { data := f.toArray } := by
  apply ByteArray.ext
  simp [ByteArray.data_extract]
theorem ext_drop (f b : List UInt8) (x : UInt8) (n m : Nat) (hn : n = f.length + 1) (hm : m = f.length + (b.length + 1)) : ({ data := (f ++ x :: b).toArray } : ByteArray).extract n m = { data := b.toArray } := by
  subst hn hm
  apply ByteArray.ext
  rw [ByteArray.data_extract]
  apply Array.ext'
  have e : f ++ x :: b = (f ++ [x]) ++ b := by simp
  have l : f.length + 1 = (f ++ [x]).length := by simp
  simp only [Array.toList_extract, List.toList_toArray, e, l, List.extract_eq_take_drop, List.drop_left]
  rw [List.take_of_length_le]
  omega
set_option maxRecDepth 100000 in
set_option maxHeartbeats 1000000 in
theorem cutNo (l : List UInt8) (h : (112 : UInt8) ∉ l) (w : World) :
    Calls Try.prog 46 #[.string ⟨l.toArray⟩, .string ⟨#[112]⟩] w fun e w' => e = .returned (.tuple #[.string ⟨l.toArray⟩, .string ⟨#[]⟩, .bool false]) ∧ w = w' := by
  have H := Lib.hid (idxP l)
  rw [idx_no h] at H
  clear h
  have H2 : ∀ w, Calls Try.prog 97 #[.string ⟨l.toArray⟩, .string ⟨#[112]⟩] w fun e w' => e = .returned (.tuple #[.string ⟨l.toArray⟩, .string ⟨#[]⟩, .bool false]) ∧ w = w' := fun w => by
    go_enter Try.func97, Try.ntmps97
    go_wp2_with (go_at_call 131; refine (H.out _).mono ?_; rintro e w' ⟨rfl, rfl⟩)
    refine bodyPost_ret (v := .tuple #[.string ⟨l.toArray⟩, .string ⟨#[]⟩, .bool false]) (by simp [results, Try.results97, go_sem, *]) rfl ?_
    exact ⟨rfl, rfl⟩
  have HC := Lib.hid H2
  clear H2 H
  go_enter Try.func46, Try.ntmps46
  go_wp2_with (go_at_call 97; refine (HC.out _).mono ?_; rintro e w' ⟨rfl, rfl⟩)
  refine bodyPost_ret (v := .tuple #[.string ⟨l.toArray⟩, .string ⟨#[]⟩, .bool false]) (by simp [results, Try.results46, go_sem, *]) rfl ?_
  exact ⟨rfl, rfl⟩
set_option maxRecDepth 100000 in
set_option maxHeartbeats 1000000 in
theorem cutYes (f b : List UInt8) (h : (112 : UInt8) ∉ f) (hl : f.length + (b.length + 1) ≤ 1048576) (w : World) :
    Calls Try.prog 46 #[.string ⟨(f ++ 112 :: b).toArray⟩, .string ⟨#[112]⟩] w fun e w' => e = .returned (.tuple #[.string ⟨f.toArray⟩, .string ⟨b.toArray⟩, .bool true]) ∧ Below w.heap.size w w' := by
  have H := Lib.hid (idxP (f ++ 112 :: b))
  rw [idx_yes h] at H
  clear h
  have e1 := ext_take f (112 :: b)
  have e2 := ext_drop f b 112 (f.length + 1) (f.length + (b.length + 1)) rfl rfl
  obtain ⟨L, hL⟩ : ∃ L, L = (f ++ 112 :: b).toArray := ⟨_, rfl⟩
  have hs : L.size = f.length + (b.length + 1) := by rw [hL]; simp
  rw [← hL] at H e1 e2 ⊢
  clear hL
  obtain ⟨n, hn⟩ : ∃ n, n = f.length := ⟨_, rfl⟩
  obtain ⟨k, hk⟩ : ∃ k, k = b.length := ⟨_, rfl⟩
  rw [← hn] at H e1 e2 hl hs
  rw [← hk] at e2 hl hs
  have H2 : ∀ w, Calls Try.prog 97 #[.string ⟨L⟩, .string ⟨#[112]⟩] w fun e w' => e = .returned (.tuple #[.string ⟨f.toArray⟩, .string ⟨b.toArray⟩, .bool true]) ∧ Below w.heap.size w w' := fun w => by
    clear hn hk
    go_enter Try.func97, Try.ntmps97
    go_wp2_with (go_at_call 131; refine (H.out _).mono ?_; rintro e w' ⟨rfl, rfl⟩)
    go_region
    go_wp2
    refine bodyPost_ret (v := .tuple #[.string ⟨f.toArray⟩, .string ⟨b.toArray⟩, .bool true]) (by simp [results, Try.results97, go_sem, *]) rfl ?_
    exact ⟨rfl, by repeat (first | exact Below.refl _ _ | exact (Below.refl _ _).drew | refine below_drewN ?_ _)⟩
  have HC := Lib.hid H2
  clear H2 H e1 e2
  go_enter Try.func46, Try.ntmps46
  go_wp2_with (go_at_call 97; refine (HC.out _).mono ?_; rintro e w' ⟨rfl, hb⟩)
  refine bodyPost_ret (v := .tuple #[.string ⟨f.toArray⟩, .string ⟨b.toArray⟩, .bool true]) (by simp [results, Try.results46, go_sem, *]) rfl ?_
  exact ⟨rfl, hb⟩
/-- A text with its first p, or without one. -/
theorem split_p (l : List UInt8) : (112 : UInt8) ∉ l ∨ ∃ f b, l = f ++ 112 :: b ∧ (112 : UInt8) ∉ f := by
  by_cases h : (112 : UInt8) ∈ l
  · exact .inr (List.eq_append_cons_of_mem h)
  · exact .inl h
end Go.Proofs.Ytpchcigpppdfiab
