/-
  Contracts of the laws' own helpers over whole numbers: count, copy, compare, mark, look. Conditions: the limbs can be read.
-/
import Derived.Test.YtnnbfoemmgddeaaMg
namespace Go.Proofs.Ytnnbfoemmgddeaa
set_option linter.unusedVariables false
open Go Go.RowKit

set_option maxHeartbeats 400000 in
theorem szInts_ok (a : Option Addr) (n c : Nat) (left : Int) (w : World) (h : (n : Int) ≤ left) (h0 : left ≤ 1048576) :
    Calls Try.prog 120 #[.slice a n c, .int .i64 left] w fun e w' => e = .returned (.int .i64 (left - n)) ∧ w = w' := by
  have h1 : 0 ≤ left - (n : Int) := by omega
  have h2 : decide (left - (n : Int) < 0) = false := decide_eq_false (by omega)
  go_enter Try.func120, Try.ntmps120
  go_wp2
  go_ret
  exact ⟨rfl, rfl⟩
set_option maxHeartbeats 400000 in
theorem szInts_no (a : Option Addr) (n c : Nat) (left : Int) (w : World) (h : left < (n : Int)) (hn : n ≤ 9223372036854775807) (h0 : left ≤ 1048576) (h1 : 0 ≤ left) :
    Calls Try.prog 120 #[.slice a n c, .int .i64 left] w fun e w' => e = .returned (.int .i64 (-1)) ∧ w = w' := by
  have h2 : decide (left - (n : Int) < 0) = true := decide_eq_true (by omega)
  go_enter Try.func120, Try.ntmps120
  go_wp2
  go_ret
  exact ⟨rfl, rfl⟩

set_option maxHeartbeats 400000 in
theorem szWhole_ok (s : Int) (a : Option Addr) (n c : Nat) (left : Int) (w : World) (h : (n : Int) ≤ left) (h0 : left ≤ 1048576) :
    Calls Try.prog 55 #[.agg #[.int .i64 s, .slice a n c], .int .i64 left] w (RetB (.int .i64 (left - n)) w) := by
  have H := Lib.hid fun W => szInts_ok a n c left W h h0
  have h1 : 0 ≤ left - (n : Int) := by omega
  have h2 : decide (left - (n : Int) < 0) = false := decide_eq_false (by omega)
  go_enter Try.func55, Try.ntmps55
  go_wp2_with (go_at_call 120; refine (H.out _).mono ?_; rintro e w' ⟨rfl, rfl⟩)
  go_ret
  exact ⟨rfl, (Below.refl _ _).alloc (Nat.le_refl _) _⟩
set_option maxHeartbeats 400000 in
theorem szWhole_no (s : Int) (a : Option Addr) (n c : Nat) (left : Int) (w : World) (h : left < (n : Int)) (hn : n ≤ 9223372036854775807) (h0 : left ≤ 1048576) (h1 : 0 ≤ left) :
    Calls Try.prog 55 #[.agg #[.int .i64 s, .slice a n c], .int .i64 left] w (RetB (.int .i64 (-1)) w) := by
  have H := Lib.hid fun W => szInts_no a n c left W h hn h0 h1
  clear h hn h0
  go_enter Try.func55, Try.ntmps55
  go_wp2_with (go_at_call 120; refine (H.out _).mono ?_; rintro e w' ⟨rfl, rfl⟩)
  go_ret
  exact ⟨rfl, (Below.refl _ _).alloc (Nat.le_refl _) _⟩

set_option maxHeartbeats 400000 in
theorem toInts (a : Option Addr) (xs : List Int) (c : Nat) (w : World) (B : Nat) (hB : B ≤ w.heap.size) (hl : xs.length ≤ 1048576) (hx : Ints w B a xs) :
    Calls Try.prog 123 #[.slice a xs.length c] w (RetL xs w) := by
  have HX := Lib.hid hx
  clear hx
  have hmk := mk_ints xs.length (by omega)
  have hl2 : xs.length ≤ 9223372036854775807 := by omega
  go_enter Try.func123, Try.ntmps123
  go_wp2
  clear hmk
  go_loopw [4] (fun i wr => ∃ k : Nat, k ≤ xs.length ∧ i = .int .i64 k ∧ RowI wr w.heap.size (part xs k) ∧ Below w.heap.size w wr) (fun i _ => xs.length - (intOf i).toNat)
  case atStart => exact ⟨0, Nat.zero_le _, rfl, by rw [part_zero]; exact RowI.made w _, (Below.refl _ _).alloc (Nat.le_refl _) _⟩
  case round =>
    obtain ⟨k, hk, rfl, hrow, hbel⟩ := hrel
    have HR := Lib.hid hrow
    have HB := Lib.hid hbel
    clear hrow hbel
    by_cases hkn : k < xs.length
    · obtain ⟨c', o, ha, hcB, hcell⟩ := HX.out k hkn
      subst ha
      obtain ⟨x, hxk⟩ : ∃ x, x = xs[k] := ⟨_, rfl⟩
      rw [← hxk] at hcell
      have HXK := Lib.hid hxk
      clear hxk
      have hkI : (k : Int) < (xs.length : Int) := by omega
      have h1 : wr.cell? ⟨c', o + k, none⟩ = some (.int .i64 x) := by rw [HB.out.cell (p := ⟨c', o + k, none⟩) (by show c' < _; omega)]; exact hcell
      have h2 := HR.out.cell k (by rw [part_length _ _ hk]; exact hkn)
      have h3 := HR.out.frozen k
      clear hcell
      go_wp2
      go_roundw
      case rel =>
        refine ⟨k + 1, by omega, by go_num, ?_, HB.out.setCell (Nat.le_refl _) _⟩
        rw [← part_set xs k hkn, ← HXK.out]
        exact HR.out.set_ k (by rw [part_length _ _ hk]; exact hkn) x
      case measure => simp [intOf]; omega
    · obtain rfl : k = xs.length := by omega
      go_wp2
      go_ret
      refine ⟨_, _, rfl, Nat.le_refl _, Own.row ?_ (Nat.le_refl _), HB.out⟩
      have := HR.out
      rwa [part_all] at this

/-- The marks that a law writes: m, m + 1, .. -/
def marks (m : Int) (n : Nat) : List Int := (List.range n).map (fun (i : Nat) => m + (i : Int))
theorem marks_length (m : Int) (n : Nat) : (marks m n).length = n := by simp [marks]
theorem marks_at (m : Int) (n i : Nat) (h : i < (marks m n).length) : (marks m n)[i] = m + i := by simp [marks]
/-- The first k are marked, the others as they were. -/
def markt (m : Int) (xs : List Int) (k : Nat) : List Int := marks m k ++ xs.drop k
theorem markt_length (m : Int) (xs : List Int) (k : Nat) (h : k ≤ xs.length) : (markt m xs k).length = xs.length := by simp [markt, marks_length]; omega
theorem markt_set (m : Int) (xs : List Int) (k : Nat) (h : k < xs.length) : (markt m xs k).set k (m + k) = markt m xs (k + 1) := by
  unfold markt
  apply List.ext_getElem
  · simp [marks_length]; omega
  · intro i h1 h2
    have hl : i < xs.length := by simp [marks_length] at h2; omega
    rw [List.getElem_set]
    split
    · rename_i e
      subst e
      rw [List.getElem_append_left (by rw [marks_length]; omega), marks_at]
    · by_cases hik : i < k
      · rw [List.getElem_append_left (by rw [marks_length]; omega), List.getElem_append_left (by rw [marks_length]; omega), marks_at, marks_at]
      · rw [List.getElem_append_right (by rw [marks_length]; omega), List.getElem_append_right (by rw [marks_length]; omega)]
        simp only [List.getElem_drop, marks_length]
        congr 1
        omega

/-- The slice's cells are written, nothing else. -/
def RetM (m : Int) (n : Nat) (a : Option Addr) (lo : Nat) (w : World) (e : Ending) (w' : World) : Prop :=
  e = .returned (.int .i64 (m + n)) ∧ Own w' lo a (marks m n) ∧ ∃ row, w.grownBy w' row ∧ ∀ g, row = some g → 0 < n ∧ a = some ⟨g, 0, none⟩

set_option maxHeartbeats 400000 in
theorem markInts (a : Option Addr) (xs : List Int) (c : Nat) (m : Int) (w : World) (lo : Nat) (hl : xs.length ≤ 4611686018427387904) (hx : Own w lo a xs) (hm0 : 0 ≤ m) (hm : m ≤ 4611686018427387903) :
    Calls Try.prog 129 #[.slice a xs.length c, .int .i64 m] w (RetM m xs.length a lo w) := by
  by_cases h0 : xs = []
  · subst h0
    clear hx hl hm
    simp only [List.length_nil]
    have HE := Lib.hid (show RetM m 0 a lo w (.returned (.int .i64 m)) w from ⟨by simp, .inl rfl, none, ⟨rfl, rfl, rfl, Nat.le_refl _, fun _ _ _ => rfl⟩, fun g hg => by cases hg⟩)
    go_enter Try.func129, Try.ntmps129
    go_wp2
    go_loop [5, 1] (fun i q => i = .int .i64 0 ∧ q = .int .i64 m) (fun _ _ => 0)
    case atStart => exact ⟨rfl, rfl⟩
    case round =>
      obtain ⟨rfl, rfl⟩ := hrel
      go_wp2
      go_ret
      exact HE.out
  · rcases hx with hx | ⟨g, rfl, hg, hrow⟩
    · exact absurd hx h0
    have hl2 : xs.length ≤ 9223372036854775807 := by omega
    have HR := Lib.hid hrow
    have hpos : 0 < xs.length := List.length_pos_iff.2 h0
    have HPO := Lib.hid hpos
    clear hrow h0 hpos
    go_enter Try.func129, Try.ntmps129
    go_wp2
    go_loopw [5, 1] (fun i q wr => ∃ k : Nat, k ≤ xs.length ∧ i = .int .i64 k ∧ q = .int .i64 (m + k) ∧ RowI wr g (markt m xs k) ∧ w.grownBy wr (some g)) (fun i _ _ => xs.length - (intOf i).toNat)
    case atStart => exact ⟨0, Nat.zero_le _, rfl, by simp, by simpa [markt, marks] using HR.out, ⟨rfl, rfl, rfl, Nat.le_refl _, fun _ _ _ => rfl⟩⟩
    case round =>
      obtain ⟨k, hk, rfl, rfl, hrow, hgr⟩ := hrel
      have HR := Lib.hid hrow
      have HG := Lib.hid hgr
      clear hrow hgr
      by_cases hkn : k < xs.length
      · have hkI : (k : Int) < (xs.length : Int) := by omega
        have h2 := HR.out.cell k (by rw [markt_length _ _ _ hk]; exact hkn)
        have h3 := HR.out.frozen k
        go_wp2
        go_roundw
        case rel =>
          refine ⟨k + 1, by omega, by go_num, by go_num, ?_, grown_set HG.out _ _⟩
          rw [← markt_set m xs k hkn]
          exact HR.out.set_ k (by rw [markt_length _ _ _ hk]; exact hkn) _
        case measure => simp [intOf]; omega
      · obtain rfl : k = xs.length := by omega
        go_wp2
        go_ret
        refine ⟨rfl, .inr ⟨g, rfl, hg, ?_⟩, some g, HG.out, fun g' hg' => by cases hg'; exact ⟨HPO.out, rfl⟩⟩
        have := HR.out
        rwa [markt, List.drop_length, List.append_nil] at this

set_option maxHeartbeats 400000 in
theorem markWhole (s : Int) (a : Option Addr) (xs : List Int) (c : Nat) (m : Int) (w : World) (lo : Nat) (hl : xs.length ≤ 4611686018427387904) (hx : Own w lo a xs) (hm0 : 0 ≤ m) (hm : m ≤ 4611686018427387903) :
    Calls Try.prog 60 #[.agg #[.int .i64 s, .slice a xs.length c], .int .i64 m] w (RetM m xs.length a lo w) := by
  have H := Lib.hid fun o => markInts a xs c m (w.alloc o) lo hl (hx.alloc o) hm0 hm
  have HE := Lib.hid (show ∀ o w', Own w' lo a (marks m xs.length) → (∃ row, (w.alloc o).grownBy w' row ∧ ∀ g, row = some g → 0 < xs.length ∧ a = some ⟨g, 0, none⟩) → RetM m xs.length a lo w (.returned (.int .i64 (m + xs.length))) w' from fun o w' h1 ⟨row, h2, h3⟩ =>
    ⟨rfl, h1, row, ⟨h2.os, h2.tape, h2.output, Nat.le_trans (by simp) h2.size, fun j hj hne => (h2.block j (by simp; omega) hne).trans (Below.heap_alloc w o j hj)⟩, h3⟩)
  clear hx
  go_enter Try.func60, Try.ntmps60
  go_wp2_with (go_at_call 129; refine (H.out _).mono ?_; rintro e w' ⟨rfl, h1, h2⟩; have H1 := Lib.hid h1; have H2 := Lib.hid h2; clear h1 h2)
  go_ret
  exact HE.out _ _ H1.out H2.out

set_option maxHeartbeats 400000 in
theorem heldInts (a : Option Addr) (n : Nat) (c : Nat) (m : Int) (w : World) (B : Nat) (hl : n ≤ 4611686018427387904) (hx : Ints w B a (marks m n)) (hm0 : 0 ≤ m) (hm : m ≤ 4611686018427387903) :
    Calls Try.prog 130 #[.slice a n c, .int .i64 m] w fun e w' => e = .returned (.int .i64 (m + n)) ∧ w = w' := by
  have HX := Lib.hid hx
  clear hx
  have hl2 : n ≤ 9223372036854775807 := by omega
  go_enter Try.func130, Try.ntmps130
  go_wp2
  go_loop [5, 1] (fun i q => ∃ k : Nat, k ≤ n ∧ i = .int .i64 k ∧ q = .int .i64 (m + k)) (fun i _ => n - (intOf i).toNat)
  case atStart => exact ⟨0, Nat.zero_le _, rfl, by simp⟩
  case round =>
    obtain ⟨k, hk, rfl, rfl⟩ := hrel
    by_cases hkn : k < n
    · obtain ⟨c', o, ha, hcB, hcell⟩ := HX.out k (by rw [marks_length]; exact hkn)
      rw [marks_at] at hcell
      subst ha
      have hkI : (k : Int) < (n : Int) := by omega
      have hz : (m + (k : Int) != m + (k : Int)) = false := by simp
      go_wp2
      go_round
      case rel => exact ⟨k + 1, by omega, by go_num, by go_num⟩
      case measure => simp [intOf]; omega
    · obtain rfl : k = n := by omega
      go_wp2
      go_ret
      exact ⟨rfl, rfl⟩

set_option maxHeartbeats 400000 in
theorem heldWhole (s : Int) (a : Option Addr) (n : Nat) (c : Nat) (m : Int) (w : World) (B : Nat) (hB : B ≤ w.heap.size) (hl : n ≤ 4611686018427387904) (hx : Ints w B a (marks m n)) (hm0 : 0 ≤ m) (hm : m ≤ 4611686018427387903) :
    Calls Try.prog 61 #[.agg #[.int .i64 s, .slice a n c], .int .i64 m] w (RetB (.int .i64 (m + n)) w) := by
  have H := Lib.hid fun o => heldInts a n c m (w.alloc o) B hl (hx.alloc hB o) hm0 hm
  have h2 : decide (m + (n : Int) < 0) = false := decide_eq_false (by omega)
  clear hx
  go_enter Try.func61, Try.ntmps61
  go_wp2_with (go_at_call 130; refine (H.out _).mono ?_; rintro e w' ⟨rfl, rfl⟩)
  go_ret
  exact ⟨rfl, (Below.refl _ _).alloc (Nat.le_refl _) _⟩

/-- The call returned a whole number in new memory. -/
def RetW (s : Int) (xs : List Int) (w : World) (e : Ending) (w' : World) : Prop := ∃ a c, e = .returned (.agg #[.int .i64 s, .slice a xs.length c]) ∧ xs.length ≤ c ∧ Own w' w.heap.size a xs ∧ Below w.heap.size w w'

set_option maxHeartbeats 400000 in
theorem toWhole (s : Int) (a : Option Addr) (xs : List Int) (c : Nat) (w : World) (B : Nat) (hB : B ≤ w.heap.size) (hl : xs.length ≤ 1048576) (hx : Ints w B a xs) :
    Calls Try.prog 57 #[.agg #[.int .i64 s, .slice a xs.length c]] w (RetW s xs w) := by
  have H := Lib.hid fun W (hW : Below w.heap.size w W) (hs : w.heap.size ≤ W.heap.size) => toInts a xs c W B (by omega) hl (hx.below (hW.mono hB))
  clear hx hl
  go_enter Try.func57, Try.ntmps57
  go_wp2_with fail
  refine (H.out _ (by repeat (first | exact Below.refl _ _ | assumption | refine Below.alloc ?_ (by simp <;> omega) _ | refine Below.setCell ?_ (by simp <;> omega) _ | refine below_drewN ?_ _)) (by simp <;> omega)).mono ?_
  rintro e w1 ⟨a1, c1, rfl, hc1, hown, hb⟩
  have HO := Lib.hid hown
  have HB := Lib.hid hb
  obtain ⟨hc, hf⟩ := bcell hb
  have hz : w.heap.size + 3 ≤ w1.heap.size := by have := hb.size; simp at this; omega
  clear hown hb
  go_wp2_with fail
  refine bodyPost_ret (v := .agg #[.int .i64 s, .slice a1 xs.length c1]) (by simp [results, Try.results57, go_sem, hc]) rfl ⟨a1, c1, rfl, hc1, ?_, ?_⟩
  · exact (((HO.out.setFar (by simp) _).setFar (by simp) _).setFar (by simp) _).mono (by simp <;> omega)
  · exact (((Below.trans (by repeat (first | exact Below.refl _ _ | assumption | refine Below.alloc ?_ (by simp <;> omega) _ | refine Below.setCell ?_ (by simp <;> omega) _ | refine below_drewN ?_ _)) (HB.out.mono (by simp <;> omega))).setCell (by simp <;> omega) _).setCell (by simp) _).setCell (by simp) _

set_option maxHeartbeats 400000 in
theorem eqWhole (s t : Int) (a b : Option Addr) (xs ys : List Int) (c1 c2 : Nat) (w : World) (B C : Nat) (hB : B ≤ w.heap.size) (hC : C ≤ w.heap.size) (hx : Ints w B a xs) (hy : Ints w C b ys) (hl : xs.length ≤ 9223372036854775807) :
    Calls Try.prog 59 #[.agg #[.int .i64 s, .slice a xs.length c1], .agg #[.int .i64 t, .slice b ys.length c2]] w (RetB (.bool (decide (s = t) && sameB xs ys)) w) := by
  have H := Lib.hid fun W (hW : Below w.heap.size w W) => eqInts a b xs ys c1 c2 W B C (hx.below (hW.mono hB)) (hy.below (hW.mono hC)) hl
  clear hx hy hl
  by_cases hs : s = t
  · subst hs
    have hz : (s != s) = false := by simp
    rw [decide_eq_true rfl, Bool.true_and]
    cases hv : sameB xs ys
    all_goals
      rw [hv] at H
      clear hv
      go_enter Try.func59, Try.ntmps59
      go_wp2_with fail
      refine (H.out _ (by repeat (first | exact Below.refl _ _ | assumption | refine Below.alloc ?_ (by simp <;> omega) _ | refine Below.setCell ?_ (by simp <;> omega) _ | refine below_drewN ?_ _))).mono ?_
      rintro e w1 ⟨n, rfl, rfl⟩
      go_wp2
      go_ret
      exact ⟨rfl, (by repeat (first | exact Below.refl _ _ | assumption | refine Below.alloc ?_ (by simp <;> omega) _ | refine Below.setCell ?_ (by simp <;> omega) _ | refine below_drewN ?_ _))⟩
  · have hz : (s != t) = true := by simpa using hs
    rw [decide_eq_false hs, Bool.false_and]
    clear hs
    go_enter Try.func59, Try.ntmps59
    go_wp2
    go_ret
    exact ⟨rfl, (by repeat (first | exact Below.refl _ _ | assumption | refine Below.alloc ?_ (by simp <;> omega) _ | refine Below.setCell ?_ (by simp <;> omega) _ | refine below_drewN ?_ _))⟩
theorem eqWhole_yes (s : Int) (a b : Option Addr) (xs : List Int) (n c1 c2 : Nat) (hn : n = xs.length) (w : World) (B C : Nat) (hB : B ≤ w.heap.size) (hC : C ≤ w.heap.size) (hx : Ints w B a xs) (hy : Ints w C b xs) (hl : n ≤ 9223372036854775807) :
    Calls Try.prog 59 #[.agg #[.int .i64 s, .slice a n c1], .agg #[.int .i64 s, .slice b n c2]] w (RetB (.bool true) w) := by
  subst hn
  have := eqWhole s s a b xs xs c1 c2 w B C hB hC hx hy hl
  rwa [sameB_yes rfl, decide_eq_true rfl] at this

/-- A variable's block. -/
def BoxAt (w : World) (g : Nat) (t : TypeId) (cs : Array Value) : Prop := w.heap[g]? = some (.cells cs t (0, 0))
section
variable {w w' : World} {g : Nat} {t : TypeId} {cs : Array Value}
theorem BoxAt.lt (h : BoxAt w g t cs) : g < w.heap.size := (Array.getElem?_eq_some_iff.1 h).1
theorem BoxAt.cell (h : BoxAt w g t cs) (i : Nat) : w.cell? ⟨g, i, none⟩ = cs[i]? := cell_of_row w g i cs t (0, 0) h
theorem BoxAt.frozen (h : BoxAt w g t cs) (i : Nat) : w.frozen? ⟨g, i, none⟩ = false := frozen_of_row w g i cs t h
theorem BoxAt.new (w : World) (t : TypeId) (cs : Array Value) : BoxAt (w.alloc (.cells cs t)) w.heap.size t cs := heap_alloc_new w _
theorem BoxAt.alloc (h : BoxAt w g t cs) (o : Obj) : BoxAt (w.alloc o) g t cs := (Below.heap_alloc w o g h.lt).trans h
theorem BoxAt.below (h : BoxAt w g t cs) (hb : Below w.heap.size w w') : BoxAt w' g t cs := (hb.block g h.lt).trans h
theorem BoxAt.drewN (h : BoxAt w g t cs) (n : Nat) : BoxAt (w.drewN n) g t cs := h
theorem BoxAt.far (h : BoxAt w g t cs) {p : Addr} (hp : g ≠ p.block) (u : Value) : BoxAt (w.setCell p u) g t cs := (Below.heap_setCell w p u g hp).trans h
theorem BoxAt.grown {row : Option Nat} (h : BoxAt w g t cs) (hg : w.grownBy w' row) (hne : some g ≠ row) : BoxAt w' g t cs := (hg.block g h.lt hne).trans h
theorem BoxAt.set_ (h : BoxAt w g t cs) (i : Nat) (u : Value) : BoxAt (w.setCell ⟨g, i, none⟩ u) g t (cs.setIfInBounds i u) := by
  unfold BoxAt at h ⊢
  simp [World.setCell, Array.getElem?_modify, h]
theorem BoxAt.two {v0 v1 : Value} (h : BoxAt w g t #[v0, v1]) : w.cell? ⟨g, 0, none⟩ = some v0 ∧ w.cell? ⟨g, 1, none⟩ = some v1 ∧ w.frozen? ⟨g, 0, none⟩ = false ∧ w.frozen? ⟨g, 1, none⟩ = false :=
  ⟨h.cell 0, h.cell 1, h.frozen 0, h.frozen 1⟩
end
/-- What a law asks. -/
def LawDone (w : World) (e : Ending) (w' : World) : Prop := e = .returned (.bool true) ∧ Below w.heap.size w w'
end Go.Proofs.Ytnnbfoemmgddeaa
