/-
  What the source draws: floats and wide numbers, whichever. No conditions.
-/
import Derived.Test.YtilpblekmdipfaaSd
import Derived.Test.YtilpblekmdipfaaFg
namespace Go.Proofs.Ytilpblekmdipfaa
open Go Go.RowKit

/-- The call returned some float and left the world alone, but for draws. -/
def RetF (w : World) (e : Ending) (w' : World) : Prop := ∃ x n : Nat, Wf x ∧ e = .returned (.float .f64 x) ∧ w' = w.drewN n

set_option maxHeartbeats 400000 in
theorem huge_any (w : World) : Calls Try.prog 90 #[] w (RetF w) := by
  go_enter Try.func90, Try.ntmps90
  go_wp2
  go_ret
  refine ⟨_, _, ?_, rfl, rfl⟩
  (first | assumption | exact wf_fop _ _ _ _ _ _ rfl | exact wf_int _ | exact wf_lit (by decide) | (refine wf_neg ?_; first | assumption | exact wf_fop _ _ _ _ _ _ rfl))

/-- x doubled n times; x halved n times. -/
def up (x : Nat) : Nat → Nat | 0 => x | n + 1 => cf .mul .f64 (up x n) 4611686018427387904
def down (x : Nat) : Nat → Nat | 0 => x | n + 1 => cf .quo .f64 (down x n) 4611686018427387904
def scaled (x : Nat) (k : Int) : Nat := if 0 ≤ k then up x k.toNat else down x (-k).toNat
def RetE (u v : Nat) (w : World) (e : Ending) (w' : World) : Prop := ∃ x n : Nat, (Wf u → Wf x) ∧ e = .returned (.float .f64 x) ∧ NEq .f64 x v ∧ w' = w.drewN n

set_option maxHeartbeats 400000 in
theorem scale_any (x : Nat) (k : Int) (w : World) (h1 : -9223372036854775808 ≤ k) (h2 : k ≤ 9223372036854775807) : Calls Try.prog 77 #[.float .f64 x, .int .i64 k] w (RetE x (scaled x k) w) := by
  go_enter Try.func77, Try.ntmps77
  go_wp2
  go_loopw [0, 1] (fun v i wr => ∃ (j : Nat) (y : Nat) (n : Nat), (0 ≤ k → (j : Int) ≤ k) ∧ (k < 0 → j = 0) ∧ v = .float .f64 y ∧ NEq .f64 y (up x j) ∧ (Wf x → Wf y) ∧ i = .int .i64 (k - j) ∧ wr = w.drewN n) (fun _ i _ => (intOf i).toNat)
  case atStart => exact ⟨0, x, 0, by omega, by omega, rfl, NEq.refl _ _, fun h => h, by simp, rfl⟩
  case round =>
    obtain ⟨j, y, n, hj1, hj2, rfl, hy, hw, rfl, rfl⟩ := hrel
    have HY := Lib.hid hy
    have HW := Lib.hid hw
    clear hy hw
    by_cases hk : 0 < k - j
    · go_wp2
      go_roundw
      case rel => exact ⟨j + 1, _, _, by omega, by omega, rfl, (fop_eq _ _ _ _ _ _ _ rfl).trans (.inl (cf_congr HY.out (NEq.refl _ _))), fun _ => wf_fop _ _ _ _ _ _ rfl, by go_num, rfl⟩
      case measure => simp [intOf]; omega
    · go_wp2
      go_loopw [0, 1] (fun v i wr => ∃ (j' : Nat) (y : Nat) (n : Nat), (k < 0 → (j' : Int) ≤ -k) ∧ (0 ≤ k → j' = 0) ∧ v = .float .f64 y ∧ NEq .f64 y (if 0 ≤ k then up x j else down x j') ∧ (Wf x → Wf y) ∧ i = .int .i64 (k - j + j') ∧ wr = w.drewN n) (fun _ i _ => (-(intOf i)).toNat)
      case atStart =>
        refine ⟨0, y, n, by omega, by omega, rfl, ?_, HW.out, by simp, rfl⟩
        split
        · exact HY.out
        · obtain rfl : j = 0 := by omega
          exact HY.out
      case round =>
        obtain ⟨j', y', n', hl1, hl2, rfl, hy, hw, rfl, rfl⟩ := hrel
        have HY' := Lib.hid hy
        have HW' := Lib.hid hw
        clear hy hw
        by_cases hl : k - j + j' < 0
        · go_wp2
          go_roundw
          case rel =>
            refine ⟨j' + 1, _, _, by omega, by omega, rfl, (fop_eq _ _ _ _ _ _ _ rfl).trans (.inl ?_), fun _ => wf_fop _ _ _ _ _ _ rfl, by go_num, rfl⟩
            have h0 : ¬ 0 ≤ k := by omega
            have := HY'.out
            rw [if_neg h0] at this ⊢
            exact cf_congr this (NEq.refl _ _)
          case measure => simp [intOf]; omega
        · go_wp2
          go_ret
          refine ⟨_, _, HW'.out, rfl, ?_, rfl⟩
          have := HY'.out
          unfold scaled
          split
          · rename_i h0
            rw [if_pos h0] at this
            rw [show k.toNat = j by omega]; exact this
          · rename_i h0
            rw [if_neg h0] at this
            rw [show (-k).toNat = j' by omega]; exact this

section
variable {B : Nat} {a : Option Addr} {len cap b : Nat} {w W : World}
theorem Stay.alloc' (h : Stay B a len cap b w W) (o : Obj) : Stay B a len cap b w (W.alloc o) := h.alloc (by have := h.src.lo; have := h.src.hi; omega) o
theorem next_from (h : Stay B a len cap b w W) (n : Int) (hn : 1 ≤ n) (hn' : n ≤ 9223372036854775807) : Calls Try.prog 76 #[.pointer (some ⟨b, 0, none⟩), .int .i64 n] W (Nxt B a len cap b n w) :=
  (next_any B a len cap b n W h.src hn hn').mono fun _ _ ⟨v, hv, he, hst⟩ => ⟨v, hv, he, h.trans hst⟩
theorem SomeF.from {e : Ending} {w' : World} (h : Stay B a len cap b w W) (g : SomeF B a len cap b W e w') : SomeF B a len cap b w e w' := by
  obtain ⟨x, hw, he, hst⟩ := g
  exact ⟨x, hw, he, h.trans hst⟩
theorem SomeC.from {e : Ending} {w' : World} (h : Stay B a len cap b w W) (g : SomeC B a len cap b W e w') : SomeC B a len cap b w e w' := by
  obtain ⟨x, y, hx, hy, he, hst⟩ := g
  exact ⟨x, y, hx, hy, he, h.trans hst⟩
theorem SomeI.from {e : Ending} {w' : World} (h : Stay B a len cap b w W) (g : SomeI B a len cap b W e w') : SomeI B a len cap b w e w' := by
  obtain ⟨x, h1, h2, he, hst⟩ := g
  exact ⟨x, h1, h2, he, h.trans hst⟩

def InI64 (x : Int) : Prop := -9223372036854775808 ≤ x ∧ x ≤ 9223372036854775807
/-- A pick out of a list that was just made. -/
theorem pick_from (h : Stay B a len cap b w W) (xs : List Int) (t : TypeId) (m : Nat) (hm : m = xs.length) (hm1 : 1 ≤ m) (hm2 : m ≤ 1000) (hx : ∀ x ∈ xs, InI64 x) (V : World) (hV : V = W.alloc (.cells (xs.map (Value.int .i64)).toArray t)) :
    Calls Try.prog 72 #[.pointer (some ⟨b, 0, none⟩), .slice (some ⟨W.heap.size, 0, none⟩) m m] V (SomeI B a len cap b w) := by
  subst hm hV
  have h2 := h.alloc' (.cells (xs.map (Value.int .i64)).toArray t)
  have hb := h.src.hi
  refine (pick_any B a len cap b W.heap.size xs.length xs.length _ h2.src hm1 hm2 (by simp) (by omega) fun i hi => ?_).mono fun _ _ g => SomeI.from h2 g
  obtain ⟨h3, h4⟩ := hx xs[i] (List.getElem_mem _)
  exact ⟨xs[i], h3, h4, by simp [List.getElem?_eq_getElem hi]⟩
end

def AnyI (B : Nat) (a : Option Addr) (len cap : Nat) (b : Nat) (w : World) (e : Ending) (w' : World) : Prop :=
  ∃ x : Int, e = .returned (.int .i64 x) ∧ Stay B a len cap b w w'
section
variable {B : Nat} {a : Option Addr} {len cap b : Nat} {w W : World}
theorem pick_some (h : Stay B a len cap b w W) (xs : List Int) (t : TypeId) (m : Nat) (hm : m = xs.length) (hm1 : 1 ≤ m) (hm2 : m ≤ 1000) (hx : ∀ x ∈ xs, InI64 x) (V : World) (hV : V = W.alloc (.cells (xs.map (Value.int .i64)).toArray t)) :
    Calls Try.prog 72 #[.pointer (some ⟨b, 0, none⟩), .slice (some ⟨W.heap.size, 0, none⟩) m m] V (AnyI B a len cap b w) :=
  (pick_from h xs t m hm hm1 hm2 hx V hV).mono fun _ _ ⟨x, _, _, he, hst⟩ => ⟨x, he, hst⟩
end

set_option maxHeartbeats 400000 in
theorem strange_any (B : Nat) (a : Option Addr) (len cap b : Nat) (w W : World) (ST : Stay B a len cap b w W) :
    Calls Try.prog 85 #[.pointer (some ⟨b, 0, none⟩)] W (SomeF B a len cap b w) := by
  go_enter Try.func85, Try.ntmps85
  go_wp2_with (first | (go_at_call 90; refine (huge_any _).mono ?_; rintro e w' ⟨x0, n0, hw0, rfl, rfl⟩) | (go_at_call 76; refine (next_from (by with_reducible (first | exact ST | exact ST.drewN _ | exact ST.alloc' _ | exact (ST.alloc' _).drewN _ | exact (ST.drewN _).alloc' _)) _ (by omega) (by omega)).mono ?_; rintro e w' ⟨v, hv, rfl, ST⟩))
  all_goals
    go_ret
    refine ⟨_, ?_, rfl, (by with_reducible (first | exact ST | exact ST.drewN _ | exact ST.alloc' _ | exact (ST.alloc' _).drewN _ | exact (ST.drewN _).alloc' _))⟩
    (first | assumption | exact wf_fop _ _ _ _ _ _ rfl | exact wf_int _ | exact wf_lit (by decide) | (refine wf_neg ?_; first | assumption | exact wf_fop _ _ _ _ _ _ rfl))
end Go.Proofs.Ytilpblekmdipfaa
