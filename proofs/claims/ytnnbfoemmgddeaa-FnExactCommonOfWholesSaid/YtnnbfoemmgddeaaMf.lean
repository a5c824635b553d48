/-
  Contracts: tests of whole numbers by the model, lists and whole numbers compared, copied and counted by the laws. Conditions: the limbs can be read.
-/
import Derived.Test.YtnnbfoemmgddeaaMe
namespace Go.Proofs.Ytnnbfoemmgddeaa
set_option linter.unusedVariables false
open Go Go.RowKit

set_option maxHeartbeats 400000 in
theorem in_yes (x lo hi : Int) (w : World) (h1 : lo ≤ x) (h2 : x ≤ hi) : Calls Try.prog 101 #[.int .i64 x, .int .i64 lo, .int .i64 hi] w fun e w' => e = .returned (.bool true) ∧ w = w' := by
  go_enter Try.func101, Try.ntmps101
  go_wp2
  go_ret
  exact ⟨rfl, rfl⟩
set_option maxHeartbeats 400000 in
theorem in_no (x lo hi : Int) (w : World) (h1 : x < lo ∨ hi < x) : Calls Try.prog 101 #[.int .i64 x, .int .i64 lo, .int .i64 hi] w fun e w' => e = .returned (.bool false) ∧ w = w' := by
  by_cases h : lo ≤ x
  · have h2 : ¬ x ≤ hi := by omega
    have h3 : decide (x ≤ hi) = false := decide_eq_false h2
    clear h1
    go_enter Try.func101, Try.ntmps101
    go_wp2
    go_ret
    exact ⟨rfl, rfl⟩
  · have h3 : decide (lo ≤ x) = false := decide_eq_false h
    clear h1
    go_enter Try.func101, Try.ntmps101
    go_wp2
    go_ret
    exact ⟨rfl, rfl⟩

set_option maxHeartbeats 400000 in
theorem sIs (s : Int) (a : Option Addr) (xs : List Int) (cap : Nat) (w : World) (B : Nat) (hB : B ≤ w.heap.size) (hl : xs.length ≤ 9223372036854775807) (hx : Ints w B a xs) :
    Calls Try.prog 145 #[.agg #[.int .i64 s, .slice a xs.length cap]] w (RetB (.bool (whB s xs)) w) := by
  have HX := Lib.hid hx
  clear hx
  obtain ⟨b, hb⟩ : ∃ b, b = whB s xs := ⟨_, rfl⟩
  rw [← hb]
  have HV := Lib.hid hb
  clear hb
  go_enter Try.func145, Try.ntmps145
  go_wp2
  go_loop [4] (fun i => ∃ k : Nat, k ≤ xs.length ∧ i = .int .i64 k ∧ Hid (∀ (j : Nat) (h : j < xs.length), j < k → 0 ≤ xs[j] ∧ xs[j] < 16777216)) (fun i => xs.length - (intOf i).toNat)
  case atStart => exact ⟨0, Nat.zero_le _, rfl, fun j h hj => absurd hj (Nat.not_lt_zero _)⟩
  case round =>
    obtain ⟨k, hk, rfl, hok⟩ := hrel
    by_cases hkn : k < xs.length
    · obtain ⟨c, o, ha, hcB, hcell⟩ := HX.out k hkn
      subst ha
      have hcb : c < w.heap.size := by omega
      obtain ⟨x, hxk⟩ : ∃ x, x = xs[k] := ⟨_, rfl⟩
      have HXK := Lib.hid hxk
      have hc1 : ∀ p, (w.alloc (.cells p 58)).cell? ⟨c, o + k, none⟩ = some (.int .i64 x) := fun p => by
        rw [World.cell?_alloc_lt w _ ⟨c, o + k, none⟩ hcb, HXK.out]; exact hcell
      clear hcell hxk
      have hkI : (k : Int) < (xs.length : Int) := by omega
      by_cases hx0 : 0 ≤ x ∧ x ≤ 16777215
      · obtain ⟨hx0, hx1⟩ := hx0
        go_wp2_with (go_at_call 101; refine (in_yes _ _ _ _ (by omega) (by omega)).mono ?_; rintro e w' ⟨rfl, rfl⟩)
        go_round
        case rel =>
          refine ⟨k + 1, by omega, by go_num, fun j h hj => ?_⟩
          by_cases hjk : j = k
          · subst hjk; rw [← HXK.out]; omega
          · exact hok.out j h (by omega)
        case measure => simp [intOf]; omega
      · have HW := Lib.hid (show b = _ from HV.out.trans (whB_no (fun h => by rcases h with h | h; omega; have := h.2.2.1 k hkn; rw [← HXK.out] at this; omega)))
        have hx2 : x < 0 ∨ 16777215 < x := by omega
        have HX2 := Lib.hid hx2
        clear hx0 hx2
        go_wp2_with (go_at_call 101; refine (in_no _ _ _ _ HX2.out).mono ?_; rintro e w' ⟨rfl, rfl⟩)
        go_ret
        exact ⟨by rw [HW.out]; rfl, (Below.refl _ _).alloc (Nat.le_refl _) _⟩
    · obtain rfl : k = xs.length := by omega
      clear hkn hk
      by_cases h0 : xs.length = 0
      · have hz : ((xs.length : Int) == 0) = true := by simp [h0]
        have e : b = decide (s = 0) := by
          by_cases hs : s = 0
          · exact HV.out.trans ((whB_yes (.inl ⟨h0, hs⟩)).trans (decide_eq_true hs).symm)
          · exact HV.out.trans ((whB_no (fun h => by rcases h with h | h; exact hs h.2; obtain ⟨k, _⟩ := h.2.1; omega)).trans (decide_eq_false hs).symm)
        have HW := Lib.hid e
        clear e h0
        go_wp2
        go_ret
        exact ⟨by rw [HW.out]; rfl, (Below.refl _ _).alloc (Nat.le_refl _) _⟩
      · have hz : ((xs.length : Int) == 0) = false := by simpa using h0
        have hpos : 0 < xs.length := by omega
        by_cases h200 : (xs.length : Int) ≤ 200
        · obtain ⟨c, o, ha, hcB, hcell⟩ := HX.out (xs.length - 1) (by omega)
          subst ha
          have hcb : c < w.heap.size := by omega
          have hi1 : ((xs.length : Int) - 1).toNat = xs.length - 1 := by omega
          have hi2 : (0 : Int) ≤ (xs.length : Int) - 1 := by omega
          obtain ⟨z, hzl⟩ : ∃ z, z = xs[xs.length - 1] := ⟨_, rfl⟩
          have HZ := Lib.hid hzl
          have hlast : ∀ p, (w.alloc (.cells p 58)).cell? ⟨c, o + (xs.length - 1), none⟩ = some (.int .i64 z) := fun p => by
            rw [World.cell?_alloc_lt w _ ⟨c, o + (xs.length - 1), none⟩ hcb, HZ.out]; exact hcell
          clear hcell hzl h0
          by_cases hz0 : z = 0
          · have HW := Lib.hid (show b = _ from HV.out.trans (whB_no (fun h => by rcases h with h | h; omega; obtain ⟨_, h⟩ := h.2.1; exact h (HZ.out ▸ hz0))))
            subst hz0
            go_wp2
            go_ret
            exact ⟨by rw [HW.out]; rfl, (Below.refl _ _).alloc (Nat.le_refl _) _⟩
          · have hne : (z != 0) = true := by simpa using hz0
            by_cases h1 : s = 1
            · have HW := Lib.hid (show b = _ from HV.out.trans (whB_yes (.inr ⟨by omega, ⟨hpos, fun h => hz0 (HZ.out.trans h)⟩, fun i h => hok.out i h h, .inl h1⟩)))
              have e1 : (s == 1) = true := by simpa using h1
              clear h1
              go_wp2
              go_ret
              exact ⟨by rw [HW.out]; rfl, (Below.refl _ _).alloc (Nat.le_refl _) _⟩
            · have e1 : (s == 1) = false := by simpa using h1
              by_cases h2 : s = -1
              · have HW := Lib.hid (show b = _ from HV.out.trans (whB_yes (.inr ⟨by omega, ⟨hpos, fun h => hz0 (HZ.out.trans h)⟩, fun i h => hok.out i h h, .inr h2⟩)))
                have e2 : (s == -1) = true := by simpa using h2
                clear h1 h2
                go_wp2
                go_ret
                exact ⟨by rw [HW.out]; rfl, (Below.refl _ _).alloc (Nat.le_refl _) _⟩
              · have HW := Lib.hid (show b = _ from HV.out.trans (whB_no (fun h => by rcases h with h | h; omega; rcases h.2.2.2 with h | h; exact h1 h; exact h2 h)))
                have e2 : (s == -1) = false := by simpa using h2
                clear h1 h2
                go_wp2
                go_ret
                exact ⟨by rw [HW.out]; rfl, (Below.refl _ _).alloc (Nat.le_refl _) _⟩
        · have HW := Lib.hid (show b = _ from HV.out.trans (whB_no (fun h => by rcases h with h | h; omega; have := h.1; omega)))
          have hd200 : decide ((xs.length : Int) ≤ 200) = false := decide_eq_false h200
          clear h200 h0
          go_wp2
          go_ret
          exact ⟨by rw [HW.out]; rfl, (Below.refl _ _).alloc (Nat.le_refl _) _⟩

/-- Some draws, and v. -/
def RetQ (v : Value) (w : World) (e : Ending) (w' : World) : Prop := ∃ n : Nat, e = .returned v ∧ w' = w.drewN n
noncomputable def sameB (xs ys : List Int) : Bool := @decide (xs = ys) (Classical.propDecidable _)
theorem sameB_yes {xs ys : List Int} (h : xs = ys) : sameB xs ys = true := by unfold sameB; exact @decide_eq_true _ (Classical.propDecidable _) h
theorem sameB_no {xs ys : List Int} (h : xs ≠ ys) : sameB xs ys = false := by unfold sameB; exact @decide_eq_false _ (Classical.propDecidable _) h

set_option maxHeartbeats 400000 in
theorem eqInts (a b : Option Addr) (xs ys : List Int) (c1 c2 : Nat) (w : World) (B C : Nat) (hx : Ints w B a xs) (hy : Ints w C b ys) (hl : xs.length ≤ 9223372036854775807) :
    Calls Try.prog 128 #[.slice a xs.length c1, .slice b ys.length c2] w (RetQ (.bool (sameB xs ys)) w) := by
  have HX := Lib.hid hx
  have HY := Lib.hid hy
  clear hx hy
  obtain ⟨r, hr⟩ : ∃ r, r = sameB xs ys := ⟨_, rfl⟩
  rw [← hr]
  have HV := Lib.hid hr
  clear hr
  by_cases hn : xs.length = ys.length
  · have hz : ((xs.length : Int) != (ys.length : Int)) = false := by simp [hn]
    have HN := Lib.hid hn
    clear hn
    go_enter Try.func128, Try.ntmps128
    go_wp2
    clear hz
    go_loopw [5] (fun i wr => ∃ k n : Nat, k ≤ xs.length ∧ i = .int .i64 k ∧ wr = w.drewN n ∧ Hid (∀ (j : Nat) (h : j < xs.length) (h' : j < ys.length), j < k → xs[j] = ys[j])) (fun i _ => xs.length - (intOf i).toNat)
    case atStart => exact ⟨0, 0, Nat.zero_le _, rfl, rfl, fun j h h' hj => absurd hj (Nat.not_lt_zero _)⟩
    case round =>
      obtain ⟨k, n, hk, rfl, rfl, hok⟩ := hrel
      by_cases hkn : k < xs.length
      · have hkm : k < ys.length := by have := HN.out; omega
        obtain ⟨c, o, ha, _, hcell⟩ := HX.out k hkn
        obtain ⟨c', o', ha', _, hcell'⟩ := HY.out k hkm
        subst ha ha'
        obtain ⟨x, hxk⟩ : ∃ x, x = xs[k] := ⟨_, rfl⟩
        obtain ⟨y, hyk⟩ : ∃ y, y = ys[k] := ⟨_, rfl⟩
        rw [← hxk] at hcell
        rw [← hyk] at hcell'
        have HXK := Lib.hid hxk
        have HYK := Lib.hid hyk
        clear hxk hyk
        have hkI : (k : Int) < (xs.length : Int) := by omega
        have hkJ : (k : Int) < (ys.length : Int) := by omega
        by_cases he : x = y
        · subst he
          have hz : (x != x) = false := by simp
          go_wp2
          go_quiet (fail)
          go_wp2
          go_roundw
          case rel =>
            refine ⟨k + 1, _, by omega, by go_num, rfl, fun j h h' hj => ?_⟩
            by_cases hjk : j = k
            · subst hjk; rw [← HXK.out, ← HYK.out]
            · exact hok.out j h h' (by omega)
          case measure => simp [intOf]; omega
        · have hz : (x != y) = true := by simpa using he
          have HW := Lib.hid (show r = _ from HV.out.trans (sameB_no (fun h => he (by rw [HXK.out, HYK.out]; subst h; rfl))))
          clear he
          go_wp2
          go_quiet (fail)
          go_wp2
          go_ret
          exact ⟨_, by rw [HW.out]; rfl, World.drewN_drewN _ _ _⟩
      · obtain rfl : k = xs.length := by omega
        have HW := Lib.hid (show r = _ from HV.out.trans (sameB_yes (List.ext_getElem HN.out (fun j h h' => hok.out j h h' h))))
        go_wp2
        go_ret
        exact ⟨_, by rw [HW.out]; rfl, rfl⟩
  · have HW := Lib.hid (show r = _ from HV.out.trans (sameB_no (fun h => hn (by rw [h]))))
    have hz : ((xs.length : Int) != (ys.length : Int)) = true := by simp; omega
    clear hn
    go_enter Try.func128, Try.ntmps128
    go_wp2
    go_ret
    exact ⟨0, by rw [HW.out]; rfl, rfl⟩
end Go.Proofs.Ytnnbfoemmgddeaa
