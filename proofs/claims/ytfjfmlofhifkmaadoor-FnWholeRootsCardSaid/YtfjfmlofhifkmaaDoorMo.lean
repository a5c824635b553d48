/-
  Contracts: order of magnitudes and of whole numbers; sums and differences of whole numbers. Conditions: the limbs can be read.
-/
import Derived.Test.YtfjfmlofhifkmaaDoorMk
namespace Go.Proofs.YtfjfmlofhifkmaaDoor
set_option linter.unusedVariables false
open Go Go.RowKit

theorem quietL {P : Program} {f : FuncId} {args : Array Value} {w : World} {v : Value} (h : ∀ W, Calls P f args W fun e w' => e = .returned v ∧ W = w') (n : Nat) :
    Calls P f args (w.drewN n) fun e w'' => e = .returned v ∧ ∃ m, w'' = w.drewN m := (h _).mono fun _ _ ⟨he, hm⟩ => ⟨he, n, hm.symm⟩
theorem quietA {P : Program} {f : FuncId} {args : Array Value} {w : World} {v : Value} (h : ∀ W, Calls P f args W fun e w' => e = .returned v ∧ W = w') (q n : Nat) :
    Calls P f args (w.drewN (q + n)) fun e w'' => e = .returned v ∧ ∃ m, w'' = w.drewN (q + m) := (h _).mono fun _ _ ⟨he, hm⟩ => ⟨he, n, hm.symm⟩

set_option maxHeartbeats 400000 in
theorem iMagCompare (a b : Option Addr) (m n : Nat) (c1 c2 : Nat) (w : World) (B C : Nat) (hx : Ints w B a (lim m)) (hy : Ints w C b (lim n)) (hl : (lim m).length ≤ 4611686018427387904) (hl' : (lim n).length ≤ 4611686018427387904) :
    Calls Tryd.prog 103 #[.slice a (lim m).length c1, .slice b (lim n).length c2] w (RetQ (.int .i64 (cmpZ m n)) w) := by
  have HX := Lib.hid hx
  have HY := Lib.hid hy
  clear hx hy
  obtain ⟨r, hr⟩ : ∃ r, r = cmpZ m n := ⟨_, rfl⟩
  rw [← hr]
  have HV := Lib.hid hr
  clear hr
  rcases Nat.lt_trichotomy (lim m).length (lim n).length with h | h | h
  · have hlt : m < n := by
      have := lt_of_length (small_dig m) (norm_dig n) (by rwa [lim_length, lim_length] at h)
      rwa [val_dig, val_dig] at this
    have HW := Lib.hid (show r = -1 from HV.out.trans (cmpZ_lt (by omega)))
    have hc := Lib.hid fun W => (cmpInt (lim m).length (lim n).length W)
    rw [cmpZ_lt (by omega)] at hc
    clear h hlt
    go_enter Tryd.func103, Tryd.ntmps103
    go_wp2_with (go_at_call 142; refine (hc.out _).mono ?_; rintro e w' ⟨rfl, rfl⟩)
    go_ret
    exact ⟨0, by rw [HW.out]; rfl, rfl⟩
  · have hc := Lib.hid fun W => (cmpInt (lim m).length (lim n).length W)
    rw [cmpZ_eq (by omega)] at hc
    have HN := Lib.hid h
    clear h
    go_enter Tryd.func103, Tryd.ntmps103
    go_wp2_with (go_at_call 142; refine (hc.out _).mono ?_; rintro e w' ⟨rfl, rfl⟩)
    clear hc
    go_loopw [6] (fun i wr => ∃ k q : Nat, k ≤ (lim m).length ∧ i = .int .i64 ((k : Int) - 1) ∧ wr = w.drewN q ∧ Hid ((dig m).drop k = (dig n).drop k)) (fun i _ => (intOf i + 1).toNat)
    case atStart => exact ⟨_, 0, Nat.le_refl _, rfl, rfl, by
      have := HN.out
      rw [lim_length, lim_length] at this
      show (dig m).drop _ = (dig n).drop _
      rw [List.drop_eq_nil_of_le (by rw [lim_length]; exact Nat.le_refl _), List.drop_eq_nil_of_le (by rw [lim_length, this]; exact Nat.le_refl _)]⟩
    case round =>
      obtain ⟨k, q, hk, rfl, rfl, hd⟩ := hrel
      by_cases h0 : 0 < k
      · have hkm : k - 1 < (dig m).length := by rw [lim_length] at hk; omega
        have hkn : k - 1 < (dig n).length := by have := HN.out; rw [lim_length, lim_length] at this; omega
        obtain ⟨c, o, ha, _, hcell⟩ := HX.out (k - 1) (by rw [lim_length]; exact hkm)
        obtain ⟨c', o', ha', _, hcell'⟩ := HY.out (k - 1) (by rw [lim_length]; exact hkn)
        simp only [lim, ofN_at] at hcell hcell'
        subst ha ha'
        obtain ⟨x, hxk⟩ : ∃ x : Nat, x = (dig m)[k - 1] := ⟨_, rfl⟩
        obtain ⟨y, hyk⟩ : ∃ y : Nat, y = (dig n)[k - 1] := ⟨_, rfl⟩
        rw [← hxk] at hcell
        rw [← hyk] at hcell'
        have HXK := Lib.hid hxk
        have HYK := Lib.hid hyk
        clear hxk hyk
        have hi1 : ((k : Int) - 1).toNat = k - 1 := by omega
        have hi0 : (0 : Int) ≤ (k : Int) - 1 := by omega
        have hi2 : (k : Int) - 1 < ((lim m).length : Int) := by omega
        have hi3 : (k : Int) - 1 < ((lim n).length : Int) := by have := HN.out; omega
        have hdk : (dig m).drop (k - 1 + 1) = (dig n).drop (k - 1 + 1) := by rw [Nat.sub_add_cancel h0]; exact hd.out
        have HDK := Lib.hid hdk
        clear hdk
        have hlen : (dig m).length = (dig n).length := by have := HN.out; rwa [lim_length, lim_length] at this
        have HLEN := Lib.hid hlen
        clear hlen
        rcases Nat.lt_trichotomy x y with hxy | hxy | hxy
        · have hlt : m < n := by
            have := lt_of_limb (small_dig m) HLEN.out (k - 1) hkm HDK.out (by rw [← HXK.out, ← HYK.out]; exact hxy)
            rwa [val_dig, val_dig] at this
          have HW := Lib.hid (show r = -1 from HV.out.trans (cmpZ_lt (by omega)))
          have hc := Lib.hid fun W => (cmpI64 x y W)
          rw [cmpZ_lt (by omega)] at hc
          clear hlt hxy
          go_wp2
          go_quiet ((go_at_call 107; first | exact quietL hc.out _ | exact quietA hc.out _ _))
          go_wp2
          go_ret
          exact ⟨_, by rw [HW.out]; rfl, rfl⟩
        · have hc := Lib.hid fun W => (cmpI64 x y W)
          rw [cmpZ_eq (by omega)] at hc
          have hdd : (dig m).drop (k - 1) = (dig n).drop (k - 1) := drop_same HLEN.out (k - 1) hkm HDK.out (by rw [← HXK.out, ← HYK.out]; exact hxy)
          have HDD := Lib.hid hdd
          clear hdd hxy
          go_wp2
          go_quiet ((go_at_call 107; first | exact quietL hc.out _ | exact quietA hc.out _ _))
          go_wp2
          go_roundw
          case rel => exact ⟨k - 1, _, by omega, (by first | rfl | (congr 1; omega)), rfl, HDD.out⟩
          case measure => simp [intOf]; omega
        · have hlt : n < m := by
            have := lt_of_limb (small_dig n) HLEN.out.symm (k - 1) (by rw [← HLEN.out]; exact hkm) HDK.out.symm (by rw [← HXK.out, ← HYK.out]; exact hxy)
            rwa [val_dig, val_dig] at this
          have HW := Lib.hid (show r = 1 from HV.out.trans (cmpZ_gt (by omega)))
          have hc := Lib.hid fun W => (cmpI64 x y W)
          rw [cmpZ_gt (by omega)] at hc
          clear hlt hxy
          go_wp2
          go_quiet ((go_at_call 107; first | exact quietL hc.out _ | exact quietA hc.out _ _))
          go_wp2
          go_ret
          exact ⟨_, by rw [HW.out]; rfl, rfl⟩
      · obtain rfl : k = 0 := by omega
        have heq : m = n := by
          have := hd.out
          simp only [List.drop_zero] at this
          rw [← val_dig m, ← val_dig n, this]
        have HW := Lib.hid (show r = 0 from HV.out.trans (cmpZ_eq (by omega)))
        clear heq
        go_wp2
        go_ret
        exact ⟨_, by rw [HW.out]; rfl, rfl⟩
  · have hlt : n < m := by
      have := lt_of_length (small_dig n) (norm_dig m) (by rwa [lim_length, lim_length] at h)
      rwa [val_dig, val_dig] at this
    have HW := Lib.hid (show r = 1 from HV.out.trans (cmpZ_gt (by omega)))
    have hc := Lib.hid fun W => (cmpInt (lim m).length (lim n).length W)
    rw [cmpZ_gt (by omega)] at hc
    clear h hlt
    go_enter Tryd.func103, Tryd.ntmps103
    go_wp2_with (go_at_call 142; refine (hc.out _).mono ?_; rintro e w' ⟨rfl, rfl⟩)
    go_ret
    exact ⟨0, by rw [HW.out]; rfl, rfl⟩
end Go.Proofs.YtfjfmlofhifkmaaDoor
