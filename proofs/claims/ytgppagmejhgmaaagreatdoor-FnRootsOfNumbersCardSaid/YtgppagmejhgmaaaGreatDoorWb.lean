/-
  Contracts of chapter 1's functions of wide numbers, of the program and of the model. No conditions.
-/
import Derived.Test.YtgppagmejhgmaaaGreatDoorWa
namespace Go.Proofs.YtgppagmejhgmaaaGreatDoor
set_option linter.unusedVariables false
open Go
set_option maxHeartbeats 400000 in
theorem iFin (a b : Nat) (w : World) : Calls Tryz.prog 43 #[.complex .f64 a b] w fun e w' => e = .returned (.bool (finC a b)) ∧ w = w' := iFinite_any a b w
set_option maxHeartbeats 400000 in
theorem sFin (a b : Nat) (w : World) : Calls Tryz.prog 41 #[.complex .f64 a b] w (Ret (.bool (finC a b)) w) := sFinite_any a b w

set_option maxHeartbeats 400000 in
theorem limitWide_any (a b : Nat) (w : World) : Calls Tryz.prog 46 #[.complex .f64 a b] w (Ret (pairV (limC a b)) w) := by
  cases h : finC a b
  · rw [limC_no h]
    go_enter Tryz.func46, Tryz.ntmps46
    go_wp2_with (go_at_call 43; refine (iFin _ _ _).mono ?_; rintro e w' ⟨rfl, rfl⟩)
    go_ret2
    exact ⟨0, rfl, rfl⟩
  · rw [limC_yes h]
    go_enter Tryz.func46, Tryz.ntmps46
    go_wp2_with (go_at_call 43; refine (iFin _ _ _).mono ?_; rintro e w' ⟨rfl, rfl⟩)
    go_ret2
    exact ⟨0, rfl, rfl⟩

theorem limitWide_eq {a b a' b' : Nat} (h : NEq .f64 a a') (g : NEq .f64 b b') (w : World) : Calls Tryz.prog 46 #[.complex .f64 a b] w (Ret (pairV (limC a' b')) w) := by
  rw [← limC_congr h g]; exact limitWide_any a b w
theorem prod_facts (w : World) (a b c d : Nat) : ∃ r1 r2 r3 r4 r5 r6 n1 n2 n3 n4 n5 n6 : Nat,
    (binOp .mul 24 (.float .f64 a) (.float .f64 c)).run Tryz.prog w = .ok (.float .f64 r1) (w.drewN n1) ∧
    (binOp .mul 24 (.float .f64 b) (.float .f64 d)).run Tryz.prog (w.drewN n1) = .ok (.float .f64 r2) (w.drewN (n1 + n2)) ∧
    (binOp .sub 24 (.float .f64 r1) (.float .f64 r2)).run Tryz.prog (w.drewN (n1 + n2)) = .ok (.float .f64 r3) (w.drewN (n1 + n2 + n3)) ∧
    (binOp .mul 24 (.float .f64 a) (.float .f64 d)).run Tryz.prog (w.drewN (n1 + n2 + n3)) = .ok (.float .f64 r4) (w.drewN (n1 + n2 + n3 + n4)) ∧
    (binOp .mul 24 (.float .f64 b) (.float .f64 c)).run Tryz.prog (w.drewN (n1 + n2 + n3 + n4)) = .ok (.float .f64 r5) (w.drewN (n1 + n2 + n3 + n4 + n5)) ∧
    (binOp .add 24 (.float .f64 r4) (.float .f64 r5)).run Tryz.prog (w.drewN (n1 + n2 + n3 + n4 + n5)) = .ok (.float .f64 r6) (w.drewN (n1 + n2 + n3 + n4 + n5 + n6)) ∧
    NEq .f64 r3 (mRe a b c d) ∧ NEq .f64 r6 (mIm a b c d) := by
  obtain ⟨⟨r1, n1⟩, h1, g1⟩ := arith_ex Tryz.prog w .mul 24 .f64 a c rfl
  obtain ⟨⟨r2, n2⟩, h2, g2⟩ := arith_ex Tryz.prog (w.drewN n1) .mul 24 .f64 b d rfl
  obtain ⟨⟨r3, n3⟩, h3, g3⟩ := arith_ex Tryz.prog (w.drewN (n1 + n2)) .sub 24 .f64 r1 r2 rfl
  obtain ⟨⟨r4, n4⟩, h4, g4⟩ := arith_ex Tryz.prog (w.drewN (n1 + n2 + n3)) .mul 24 .f64 a d rfl
  obtain ⟨⟨r5, n5⟩, h5, g5⟩ := arith_ex Tryz.prog (w.drewN (n1 + n2 + n3 + n4)) .mul 24 .f64 b c rfl
  obtain ⟨⟨r6, n6⟩, h6, g6⟩ := arith_ex Tryz.prog (w.drewN (n1 + n2 + n3 + n4 + n5)) .add 24 .f64 r4 r5 rfl
  simp only [World.drewN_drewN] at h2 h3 h4 h5 h6
  exact ⟨r1, r2, r3, r4, r5, r6, n1, n2, n3, n4, n5, n6, h1, h2, h3, h4, h5, h6, g3.trans (.inl (cf_congr g1 g2)), g6.trans (.inl (cf_congr g4 g5))⟩

set_option maxHeartbeats 400000 in
theorem big_any (a : Option Addr) (len cap : Nat) (h : (len : Int) ≤ 4096) (w : World) : Calls Tryz.prog 4 #[.slice a len cap] w fun e w' => e = .returned (.bool false) ∧ w = w' := by
  have hd : decide ((4096 : Int) < (len : Int)) = false := decide_eq_false (by omega)
  go_enter Tryz.func4, Tryz.ntmps4
  go_wp2
  go_ret
  exact ⟨rfl, rfl⟩
set_option maxHeartbeats 400000 in
theorem big_yes (a : Option Addr) (len cap : Nat) (h : 4096 < (len : Int)) (w : World) : Calls Tryz.prog 4 #[.slice a len cap] w fun e w' => e = .returned (.bool true) ∧ w = w' := by
  go_enter Tryz.func4, Tryz.ntmps4
  go_wp2
  go_ret
  exact ⟨rfl, rfl⟩

end Go.Proofs.YtgppagmejhgmaaaGreatDoor
