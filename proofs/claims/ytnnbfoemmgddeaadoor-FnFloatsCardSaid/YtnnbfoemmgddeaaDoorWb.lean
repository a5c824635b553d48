/-
  Contracts of chapter 1's functions of wide numbers, of the program and of the model. No conditions.
-/
import Derived.Test.YtnnbfoemmgddeaaDoorWa
namespace Go.Proofs.YtnnbfoemmgddeaaDoor
set_option linter.unusedVariables false
open Go
theorem prod_facts (w : World) (a b c d : Nat) : ∃ r1 r2 r3 r4 r5 r6 n1 n2 n3 n4 n5 n6 : Nat,
    (binOp .mul 24 (.float .f64 a) (.float .f64 c)).run Tryd.prog w = .ok (.float .f64 r1) (w.drewN n1) ∧
    (binOp .mul 24 (.float .f64 b) (.float .f64 d)).run Tryd.prog (w.drewN n1) = .ok (.float .f64 r2) (w.drewN (n1 + n2)) ∧
    (binOp .sub 24 (.float .f64 r1) (.float .f64 r2)).run Tryd.prog (w.drewN (n1 + n2)) = .ok (.float .f64 r3) (w.drewN (n1 + n2 + n3)) ∧
    (binOp .mul 24 (.float .f64 a) (.float .f64 d)).run Tryd.prog (w.drewN (n1 + n2 + n3)) = .ok (.float .f64 r4) (w.drewN (n1 + n2 + n3 + n4)) ∧
    (binOp .mul 24 (.float .f64 b) (.float .f64 c)).run Tryd.prog (w.drewN (n1 + n2 + n3 + n4)) = .ok (.float .f64 r5) (w.drewN (n1 + n2 + n3 + n4 + n5)) ∧
    (binOp .add 24 (.float .f64 r4) (.float .f64 r5)).run Tryd.prog (w.drewN (n1 + n2 + n3 + n4 + n5)) = .ok (.float .f64 r6) (w.drewN (n1 + n2 + n3 + n4 + n5 + n6)) ∧
    NEq .f64 r3 (mRe a b c d) ∧ NEq .f64 r6 (mIm a b c d) := by
  obtain ⟨⟨r1, n1⟩, h1, g1⟩ := arith_ex Tryd.prog w .mul 24 .f64 a c rfl
  obtain ⟨⟨r2, n2⟩, h2, g2⟩ := arith_ex Tryd.prog (w.drewN n1) .mul 24 .f64 b d rfl
  obtain ⟨⟨r3, n3⟩, h3, g3⟩ := arith_ex Tryd.prog (w.drewN (n1 + n2)) .sub 24 .f64 r1 r2 rfl
  obtain ⟨⟨r4, n4⟩, h4, g4⟩ := arith_ex Tryd.prog (w.drewN (n1 + n2 + n3)) .mul 24 .f64 a d rfl
  obtain ⟨⟨r5, n5⟩, h5, g5⟩ := arith_ex Tryd.prog (w.drewN (n1 + n2 + n3 + n4)) .mul 24 .f64 b c rfl
  obtain ⟨⟨r6, n6⟩, h6, g6⟩ := arith_ex Tryd.prog (w.drewN (n1 + n2 + n3 + n4 + n5)) .add 24 .f64 r4 r5 rfl
  simp only [World.drewN_drewN] at h2 h3 h4 h5 h6
  exact ⟨r1, r2, r3, r4, r5, r6, n1, n2, n3, n4, n5, n6, h1, h2, h3, h4, h5, h6, g3.trans (.inl (cf_congr g1 g2)), g6.trans (.inl (cf_congr g4 g5))⟩

set_option maxHeartbeats 400000 in
theorem big_any (a : Option Addr) (len cap : Nat) (h : (len : Int) ≤ 4096) (w : World) : Calls Tryd.prog 4 #[.slice a len cap] w fun e w' => e = .returned (.bool false) ∧ w = w' := by
  have hd : decide ((4096 : Int) < (len : Int)) = false := decide_eq_false (by omega)
  go_enter Tryd.func4, Tryd.ntmps4
  go_wp2
  go_ret
  exact ⟨rfl, rfl⟩
set_option maxHeartbeats 400000 in
theorem big_yes (a : Option Addr) (len cap : Nat) (h : 4096 < (len : Int)) (w : World) : Calls Tryd.prog 4 #[.slice a len cap] w fun e w' => e = .returned (.bool true) ∧ w = w' := by
  go_enter Tryd.func4, Tryd.ntmps4
  go_wp2
  go_ret
  exact ⟨rfl, rfl⟩

end Go.Proofs.YtnnbfoemmgddeaaDoor
