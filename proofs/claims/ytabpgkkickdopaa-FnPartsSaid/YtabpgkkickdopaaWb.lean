/-
  Contracts of chapter 1's functions of wide numbers, of the program and of the model. No conditions.
-/
import Derived.Test.YtabpgkkickdopaaWa
namespace Go.Proofs.Ytabpgkkickdopaa
set_option linter.unusedVariables false
open Go
set_option maxHeartbeats 400000 in
theorem iFin (a b : Nat) (w : World) : Calls Try.prog 46 #[.complex .f64 a b] w fun e w' => e = .returned (.bool (finC a b)) ∧ w = w' := iFinite_any a b w
set_option maxHeartbeats 400000 in
theorem sFin (a b : Nat) (w : World) : Calls Try.prog 51 #[.complex .f64 a b] w (Ret (.bool (finC a b)) w) := sFinite_any a b w

set_option maxHeartbeats 400000 in
theorem limitWide_any (a b : Nat) (w : World) : Calls Try.prog 95 #[.complex .f64 a b] w (Ret (pairV (limC a b)) w) := by
  cases h : finC a b
  · rw [limC_no h]
    go_enter Try.func95, Try.ntmps95
    go_wp2_with (go_at_call 46; refine (iFin _ _ _).mono ?_; rintro e w' ⟨rfl, rfl⟩)
    go_ret2
    exact ⟨0, rfl, rfl⟩
  · rw [limC_yes h]
    go_enter Try.func95, Try.ntmps95
    go_wp2_with (go_at_call 46; refine (iFin _ _ _).mono ?_; rintro e w' ⟨rfl, rfl⟩)
    go_ret2
    exact ⟨0, rfl, rfl⟩

theorem limitWide_eq {a b a' b' : Nat} (h : NEq .f64 a a') (g : NEq .f64 b b') (w : World) : Calls Try.prog 95 #[.complex .f64 a b] w (Ret (pairV (limC a' b')) w) := by
  rw [← limC_congr h g]; exact limitWide_any a b w
theorem prod_facts (w : World) (a b c d : Nat) : ∃ r1 r2 r3 r4 r5 r6 n1 n2 n3 n4 n5 n6 : Nat,
    (binOp .mul 42 (.float .f64 a) (.float .f64 c)).run Try.prog w = .ok (.float .f64 r1) (w.drewN n1) ∧
    (binOp .mul 42 (.float .f64 b) (.float .f64 d)).run Try.prog (w.drewN n1) = .ok (.float .f64 r2) (w.drewN (n1 + n2)) ∧
    (binOp .sub 42 (.float .f64 r1) (.float .f64 r2)).run Try.prog (w.drewN (n1 + n2)) = .ok (.float .f64 r3) (w.drewN (n1 + n2 + n3)) ∧
    (binOp .mul 42 (.float .f64 a) (.float .f64 d)).run Try.prog (w.drewN (n1 + n2 + n3)) = .ok (.float .f64 r4) (w.drewN (n1 + n2 + n3 + n4)) ∧
    (binOp .mul 42 (.float .f64 b) (.float .f64 c)).run Try.prog (w.drewN (n1 + n2 + n3 + n4)) = .ok (.float .f64 r5) (w.drewN (n1 + n2 + n3 + n4 + n5)) ∧
    (binOp .add 42 (.float .f64 r4) (.float .f64 r5)).run Try.prog (w.drewN (n1 + n2 + n3 + n4 + n5)) = .ok (.float .f64 r6) (w.drewN (n1 + n2 + n3 + n4 + n5 + n6)) ∧
    NEq .f64 r3 (mRe a b c d) ∧ NEq .f64 r6 (mIm a b c d) := by
  obtain ⟨⟨r1, n1⟩, h1, g1⟩ := arith_ex Try.prog w .mul 42 .f64 a c rfl
  obtain ⟨⟨r2, n2⟩, h2, g2⟩ := arith_ex Try.prog (w.drewN n1) .mul 42 .f64 b d rfl
  obtain ⟨⟨r3, n3⟩, h3, g3⟩ := arith_ex Try.prog (w.drewN (n1 + n2)) .sub 42 .f64 r1 r2 rfl
  obtain ⟨⟨r4, n4⟩, h4, g4⟩ := arith_ex Try.prog (w.drewN (n1 + n2 + n3)) .mul 42 .f64 a d rfl
  obtain ⟨⟨r5, n5⟩, h5, g5⟩ := arith_ex Try.prog (w.drewN (n1 + n2 + n3 + n4)) .mul 42 .f64 b c rfl
  obtain ⟨⟨r6, n6⟩, h6, g6⟩ := arith_ex Try.prog (w.drewN (n1 + n2 + n3 + n4 + n5)) .add 42 .f64 r4 r5 rfl
  simp only [World.drewN_drewN] at h2 h3 h4 h5 h6
  exact ⟨r1, r2, r3, r4, r5, r6, n1, n2, n3, n4, n5, n6, h1, h2, h3, h4, h5, h6, g3.trans (.inl (cf_congr g1 g2)), g6.trans (.inl (cf_congr g4 g5))⟩

set_option maxHeartbeats 400000 in
theorem productWide_any (a b c d : Nat) (w : World) : Calls Try.prog 93 #[.complex .f64 a b, .complex .f64 c d] w (RetC (mRe a b c d) (mIm a b c d) w) := by
  obtain ⟨r1, r2, r3, r4, r5, r6, n1, n2, n3, n4, n5, n6, h1, h2, h3, h4, h5, h6, g1, g2⟩ := prod_facts w a b c d
  go_enter Try.func93, Try.ntmps93
  go_wp2
  go_ret
  exact ⟨_, _, _, rfl, g1, g2, rfl⟩

set_option maxHeartbeats 400000 in
theorem times_any (a b c d : Nat) (w : World) : Calls Try.prog 90 #[.complex .f64 a b, .complex .f64 c d] w (RetC (mRe a b c d) (mIm a b c d) w) := by
  obtain ⟨r1, r2, r3, r4, r5, r6, n1, n2, n3, n4, n5, n6, h1, h2, h3, h4, h5, h6, g1, g2⟩ := prod_facts w a b c d
  go_enter Try.func90, Try.ntmps90
  go_wp2
  go_ret
  exact ⟨_, _, _, rfl, g1, g2, rfl⟩

set_option maxHeartbeats 400000 in
theorem iAdd (a b c d : Nat) (w : World) : Calls Try.prog 57 #[.complex .f64 a b, .complex .f64 c d] w (Ret (pairV (addR a b c d)) w) := by
  cases h : finC a b
  · unfold addR
    rw [bothC_no1 h]
    go_enter Try.func57, Try.ntmps57
    go_wp2_with (go_at_call 46; refine (iFin _ _ _).mono ?_; rintro e w' ⟨rfl, rfl⟩)
    go_ret2
    first | exact ⟨_, rfl, rfl⟩ | exact ⟨0, rfl, rfl⟩
  · cases h' : finC c d
    · unfold addR
      rw [bothC_no2 h']
      go_enter Try.func57, Try.ntmps57
      go_wp2_with (go_at_call 46; refine (iFin _ _ _).mono ?_; rintro e w' ⟨rfl, rfl⟩)
      go_ret2
      first | exact ⟨_, rfl, rfl⟩ | exact ⟨0, rfl, rfl⟩
    · unfold addR
      rw [bothC_yes h h']
      have HX : ∀ W : World, ∃ r : Nat × Nat × Nat, (binOp .add 25 (.complex .f64 a b) (.complex .f64 c d)).run Try.prog W = .ok (.complex .f64 r.1 r.2.1) (W.drewN r.2.2) ∧ NEq .f64 r.1 (cf .add .f64 a c) ∧ NEq .f64 r.2.1 (cf .add .f64 b d) := fun W => csum_ex Try.prog W .add (by simp) 25 .f64 a b c d
      obtain ⟨f, hf⟩ := Classical.skolem.1 HX
      have h1 := fun W => (hf W).1
      have G := Lib.hid fun W => (hf W).2
      clear HX hf
      go_enter Try.func57, Try.ntmps57
      go_wp2_with (first | (go_at_call 46; refine (iFin _ _ _).mono ?_; rintro e w' ⟨rfl, rfl⟩) | (go_at_call 95; refine (limitWide_eq (G.out _).1 (G.out _).2 _).mono ?_; rintro e w' ⟨_, rfl, rfl⟩))
      go_ret2
      first | exact ⟨_, rfl, rfl⟩ | exact ⟨0, rfl, rfl⟩

set_option maxHeartbeats 400000 in
theorem iMul (a b c d : Nat) (w : World) : Calls Try.prog 56 #[.complex .f64 a b, .complex .f64 c d] w (Ret (pairV (mulR a b c d)) w) := by
  cases h : finC a b
  · unfold mulR
    rw [bothC_no1 h]
    go_enter Try.func56, Try.ntmps56
    go_wp2_with (go_at_call 46; refine (iFin _ _ _).mono ?_; rintro e w' ⟨rfl, rfl⟩)
    go_ret2
    first | exact ⟨_, rfl, rfl⟩ | exact ⟨0, rfl, rfl⟩
  · cases h' : finC c d
    · unfold mulR
      rw [bothC_no2 h']
      go_enter Try.func56, Try.ntmps56
      go_wp2_with (go_at_call 46; refine (iFin _ _ _).mono ?_; rintro e w' ⟨rfl, rfl⟩)
      go_ret2
      first | exact ⟨_, rfl, rfl⟩ | exact ⟨0, rfl, rfl⟩
    · unfold mulR
      rw [bothC_yes h h']
      go_enter Try.func56, Try.ntmps56
      go_wp2_with (first | (go_at_call 46; refine (iFin _ _ _).mono ?_; rintro e w' ⟨rfl, rfl⟩) | (go_at_call 93; refine (productWide_any _ _ _ _ _).mono ?_; rintro e w' ⟨_, _, _, rfl, _, _, rfl⟩) | (go_at_call 95; refine (limitWide_eq (a' := mRe a b c d) (b' := mIm a b c d) (by assumption) (by assumption) _).mono ?_; rintro e w' ⟨_, rfl, rfl⟩))
      go_ret2
      first | exact ⟨_, rfl, rfl⟩ | exact ⟨0, rfl, rfl⟩

/-- A finite float is the same as itself. -/
theorem float5_same (x : Nat) (hx : isF .f64 x = true) (w : World) : Calls Try.prog 53 #[.float .f64 x, .float .f64 x] w (Ret (.bool true) w) := by
  have hs := order_self (isF_not_isN hx)
  have HX : ∀ W : World, ∃ r : Nat × Nat, (binOp .quo 42 (.float .f64 4607182418800017408) (.float .f64 x)).run Try.prog W = .ok (.float .f64 r.1) (W.drewN r.2) ∧ NEq .f64 r.1 (cf .quo .f64 4607182418800017408 x) := fun W => arith_ex Try.prog W .quo 42 .f64 _ _ rfl
  obtain ⟨f, hf⟩ := Classical.skolem.1 HX
  have h1 := fun W => (hf W).1
  cases h0 : (FloatKind.f64.format.order x 0 == some .eq)
  · clear HX
    have h0' : (FloatKind.f64.format.order x 0 != some .eq) = true := by simp only [bne, h0]; rfl
    go_enter Try.func53, Try.ntmps53
    go_wp2
    go_ret
    first | exact ⟨_, rfl, rfl⟩ | exact ⟨0, rfl, rfl⟩
  · have h0' : (FloatKind.f64.format.order x 0 != some .eq) = false := by simp only [bne, h0]; rfl
    have ht : ∀ W W' : World, FloatKind.f64.format.order (f W).1 (f W').1 = some .eq := fun W W' => by
      rw [order_congr (hf W).2 (hf W').2]
      exact order_self (inv_zero (by simpa using h0))
    clear HX
    go_enter Try.func53, Try.ntmps53
    go_wp2
    go_ret
    first | exact ⟨_, rfl, rfl⟩ | exact ⟨0, rfl, rfl⟩

set_option maxHeartbeats 400000 in
theorem same5_same (a b : Nat) (h : finC a b = true) (w : World) : Calls Try.prog 11 #[.complex .f64 a b, .complex .f64 a b] w (Ret (.bool true) w) := by
  obtain ⟨ha, hb⟩ := finC_split h
  clear h
  go_enter Try.func11, Try.ntmps11
  go_wp2_with (go_at_call 53; refine (float5_same _ (by assumption) _).mono ?_; rintro e w' ⟨_, rfl, rfl⟩)
  go_ret
  first | exact ⟨_, rfl, rfl⟩ | exact ⟨0, rfl, rfl⟩

set_option maxHeartbeats 400000 in
theorem big_any (a : Option Addr) (len cap : Nat) (h : (len : Int) ≤ 4096) (w : World) : Calls Try.prog 6 #[.slice a len cap] w fun e w' => e = .returned (.bool false) ∧ w = w' := by
  have hd : decide ((4096 : Int) < (len : Int)) = false := decide_eq_false (by omega)
  go_enter Try.func6, Try.ntmps6
  go_wp2
  go_ret
  exact ⟨rfl, rfl⟩
set_option maxHeartbeats 400000 in
theorem big_yes (a : Option Addr) (len cap : Nat) (h : 4096 < (len : Int)) (w : World) : Calls Try.prog 6 #[.slice a len cap] w fun e w' => e = .returned (.bool true) ∧ w = w' := by
  go_enter Try.func6, Try.ntmps6
  go_wp2
  go_ret
  exact ⟨rfl, rfl⟩

end Go.Proofs.Ytabpgkkickdopaa
