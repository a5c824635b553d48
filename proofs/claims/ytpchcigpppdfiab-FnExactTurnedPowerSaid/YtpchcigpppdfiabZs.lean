/-
  Contracts: sameFloat, sameComplex of the laws: floats that are equal up to the bits of a NaN are the same. No conditions.
-/
import Derived.Test.YtpchcigpppdfiabWb
namespace Go.Proofs.Ytpchcigpppdfiab
set_option linter.unusedVariables false
open Go

theorem neq_isN {k : FloatKind} {x y : Nat} (h : NEq k x y) (g : isN k x = false) : x = y := by
  rcases h with h | ⟨h1, _⟩
  · exact h
  · rw [h1] at g; cases g

set_option maxHeartbeats 800000 in
theorem sameFloat_same (x y : Nat) (h : NEq .f64 x y) (w : World) : Calls Try.prog 93 #[.float .f64 x, .float .f64 y] w (Ret (.bool true) w) := by
  cases hn : isN .f64 x
  · obtain rfl := neq_isN h hn
    have hs := order_self hn
    have HX : ∀ W : World, ∃ r : Nat × Nat, (binOp .quo 36 (.float .f64 4607182418800017408) (.float .f64 x)).run Try.prog W = .ok (.float .f64 r.1) (W.drewN r.2) ∧ NEq .f64 r.1 (cf .quo .f64 4607182418800017408 x) := fun W => arith_ex Try.prog W .quo 36 .f64 _ _ rfl
    obtain ⟨f, hf⟩ := Classical.skolem.1 HX
    have h1 := fun W => (hf W).1
    clear h hn
    cases h0 : (FloatKind.f64.format.order x 0 == some .eq)
    · clear HX
      go_enter Try.func93, Try.ntmps93
      go_wp2
      go_ret
      first | exact ⟨_, rfl, rfl⟩ | exact ⟨0, rfl, rfl⟩
    · have ht : ∀ W W' : World, FloatKind.f64.format.order (f W).1 0 = FloatKind.f64.format.order (f W').1 0 := fun W W' => by
        rw [order_congr (hf W).2 (NEq.refl _ 0), order_congr (hf W').2 (NEq.refl _ 0)]
      clear HX
      go_enter Try.func93, Try.ntmps93
      go_wp2
      go_ret
      first | exact ⟨_, by rw [ht (w.drewN (f w).2) w]; simp, rfl⟩
  · have hm : isN .f64 y = true := by rw [← isN_congr h]; exact hn
    have o1 := order_nan_left (y := x) hn
    have o2 := order_nan_left (y := y) hm
    clear hn hm h
    go_enter Try.func93, Try.ntmps93
    go_wp2
    go_ret
    first | exact ⟨_, rfl, rfl⟩ | exact ⟨0, rfl, rfl⟩

set_option maxHeartbeats 800000 in
theorem sameComplex_same (a b c d : Nat) (h : NEq .f64 a c) (g : NEq .f64 b d) (w : World) : Calls Try.prog 44 #[.complex .f64 a b, .complex .f64 c d] w (Ret (.bool true) w) := by
  have H := Lib.hid fun W => sameFloat_same a c h W
  have G := Lib.hid fun W => sameFloat_same b d g W
  clear h g
  go_enter Try.func44, Try.ntmps44
  go_wp2_with (go_at_call 93; (first | (with_reducible refine (H.out _).mono ?_) | (with_reducible refine (G.out _).mono ?_)); rintro e w' ⟨_, rfl, rfl⟩)
  go_ret
  first | exact ⟨_, rfl, rfl⟩ | exact ⟨0, rfl, rfl⟩
end Go.Proofs.Ytpchcigpppdfiab
