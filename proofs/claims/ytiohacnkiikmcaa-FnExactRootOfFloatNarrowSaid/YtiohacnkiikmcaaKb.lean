/-
  Contracts: square roots of floats, by the program. Conditions: none.
-/
import Derived.Test.YtiohacnkiikmcaaKa
namespace Go.Proofs.Ytiohacnkiikmcaa
set_option linter.unusedVariables false
open Go Go.RowKit Ieee

theorem fw_0 (i : Int) : fw false 0 i = 0 := by rw [fw_zero]; rfl
theorem fit_0 : Fit 0 0 := Fit.of (by omega) (by omega) (by omega)
theorem vz_sign {s : Bool} {m : Nat} {i d : Int} : vz s m i d < 0 ↔ s = true ∧ m ≠ 0 := by
  unfold vz
  have hp : 0 < 2 ^ (i - d).toNat := Nat.pow_pos (by omega)
  cases s
  · rw [signed_false]
    constructor
    · intro h; omega
    · intro h; cases h.1
  · rw [signed_true]
    constructor
    · intro h
      refine ⟨rfl, ?_⟩
      rintro rfl
      rw [Nat.zero_mul] at h
      omega
    · intro h
      have : 0 < m * 2 ^ (i - d).toNat := Nat.mul_pos (by have := h.2; omega) hp
      omega
/-- A finite float is less than 0 just if it has this sign and is no zero. -/
theorem lt0_fw (s : Bool) {m : Nat} {i : Int} (h : Fit m i) : (FloatKind.f64.format.order (fw s m i) 0 == some .lt) = (s && decide (m ≠ 0)) := by
  obtain ⟨d, hd1, hd2⟩ : ∃ d : Int, d ≤ i ∧ d ≤ 0 := ⟨min i 0, by omega, by omega⟩
  have h1 := order_fw s false h fit_0 hd1 hd2
  rw [fw_0] at h1
  rw [h1]
  have h2 : vz false 0 0 d = 0 := vz_zero.2 rfl
  rw [h2, compare_int]
  by_cases hl : vz s m i d < 0
  · rw [if_pos hl]
    obtain ⟨a, b⟩ := vz_sign.1 hl
    rw [a]; simp [b]
  · rw [if_neg hl]
    have h3 : (s && decide (m ≠ 0)) = false := by
      cases s
      · rfl
      · by_cases hm : m = 0
        · simp [hm]
        · exact absurd (vz_sign.2 ⟨rfl, hm⟩) hl
    rw [h3]
    split <;> rfl

/-- The library's root. -/
def sq (x : Nat) : Nat := (f64.sqrt x).getD 0
theorem sqrt_zero (s : Bool) (i : Int) : f64.sqrt (fw s 0 i) = some (fw s 0 i) := by
  have h0 : Fit 0 0 := fit_0
  obtain ⟨k, hr, _⟩ := read_fw s h0
  rw [fw_zero s i, ← fw_zero s 0]
  unfold Format.sqrt
  rw [hr, Nat.zero_mul]
  unfold Datum.root
  simp only [if_true]
  show some (f64.nearest s 0 _) = _
  rw [nearest_rung, rungOf_zero, fw_zero]
theorem sqrt_some {s : Bool} {m : Nat} {i : Int} (h : Fit m i) (hs : (s && decide (m ≠ 0)) = false) : f64.sqrt (fw s m i) = some (sq (fw s m i)) := by
  by_cases hm : m = 0
  · subst hm
    have := sqrt_zero s i
    unfold sq
    rw [this]; rfl
  · obtain rfl : s = false := by cases s <;> simp_all
    obtain ⟨c, r, e, h1, _⟩ := sqrt_fw h hm
    unfold sq
    rw [h1]; rfl
/-- The root of a float, and the code. -/
def rtF (x : Nat) : Nat × Int := if isF .f64 x = false then (0, 1) else if (FloatKind.f64.format.order x 0 == some .lt) = true then (0, 2) else (sq x, 0)
theorem rtF_no {x : Nat} (h : isF .f64 x = false) : rtF x = (0, 1) := by unfold rtF; rw [if_pos h]
theorem rtF_lt {x : Nat} (h : isF .f64 x = true) (h2 : (FloatKind.f64.format.order x 0 == some .lt) = true) : rtF x = (0, 2) := by unfold rtF; rw [if_neg (by rw [h]; decide), if_pos h2]
theorem rtF_yes {x : Nat} (h : isF .f64 x = true) (h2 : (FloatKind.f64.format.order x 0 == some .lt) = false) : rtF x = (sq x, 0) := by unfold rtF; rw [if_neg (by rw [h]; decide), if_neg (by rw [h2]; decide)]

theorem call_sqrt {x y : Nat} (h : f64.sqrt x = some y) (W : World) : (callFunc 104 #[.float .f64 x]).run Try.prog W = .ok (.value (.float .f64 y)) W := by
  rw [run_callFunc_extern Try.func104 (by kernel_rfl) (by kernel_rfl) (by kernel_rfl) (e := Extern.MathSqrt.sqrt) (by kernel_rfl)]
  have h' : FloatKind.f64.format.sqrt x = some y := h
  have e : Extern.MathSqrt.sqrt #[.float .f64 x] = pure (.float .f64 y) := by
    show (match FloatKind.f64.format.sqrt x with
      | some r => pure (Value.float .f64 r)
      | none => do pure (Value.float .f64 (← choose (.nanBits .f64 x x)))) = _
    rw [h']
  rw [e]
  rfl
set_option maxHeartbeats 400000 in
theorem iSqrt {x y : Nat} (h : f64.sqrt x = some y) (w : World) : Calls Try.prog 87 #[.float .f64 x] w fun e w' => e = .returned (.float .f64 y) ∧ w = w' := by
  have hc := fun W => call_sqrt h W
  clear h
  go_enter Try.func87, Try.ntmps87
  go_wp2
  go_ret
  exact ⟨rfl, rfl⟩

set_option maxHeartbeats 800000 in
theorem iRootOfFloat (x : Nat) (hx : x < 2 ^ 64) (w : World) : Calls Try.prog 38 #[.float .f64 x] w fun e w' => e = .returned (.tuple #[.float .f64 (rtF x).1, .int .i64 (rtF x).2]) ∧ w = w' := by
  have HF := Lib.hid fun W => isFiniteFloat_any x W
  cases hf : isF .f64 x
  · rw [hf] at HF
    rw [rtF_no hf]
    clear hx hf
    go_enter Try.func38, Try.ntmps38
    go_wp2_with (go_at_call 86; refine (HF.out _).mono ?_; rintro e w' ⟨rfl, rfl⟩)
    go_ret2
    exact ⟨rfl, rfl⟩
  · rw [hf] at HF
    cases hl : (FloatKind.f64.format.order x 0 == some .lt)
    · rw [rtF_yes hf hl]
      have HS := Lib.hid (show ∀ W, Calls Try.prog 87 #[.float .f64 x] W fun e w' => e = .returned (.float .f64 (sq x)) ∧ W = w' from fun W => by
        obtain ⟨s, m, i, he, hF, hC⟩ := fin_fw hx hf
        refine iSqrt ?_ W
        rw [he]
        refine sqrt_some hF ?_
        rw [← lt0_fw s hF, ← he]
        exact hl)
      obtain ⟨y, hy⟩ : ∃ y, sq x = y := ⟨_, rfl⟩
      rw [hy] at HS ⊢
      clear hx hf hy
      go_enter Try.func38, Try.ntmps38
      go_wp2_with (first | (go_at_call 86; refine (HF.out _).mono ?_; rintro e w' ⟨rfl, rfl⟩) | (go_at_call 87; refine (HS.out _).mono ?_; rintro e w' ⟨rfl, rfl⟩))
      go_ret2
      exact ⟨rfl, rfl⟩
    · rw [rtF_lt hf hl]
      clear hx hf
      go_enter Try.func38, Try.ntmps38
      go_wp2_with (go_at_call 86; refine (HF.out _).mono ?_; rintro e w' ⟨rfl, rfl⟩)
      go_ret2
      exact ⟨rfl, rfl⟩
end Go.Proofs.Ytiohacnkiikmcaa
