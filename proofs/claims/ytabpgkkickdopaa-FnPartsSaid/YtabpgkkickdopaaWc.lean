/-
  Contracts: sizes, larger parts, conjugates, of the program and of the model. No conditions but that the model is asked about bits of a float64.
-/
import Derived.Test.YtabpgkkickdopaaWb
import Derived.Test.YtabpgkkickdopaaFg
import Derived.Test.YtabpgkkickdopaaSy
namespace Go.Proofs.Ytabpgkkickdopaa
set_option linter.unusedVariables false
open Go

def pairF (r : Nat × Int) : Value := .tuple #[.float .f64 r.1, .int .i64 r.2]
@[go_sem] theorem pairF_eq (r : Nat × Int) : pairF r = .tuple #[.float .f64 r.1, .int .i64 r.2] := rfl
def fitR (s : Nat) : Nat × Int := if isF .f64 s = true then (s, 0) else (0, 3)
theorem fit_yes {s : Nat} (h : isF .f64 s = true) : fitR s = (s, 0) := if_pos h
theorem fit_no {s : Nat} (h : isF .f64 s = false) : fitR s = (0, 3) := if_neg (by rw [h]; decide)
def sizeR (a b : Nat) : Nat × Int := if finC a b = true then fitR (cf .add .f64 (ab a) (ab b)) else (0, 1)
def largR (a b : Nat) : Nat × Int := if finC a b = true then (max (ab a) (ab b), 0) else (0, 1)
def conjR (a b : Nat) : Nat × Nat × Int := if finC a b = true then (a, Op.negFloat .f64 b, 0) else (0, 0, 1)

set_option maxHeartbeats 400000 in
theorem abs_ab (x : Nat) (w : World) : Calls Try.prog 104 #[.float .f64 x] w fun e w' => e = .returned (.float .f64 (ab x)) ∧ w = w' := abs_any x w

theorem max_run (P : Program) (ts : Array TypeId) (t : TypeId) (x y : Nat) (hx : isF .f64 x = true) (hy : isF .f64 y = true) (w : World) :
    (Builtin.max_ ts t #[.float .f64 (ab x), .float .f64 (ab y)]).run P w = .ok (.float .f64 (max (ab x) (ab y))) w := by
  obtain ⟨s, m, i, e⟩ := isF_read hx
  obtain ⟨u, n, j, g⟩ := isF_read hy
  obtain ⟨a1, a2, a3⟩ := ab_word e
  obtain ⟨b1, b2, b3⟩ := ab_word g
  have wf0 : ∀ r, f64.word false r = r := fun r => by unfold Ieee.Format.word; rw [if_neg (by decide)]
  have ho := order_word (rungOf_le m i) (rungOf_le n j)
  rw [← a1, ← b1] at ho
  rw [wf0] at a1 b1
  rw [← a1, ← b1] at ho
  have hn : ((FloatKind.f64.decode (ab x)).neg) = false := by
    show (f64.read (ab x)).neg = false
    rw [read_ab x e]; rfl
  have hmx : (Builtin.max2 (.float .f64 (ab x)) (.float .f64 (ab y))).run P w = .ok (.float .f64 (max (ab x) (ab y))) w := by
    unfold Builtin.max2
    simp only [kf, ho]
    by_cases h1 : ab x < ab y
    · rw [if_pos h1, Nat.max_eq_right (by omega)]; rfl
    · rw [if_neg h1]
      by_cases h2 : ab x = ab y
      · rw [if_pos h2, Nat.max_eq_left (by omega)]
        simp only [hn]; rfl
      · rw [if_neg h2, Nat.max_eq_left (by omega)]; rfl
  show ((Builtin.max2 (.float .f64 (ab x)) (.float .f64 (ab y))).bind fun b => List.foldlM Builtin.max2 b []).run P w = _
  show (Bind.bind (Builtin.max2 (.float .f64 (ab x)) (.float .f64 (ab y))) fun b => List.foldlM Builtin.max2 b []).run P w = _
  rw [Sem.run_bind, hmx]
  rfl

set_option maxHeartbeats 400000 in
theorem sAbsC (x : Nat) (hw : Wf x) (hx : isF .f64 x = true) (w : World) : Calls Try.prog 103 #[.float .f64 x] w fun e w' => e = .returned (.float .f64 (ab x)) ∧ w = w' := by
  obtain ⟨c1, c2, c3⟩ := abs_ways hw hx
  obtain ⟨s, m, i, e⟩ := isF_read hx
  have ho := order_zero e
  clear e hw hx
  by_cases hm : m = 0
  · rw [if_pos hm] at ho
    have e2 := c2 ho
    rw [← kf] at ho
    rw [e2]
    clear c1 c2 c3 hm e2
    have h1 : (FloatKind.f64.format.order x 0 == some .lt) = false := by rw [ho]; rfl
    have h2 : (FloatKind.f64.format.order x 0 == some .eq) = true := by rw [ho]; rfl
    clear ho
    go_enter Try.func103, Try.ntmps103
    go_wp2
    go_ret
    exact ⟨rfl, rfl⟩
  · rw [if_neg hm] at ho
    cases s
    · rw [if_neg (by decide)] at ho
      have e2 := c3 ho
      rw [← kf] at ho
      rw [← e2]
      clear c1 c2 c3 hm e2
      have h1 : (FloatKind.f64.format.order x 0 == some .lt) = false := by rw [ho]; rfl
      have h2 : (FloatKind.f64.format.order x 0 == some .eq) = false := by rw [ho]; rfl
      clear ho
      go_enter Try.func103, Try.ntmps103
      go_wp2
      go_ret
      exact ⟨rfl, rfl⟩
    · rw [if_pos rfl] at ho
      have e2 := c1 ho
      rw [← kf] at ho
      rw [← e2]
      clear c1 c2 c3 hm e2
      have h1 : (FloatKind.f64.format.order x 0 == some .lt) = true := by rw [ho]; rfl
      clear ho
      go_enter Try.func103, Try.ntmps103
      go_wp2
      go_ret
      exact ⟨rfl, rfl⟩

/-- The call returned a float, up to the bits of a NaN. -/
def RetNC (v : Nat) (w : World) (e : Ending) (w' : World) : Prop := ∃ x n : Nat, e = .returned (.float .f64 x) ∧ NEq .f64 x v ∧ w' = w.drewN n

set_option maxHeartbeats 400000 in
theorem sSizeRaw (a b : Nat) (ha : Wf a) (hb : Wf b) (h : finC a b = true) (w : World) : Calls Try.prog 87 #[.complex .f64 a b] w (RetNC (cf .add .f64 (ab a) (ab b)) w) := by
  obtain ⟨h1, h2⟩ := finC_split h
  clear h
  go_enter Try.func87, Try.ntmps87
  go_wp2_with (go_at_call 103; refine (sAbsC _ (by assumption) (by assumption) _).mono ?_; rintro e w' ⟨rfl, rfl⟩)
  go_ret
  exact ⟨_, _, rfl, fop_eq _ _ _ _ _ _ _ rfl, rfl⟩

end Go.Proofs.Ytabpgkkickdopaa
