/-
  Contracts: AddWholes, SubtractWholes of the program. Conditions: the limbs can be read.
-/
import Derived.Test.YtpchcigpppdfiaaDoorMs
namespace Go.Proofs.YtpchcigpppdfiaaDoor
set_option linter.unusedVariables false
open Go Go.RowKit

/-- The value of a sign and limbs. -/
def wv (s : Int) (xs : List Int) : Int := s * (val (xs.map Int.toNat) : Int)
theorem wv_lim (s : Int) (n : Nat) : wv s (lim n) = s * n := by
  have : (lim n).map Int.toNat = dig n := by
    unfold lim ofN
    rw [List.map_map]
    have : (Int.toNat ∘ fun (x : Nat) => (x : Int)) = id := by funext x; simp
    rw [this, List.map_id]
  unfold wv
  rw [this, val_dig]
/-- A number if it fits, and the code. -/
def fitZ (z : Int) : Int × List Int × Int := fitW z.sign z.natAbs
noncomputable def binR (f : Int → Int → Int) (s : Int) (xs : List Int) (t : Int) (ys : List Int) : Int × List Int × Int := @ite _ (IsWh s xs ∧ IsWh t ys) (Classical.propDecidable _) (fitZ (f (wv s xs) (wv t ys))) (0, [], 1)
theorem binR_yes {f : Int → Int → Int} {s : Int} {xs : List Int} {t : Int} {ys : List Int} (h : IsWh s xs) (k : IsWh t ys) : binR f s xs t ys = fitZ (f (wv s xs) (wv t ys)) := by unfold binR; rw [if_pos ⟨h, k⟩]
theorem binR_no {f : Int → Int → Int} {s : Int} {xs : List Int} {t : Int} {ys : List Int} (h : ¬ (IsWh s xs ∧ IsWh t ys)) : binR f s xs t ys = (0, [], 1) := by unfold binR; rw [if_neg h]
theorem retWC_zero {w W0 W : World} (code : Int) (P3 : Below w.heap.size w W0) (P4 : W0.heap.size = w.heap.size + 3) (hb : Below W0.heap.size W0 W) (u v : Value) :
    RetWC (0, [], code) w.heap.size w (.returned (.tuple #[.agg #[.int .i64 0, .slice none 0 0], .int .i64 code])) ((W.setCell ⟨w.heap.size + 1 + 1, 0, none⟩ u).setCell ⟨w.heap.size + 1 + 1, 1, none⟩ v) :=
  ⟨none, 0, rfl, Nat.le_refl _, .inl rfl, ((P3.trans (hb.mono (by omega))).setCell (by simp <;> omega) _).setCell (by simp <;> omega) _⟩
theorem retWC_end {w W0 W : World} {r : Int × List Int × Int} {a : Option Addr} {c : Nat} (P3 : Below w.heap.size w W0) (P4 : W0.heap.size = w.heap.size + 3) (hb : Below W0.heap.size W0 W) (u v : Value) (ho : Own W W0.heap.size a r.2.1) (hc : r.2.1.length ≤ c) :
    RetWC r w.heap.size w (.returned (.tuple #[.agg #[.int .i64 r.1, .slice a r.2.1.length c], .int .i64 r.2.2])) ((W.setCell ⟨w.heap.size + 1 + 1, 0, none⟩ u).setCell ⟨w.heap.size + 1 + 1, 1, none⟩ v) :=
  ⟨a, c, rfl, hc, ((ho.setFar (by simp; omega) _).setFar (by simp; omega) _).mono (by omega), ((P3.trans (hb.mono (by omega))).setCell (by simp <;> omega) _).setCell (by simp <;> omega) _⟩

end Go.Proofs.YtpchcigpppdfiaaDoor
