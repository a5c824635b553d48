/-
  Contracts: AddDyadics, SubtractDyadics, MultiplyDyadics and CompareDyadics of the program and of the model. Conditions: the limbs can be read; the library's table is as its initialiser lays it.
-/
import Derived.Test.YtnnbfoemmgddeaaGreatDoorQh
import Derived.Test.YtnnbfoemmgddeaaGreatDoorTg
namespace Go.Proofs.YtnnbfoemmgddeaaGreatDoor
set_option linter.unusedVariables false
open Go Go.RowKit

theorem fieldW (s x : Int) (a : Option Addr) (n c : Nat) (w : World) : (Instr.field 31 (.agg #[.int .i64 s, .slice a n c, .int .i64 x]) 0).run Tryz.prog w = .ok (.agg #[.int .i64 s, .slice a n c]) w := by kernel_rfl
theorem fieldS (s : Int) (a : Option Addr) (n c : Nat) (w : World) : (Instr.field 29 (.agg #[.int .i64 s, .slice a n c]) 0).run Tryz.prog w = .ok (.int .i64 s) w := by kernel_rfl
def subW (z1 x z2 y : Int) : Int × List Int × Int := addW z1 x (-z2) y
noncomputable def bothY (s : Int) (xs : List Int) (x t : Int) (ys : List Int) (y : Int) : Int := @ite _ (IsDy s xs x ∧ IsDy t ys y) (Classical.propDecidable _) 0 1
theorem bothY_yes {s x t y : Int} {xs ys : List Int} (h : IsDy s xs x) (k : IsDy t ys y) : bothY s xs x t ys y = 0 := by unfold bothY; rw [if_pos ⟨h, k⟩]
theorem bothY_no {s x t y : Int} {xs ys : List Int} (h : ¬ (IsDy s xs x ∧ IsDy t ys y)) : bothY s xs x t ys y = 1 := by unfold bothY; rw [if_neg h]
noncomputable def binY (f : Int → Int → Int → Int → Int × List Int × Int) (s : Int) (xs : List Int) (x t : Int) (ys : List Int) (y : Int) : Int × List Int × Int × Int := @ite _ (IsDy s xs x ∧ IsDy t ys y) (Classical.propDecidable _) (fitY (f (wv s xs) x (wv t ys) y)) (0, [], 0, 1)
theorem binY_yes {f : Int → Int → Int → Int → Int × List Int × Int} {s x t y : Int} {m n : Nat} (h : IsDy s (lim m) x) (k : IsDy t (lim n) y) : binY f s (lim m) x t (lim n) y = fitY (f (s * (m : Int)) x (t * (n : Int)) y) := by unfold binY; rw [if_pos ⟨h, k⟩, wv_lim, wv_lim]
theorem binY_no {f : Int → Int → Int → Int → Int × List Int × Int} {s x t y : Int} {xs ys : List Int} (h : ¬ (IsDy s xs x ∧ IsDy t ys y)) : binY f s xs x t ys y = (0, [], 0, 1) := by unfold binY; rw [if_neg h]
theorem binY_len (f : Int → Int → Int → Int → Int × List Int × Int) (s : Int) (xs : List Int) (x t : Int) (ys : List Int) (y : Int) : (binY f s xs x t ys y).2.1.length ≤ 200 := by
  unfold binY
  split
  · exact fitY_len _
  · simp
noncomputable def cmpY (f : Int → Int → Int → Int → Int × List Int × Int) (s : Int) (xs : List Int) (x t : Int) (ys : List Int) (y : Int) : Int × Int := @ite _ (IsDy s xs x ∧ IsDy t ys y) (Classical.propDecidable _) ((f (wv s xs) x (wv t ys) y).1, 0) (0, 1)
theorem cmpY_yes {f : Int → Int → Int → Int → Int × List Int × Int} {s x t y : Int} {m n : Nat} (h : IsDy s (lim m) x) (k : IsDy t (lim n) y) : cmpY f s (lim m) x t (lim n) y = ((f (s * (m : Int)) x (t * (n : Int)) y).1, 0) := by unfold cmpY; rw [if_pos ⟨h, k⟩, wv_lim, wv_lim]
theorem cmpY_no {f : Int → Int → Int → Int → Int × List Int × Int} {s x t y : Int} {xs ys : List Int} (h : ¬ (IsDy s xs x ∧ IsDy t ys y)) : cmpY f s xs x t ys y = (0, 1) := by unfold cmpY; rw [if_neg h]
theorem addZ_len {z1 z2 x y : Int} (h1 : (lim z1.natAbs).length ≤ 200) (h2 : (lim z2.natAbs).length ≤ 200) (hx1 : -5000 ≤ x) (hx2 : x ≤ 5000) (hy1 : -5000 ≤ y) (hy2 : y ≤ 5000) : (addW z1 x z2 y).2.1.length ≤ 3000 := by
  unfold addW
  refine Nat.le_trans (redS_len _ _ _) ?_
  have e1 := shZ_up_len (z := z1) (k := x - min x y) (by omega)
  have e2 := shZ_up_len (z := z2) (k := y - min x y) (by omega)
  have e3 := lim_le_of_le (Int.natAbs_add_le (shZ z1 (x - min x y)) (shZ z2 (y - min x y)))
  have e4 := lim_add_len (shZ z1 (x - min x y)).natAbs (shZ z2 (y - min x y)).natAbs
  omega
theorem addW_len {s t x y : Int} {m n : Nat} (hm : (lim m).length ≤ 200) (hn : (lim n).length ≤ 200) (hs : Sg s m) (ht : Sg t n) (hx1 : -5000 ≤ x) (hx2 : x ≤ 5000) (hy1 : -5000 ≤ y) (hy2 : y ≤ 5000) : (addW (s * (m : Int)) x (t * (n : Int)) y).2.1.length ≤ 3000 := addZ_len (by rw [hs.abs]; exact hm) (by rw [ht.abs]; exact hn) hx1 hx2 hy1 hy2
theorem subW_len {s t x y : Int} {m n : Nat} (hm : (lim m).length ≤ 200) (hn : (lim n).length ≤ 200) (hs : Sg s m) (ht : Sg t n) (hx1 : -5000 ≤ x) (hx2 : x ≤ 5000) (hy1 : -5000 ≤ y) (hy2 : y ≤ 5000) : (subW (s * (m : Int)) x (t * (n : Int)) y).2.1.length ≤ 3000 := addZ_len (by rw [hs.abs]; exact hm) (by rw [Int.natAbs_neg, ht.abs]; exact hn) hx1 hx2 hy1 hy2
theorem mulW_len {s t x y : Int} {m n : Nat} (hm : (lim m).length ≤ 200) (hn : (lim n).length ≤ 200) (hs : Sg s m) (ht : Sg t n) (hx1 : -5000 ≤ x) (hx2 : x ≤ 5000) (hy1 : -5000 ≤ y) (hy2 : y ≤ 5000) : (mulW (s * (m : Int)) x (t * (n : Int)) y).2.1.length ≤ 3000 := by
  unfold mulW
  refine Nat.le_trans (redS_len _ _ _) ?_
  rw [Int.natAbs_mul, hs.abs, ht.abs]
  have := lim_mul_len m n
  omega

end Go.Proofs.YtnnbfoemmgddeaaGreatDoor
