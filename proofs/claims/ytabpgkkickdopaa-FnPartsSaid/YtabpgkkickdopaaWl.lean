/-
  Contracts: sums and products of lists of wide numbers. Conditions: the list's cells can be read.
-/
import Derived.Test.YtabpgkkickdopaaWd
namespace Go.Proofs.Ytabpgkkickdopaa
set_option linter.unusedVariables false
open Go Go.RowKit

/-- A list of wide numbers that can be read. -/
def Cells (w : World) (a : Option Addr) (zs : List (Nat × Nat)) : Prop :=
  zs.length ≤ 9223372036854775807 ∧ ∀ (i : Nat) (h : i < zs.length), ∃ c o, a = some ⟨c, o, none⟩ ∧ w.cell? ⟨c, o + i, none⟩ = some (.complex .f64 zs[i].1 zs[i].2)
theorem Cells.drewN {w : World} {a : Option Addr} {zs : List (Nat × Nat)} (h : Cells w a zs) (n : Nat) : Cells (w.drewN n) a zs := h
def allF (zs : List (Nat × Nat)) : Bool := zs.all fun z => finC z.1 z.2
def chkR (zs : List (Nat × Nat)) : Int := if 100 < zs.length then 2 else if allF zs = true then 0 else 1
theorem allF_at {zs : List (Nat × Nat)} (h : allF zs = true) (i : Nat) (hi : i < zs.length) : finC zs[i].1 zs[i].2 = true := by
  unfold allF at h
  rw [List.all_eq_true] at h
  exact h _ (List.getElem_mem hi)
theorem allF_of {zs : List (Nat × Nat)} (h : ∀ (i : Nat) (hi : i < zs.length), finC zs[i].1 zs[i].2 = true) : allF zs = true := by
  unfold allF
  rw [List.all_eq_true]
  intro z hz
  obtain ⟨i, hi, rfl⟩ := List.getElem_of_mem hz
  exact h i hi
theorem drop_step {zs : List (Nat × Nat)} (j : Nat) (h : j < zs.length) : zs.drop j = zs[j] :: zs.drop (j + 1) := List.drop_eq_getElem_cons h

/-- The code came, and the world stayed but for draws. -/
theorem chk_some {zs : List (Nat × Nat)} (h : zs.length ≤ 100) (j : Nat) (hj : j < zs.length) (hb : finC zs[j].1 zs[j].2 = false) : chkR zs = 1 := by
  unfold chkR
  rw [if_neg (by omega)]
  cases ha : allF zs with
  | false => rw [if_neg (by decide)]
  | true => rw [allF_at ha j hj] at hb; cases hb
theorem chk_none {zs : List (Nat × Nat)} (h : zs.length ≤ 100) (hb : ∀ (i : Nat) (hi : i < zs.length), finC zs[i].1 zs[i].2 = true) : chkR zs = 0 := by
  unfold chkR
  rw [if_neg (by omega), if_pos (allF_of hb)]

set_option maxHeartbeats 800000 in
theorem iAll (a : Option Addr) (zs : List (Nat × Nat)) (cap : Nat) (w : World) (hc : Cells w a zs) : Calls Try.prog 49 #[.slice a zs.length cap] w (Ret (.bool (allF zs)) w) := by
  obtain ⟨hl, hcell⟩ := hc
  have HC := Lib.hid hcell
  clear hcell
  go_enter Try.func49, Try.ntmps49
  go_wp2_with fail
  go_loopw [7] (fun i wr => ∃ (j n : Nat), j ≤ zs.length ∧ i = .int .i64 j ∧ wr = w.drewN n ∧ Hid (∀ (i : Nat) (hi : i < zs.length), i < j → finC zs[i].1 zs[i].2 = true)) (fun i _ => zs.length - (intOf i).toNat)
  case atStart => exact ⟨0, 0, Nat.zero_le _, rfl, rfl, fun i hi h => absurd h (Nat.not_lt_zero _)⟩
  case round =>
    obtain ⟨j, n, hj, rfl, rfl, hf⟩ := hrel
    by_cases hjk : j < zs.length
    · obtain ⟨c, o, ha, hcell⟩ := HC.out j hjk
      subst ha
      have hjI : (j : Int) < (zs.length : Int) := by omega
      cases hq : finC zs[j].1 zs[j].2
      · have e : allF zs = false := by
          cases h : allF zs
          · rfl
          · have := allF_at h j hjk; rw [hq] at this; cases this
        rw [e]
        clear e
        go_wp2_with (go_at_call 46; refine (iFin _ _ _).mono ?_; rintro e w' ⟨rfl, rfl⟩)
        go_ret
        exact ⟨_, rfl, rfl⟩
      · have HQ := Lib.hid hq
        go_wp2_with (go_at_call 46; refine (iFin _ _ _).mono ?_; rintro e w' ⟨rfl, rfl⟩)
        go_roundw
        case rel =>
          refine ⟨j + 1, _, by omega, by go_num, rfl, fun i hi h => ?_⟩
          by_cases hij : i = j
          · subst hij; exact HQ.out
          · exact hf.out i hi (by omega)
        case measure => simp [intOf]; omega
    · have e : allF zs = true := allF_of (fun i hi => hf.out i hi (by omega))
      have HE := Lib.hid e
      clear e
      obtain rfl : j = zs.length := by omega
      go_wp2_with fail
      go_ret
      exact ⟨_, by rw [HE.out]; rfl, rfl⟩
def prodL (zs : List (Nat × Nat)) : Nat × Nat × Int := if chkR zs = 0 then foldC mulF (one, 0) zs else (0, 0, chkR zs)
def sumL (zs : List (Nat × Nat)) : Nat × Nat × Int := if chkR zs = 0 then foldC addF (0, 0) zs else (0, 0, chkR zs)
theorem chk_zero {zs : List (Nat × Nat)} (h : chkR zs = 0) : zs.length ≤ 100 := by
  unfold chkR at h
  split at h
  · cases h
  · omega

theorem caddF (P : Program) (t : TypeId) (a b c d : Nat) (h : finC (cf .add .f64 a c) (cf .add .f64 b d) = true) :
    (∀ W, (cadd P W .add t .f64 a b c d).1 = cf .add .f64 a c) ∧ (∀ W, (cadd P W .add t .f64 a b c d).2.1 = cf .add .f64 b d) := by
  obtain ⟨f1, f2⟩ := finC_split h
  exact ⟨fun W => (cadd_spec P W .add (.inl rfl) t .f64 a b c d).2.1.eq f1, fun W => (cadd_spec P W .add (.inl rfl) t .f64 a b c d).2.2.eq f2⟩
theorem caddN (P : Program) (t : TypeId) (a b c d : Nat) (h : finC (cf .add .f64 a c) (cf .add .f64 b d) = false) :
    ∀ W, finC (cadd P W .add t .f64 a b c d).1 (cadd P W .add t .f64 a b c d).2.1 = false := fun W => by
  have g := (cadd_spec P W .add (.inl rfl) t .f64 a b c d).2
  rw [finC_congr g.1 g.2]; exact h

end Go.Proofs.Ytabpgkkickdopaa
