/-
  Contracts: powers, scaling, sums and products of lists, of the program and of the model. No conditions but that lists can be read.
-/
import Derived.Test.YtabpgkkickdopaaWc
import Derived.Test.YtabpgkkickdopaaGp
namespace Go.Proofs.Ytabpgkkickdopaa
set_option linter.unusedVariables false
open Go Go.RowKit

/-- Some number that is not finite. -/
def RetBad (w : World) (e : Ending) (w' : World) : Prop := ∃ r i n, e = .returned (.complex .f64 r i) ∧ finC r i = false ∧ w' = w.drewN n
theorem prod_yes {r i : Nat} {w : World} {e : Ending} {w' : World} (h : finC r i = true) (g : RetC r i w e w') : Ret (.complex .f64 r i) w e w' := by
  obtain ⟨x, y, n, rfl, h1, h2, rfl⟩ := g
  obtain ⟨f1, f2⟩ := finC_split h
  exact ⟨n, by rw [h1.eq f1, h2.eq f2], rfl⟩
theorem prod_no {r i : Nat} {w : World} {e : Ending} {w' : World} (h : finC r i = false) (g : RetC r i w e w') : RetBad w e w' := by
  obtain ⟨x, y, n, rfl, h1, h2, rfl⟩ := g
  exact ⟨x, y, n, rfl, by rw [finC_congr h1 h2]; exact h, rfl⟩

def one : Nat := 4607182418800017408
def mulF (a b c d : Nat) : Nat × Nat := (mRe a b c d, mIm a b c d)
def addF (a b c d : Nat) : Nat × Nat := (cf .add .f64 a c, cf .add .f64 b d)
/-- A list, folded while what comes is finite. -/
def foldC (f : Nat → Nat → Nat → Nat → Nat × Nat) (acc : Nat × Nat) : List (Nat × Nat) → Nat × Nat × Int
  | [] => (acc.1, acc.2, 0)
  | z :: r => if finC (f acc.1 acc.2 z.1 z.2).1 (f acc.1 acc.2 z.1 z.2).2 = true then foldC f (f acc.1 acc.2 z.1 z.2) r else (0, 0, 3)
theorem foldC_yes {f : Nat → Nat → Nat → Nat → Nat × Nat} {acc z : Nat × Nat} {r : List (Nat × Nat)} (h : finC (f acc.1 acc.2 z.1 z.2).1 (f acc.1 acc.2 z.1 z.2).2 = true) : foldC f acc (z :: r) = foldC f (f acc.1 acc.2 z.1 z.2) r := by
  unfold foldC; rw [if_pos h]; cases r <;> rfl
theorem foldC_no {f : Nat → Nat → Nat → Nat → Nat × Nat} {acc z : Nat × Nat} {r : List (Nat × Nat)} (h : finC (f acc.1 acc.2 z.1 z.2).1 (f acc.1 acc.2 z.1 z.2).2 = false) : foldC f acc (z :: r) = (0, 0, 3) := by
  unfold foldC; rw [if_neg (by rw [h]; decide)]
theorem foldC_fin (f : Nat → Nat → Nat → Nat → Nat × Nat) : ∀ (l : List (Nat × Nat)) (acc : Nat × Nat), finC acc.1 acc.2 = true → finC (foldC f acc l).1 (foldC f acc l).2.1 = true
  | [], acc, h => h
  | z :: r, acc, h => by
    cases hz : finC (f acc.1 acc.2 z.1 z.2).1 (f acc.1 acc.2 z.1 z.2).2 with
    | true => rw [foldC_yes hz]; exact foldC_fin f r _ hz
    | false => rw [foldC_no hz]; unfold finC; rw [isF_zero]; rfl

def powR (a b : Nat) (k : Int) : Nat × Nat × Int :=
  if finC a b = true then (if 0 ≤ k ∧ k ≤ 64 then foldC mulF (one, 0) (List.replicate k.toNat (a, b)) else (0, 0, 2)) else (0, 0, 1)

set_option maxHeartbeats 400000 in
theorem in_any (n lo hi : Int) (w : World) : Calls Try.prog 78 #[.int .i64 n, .int .i64 lo, .int .i64 hi] w fun e w' => e = .returned (.bool (decide (lo ≤ n ∧ n ≤ hi))) ∧ w = w' := by
  by_cases h1 : lo ≤ n
  · by_cases h2 : n ≤ hi
    · rw [decide_eq_true (show lo ≤ n ∧ n ≤ hi from ⟨h1, h2⟩)]
      go_enter Try.func78, Try.ntmps78
      go_wp2
      go_ret
      exact ⟨rfl, rfl⟩
    · rw [decide_eq_false (show ¬ (lo ≤ n ∧ n ≤ hi) from fun h => h2 h.2)]
      have h3 : decide (n ≤ hi) = false := decide_eq_false h2
      go_enter Try.func78, Try.ntmps78
      go_wp2
      go_ret
      exact ⟨rfl, rfl⟩
  · rw [decide_eq_false (show ¬ (lo ≤ n ∧ n ≤ hi) from fun h => h1 h.1)]
    have h3 : decide (lo ≤ n) = false := decide_eq_false h1
    go_enter Try.func78, Try.ntmps78
    go_wp2
    go_ret
    exact ⟨rfl, rfl⟩

theorem rep_step (K j : Nat) (h : j < K) (z : Nat × Nat) : List.replicate (K - j) z = z :: List.replicate (K - (j + 1)) z := by
  rw [show K - j = (K - (j + 1)) + 1 by omega]; rfl

/-! ### Scaling -/
def dn (x : Nat) : Nat → Nat | 0 => x | n + 1 => cf .mul .f64 (dn x n) 4602678819172646912
theorem dn_down (x n : Nat) : down x n = dn x n := by
  induction n with
  | zero => rfl
  | succ n ih => show cf .quo .f64 (down x n) _ = cf .mul .f64 (dn x n) _; rw [quo_two, ih]
def scaleR (a b : Nat) (k : Int) : Nat × Nat × Int :=
  if finC a b = true then (if -2200 ≤ k ∧ k ≤ 2200 then limC (scaled a k) (scaled b k) else (0, 0, 2)) else (0, 0, 1)

/-- Multiplying by f again and again. -/
def iter (f x : Nat) : Nat → Nat | 0 => x | n + 1 => cf .mul .f64 (iter f x n) f
theorem iter_up (x n : Nat) : iter 4611686018427387904 x n = up x n := by
  induction n with
  | zero => rfl
  | succ n ih => show cf .mul .f64 (iter _ x n) _ = cf .mul .f64 (up x n) _; rw [ih]
theorem iter_dn (x n : Nat) : iter 4602678819172646912 x n = dn x n := by
  induction n with
  | zero => rfl
  | succ n ih => show cf .mul .f64 (iter _ x n) _ = cf .mul .f64 (dn x n) _; rw [ih]

set_option maxHeartbeats 800000 in
theorem iScaleW (a b : Nat) (k : Int) (w : World) : Calls Try.prog 76 #[.complex .f64 a b, .int .i64 k] w (Ret (pairV (scaleR a b k)) w) := by
  unfold scaleR
  cases h : finC a b
  · rw [if_neg (by decide)]
    go_enter Try.func76, Try.ntmps76
    go_wp2_with (go_at_call 46; refine (iFin _ _ _).mono ?_; rintro e w' ⟨rfl, rfl⟩)
    go_ret2
    exact ⟨0, rfl, rfl⟩
  · rw [if_pos rfl]
    by_cases hk : -2200 ≤ k ∧ k ≤ 2200
    · rw [if_pos hk]
      obtain ⟨k1, k2⟩ := hk
      have hd1 : decide (k < -2200) = false := decide_eq_false (by omega)
      have hd2 : decide (2200 < k) = false := decide_eq_false (by omega)
      by_cases hneg : k < 0
      · obtain ⟨K, hK⟩ : ∃ K : Nat, k = -(K : Int) := ⟨(-k).toNat, by omega⟩
        have HK := Lib.hid hK
        have hsc : ∀ x, scaled x k = iter 4602678819172646912 x K := fun x => by
          unfold scaled
          rw [if_neg (by omega), dn_down, ← iter_dn, show (-k).toNat = K by omega]
        rw [hsc, hsc]
        clear hsc hK
        go_enter Try.func76, Try.ntmps76
        go_wp2_with (go_at_call 46; refine (iFin _ _ _).mono ?_; rintro e w' ⟨rfl, rfl⟩)
        clear hd1 hd2
        go_loopw [8, 9, 29] (fun u v i wr => ∃ (j p1 p2 n : Nat), j ≤ K ∧ u = .float .f64 p1 ∧ v = .float .f64 p2 ∧ NEq .f64 p1 (iter 4602678819172646912 a j) ∧ NEq .f64 p2 (iter 4602678819172646912 b j) ∧ i = .int .i64 j ∧ wr = w.drewN n) (fun _ _ i _ => K - (intOf i).toNat)
        case atStart => exact ⟨0, a, b, 0, Nat.zero_le _, rfl, rfl, NEq.refl _ _, NEq.refl _ _, rfl, rfl⟩
        case round =>
          obtain ⟨j, p1, p2, n, hj, rfl, rfl, g1, g2, rfl, rfl⟩ := hrel
          have G1 := Lib.hid g1
          have G2 := Lib.hid g2
          clear g1 g2
          by_cases hjk : j < K
          · have hlt : (j : Int) < -k := by rw [HK.out]; omega
            go_wp2
            go_roundw
            case rel => exact ⟨j + 1, _, _, _, by omega, rfl, rfl, (fop_eq _ _ _ _ _ _ _ rfl).trans (.inl (cf_congr G1.out (NEq.refl _ _))), (fop_eq _ _ _ _ _ _ _ rfl).trans (.inl (cf_congr G2.out (NEq.refl _ _))), by go_num, rfl⟩
            case measure => simp [intOf]; omega
          · obtain rfl : j = K := by omega
            have hlt : ¬ (j : Int) < -k := by rw [HK.out]; omega
            go_wp2_with (go_at_call 95; refine (limitWide_eq G1.out G2.out _).mono ?_; rintro e w' ⟨_, rfl, rfl⟩)
            go_ret2
            exact ⟨_, rfl, rfl⟩
      · obtain ⟨K, rfl⟩ := Int.eq_ofNat_of_zero_le (show 0 ≤ k by omega)
        have hsc : ∀ x, scaled x (K : Int) = iter 4611686018427387904 x K := fun x => by
          unfold scaled
          rw [if_pos (by omega), ← iter_up, Int.toNat_natCast]
        have hd3 : decide ((K : Int) < 0) = false := decide_eq_false hneg
        rw [hsc, hsc]
        clear hsc hneg k1
        go_enter Try.func76, Try.ntmps76
        go_wp2_with (go_at_call 46; refine (iFin _ _ _).mono ?_; rintro e w' ⟨rfl, rfl⟩)
        clear hd1 hd2 hd3
        go_loopw [8, 9, 29] (fun u v i wr => ∃ (j p1 p2 n : Nat), j ≤ K ∧ u = .float .f64 p1 ∧ v = .float .f64 p2 ∧ NEq .f64 p1 (iter 4611686018427387904 a j) ∧ NEq .f64 p2 (iter 4611686018427387904 b j) ∧ i = .int .i64 j ∧ wr = w.drewN n) (fun _ _ i _ => K - (intOf i).toNat)
        case atStart => exact ⟨0, a, b, 0, Nat.zero_le _, rfl, rfl, NEq.refl _ _, NEq.refl _ _, rfl, rfl⟩
        case round =>
          obtain ⟨j, p1, p2, n, hj, rfl, rfl, g1, g2, rfl, rfl⟩ := hrel
          have G1 := Lib.hid g1
          have G2 := Lib.hid g2
          clear g1 g2
          by_cases hjk : j < K
          · go_wp2
            go_roundw
            case rel => exact ⟨j + 1, _, _, _, by omega, rfl, rfl, (fop_eq _ _ _ _ _ _ _ rfl).trans (.inl (cf_congr G1.out (NEq.refl _ _))), (fop_eq _ _ _ _ _ _ _ rfl).trans (.inl (cf_congr G2.out (NEq.refl _ _))), by go_num, rfl⟩
            case measure => simp [intOf]; omega
          · obtain rfl : j = K := by omega
            go_wp2_with (go_at_call 95; refine (limitWide_eq G1.out G2.out _).mono ?_; rintro e w' ⟨_, rfl, rfl⟩)
            go_ret2
            exact ⟨_, rfl, rfl⟩
    · rw [if_neg hk]
      by_cases k1 : k < -2200
      · go_enter Try.func76, Try.ntmps76
        go_wp2_with (go_at_call 46; refine (iFin _ _ _).mono ?_; rintro e w' ⟨rfl, rfl⟩)
        go_ret2
        exact ⟨0, rfl, rfl⟩
      · have k2 : 2200 < k := by omega
        have hd1 : decide (k < -2200) = false := decide_eq_false k1
        clear hk
        go_enter Try.func76, Try.ntmps76
        go_wp2_with (go_at_call 46; refine (iFin _ _ _).mono ?_; rintro e w' ⟨rfl, rfl⟩)
        go_ret2
        exact ⟨0, rfl, rfl⟩
end Go.Proofs.Ytabpgkkickdopaa
