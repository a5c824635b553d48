/-
  Contracts: the powers of 0.8 + 0.6 i of both sides, up to the bits of a NaN. No conditions.
-/
import Derived.Test.YtpchcigpppdfiabZs
import Derived.Test.YtpchcigpppdfiabMe
import Derived.Lib.Hide
namespace Go.Proofs.Ytpchcigpppdfiab
set_option linter.unusedVariables false
open Go Go.RowKit

def intOf : Value → Int
  | .int _ n => n
  | _ => 0
/-- The powers, with one NaN for all. -/
def tpow : Nat → Nat × Nat
  | 0 => (4607182418800017408, 0)
  | n + 1 => (mRe (tpow n).1 (tpow n).2 4605380978949069210 4603579539098121011, mIm (tpow n).1 (tpow n).2 4605380978949069210 4603579539098121011)
theorem tpow_succ (n : Nat) : tpow (n + 1) = (mRe (tpow n).1 (tpow n).2 4605380978949069210 4603579539098121011, mIm (tpow n).1 (tpow n).2 4605380978949069210 4603579539098121011) := rfl
theorem mRe_congr {a b c d a' b' : Nat} (h : NEq .f64 a a') (g : NEq .f64 b b') : mRe a b c d = mRe a' b' c d := by
  unfold mRe
  rw [cf_congr h (NEq.refl _ c), cf_congr g (NEq.refl _ d)]
theorem mIm_congr {a b c d a' b' : Nat} (h : NEq .f64 a a') (g : NEq .f64 b b') : mIm a b c d = mIm a' b' c d := by
  unfold mIm
  rw [cf_congr h (NEq.refl _ d), cf_congr g (NEq.refl _ c)]

/-- The number that is returned is the power, up to the bits of a NaN. -/
def TP (k : Int) (w : World) (e : Ending) (w' : World) : Prop := ∃ a b n, e = .returned (.tuple #[.complex .f64 a b, .int .i64 (if 0 ≤ k ∧ k ≤ 100 then 0 else 2)]) ∧ w' = w.drewN n ∧ ((0 ≤ k ∧ k ≤ 100) → NEq .f64 a (tpow k.toNat).1 ∧ NEq .f64 b (tpow k.toNat).2) ∧ (¬ (0 ≤ k ∧ k ≤ 100) → a = 0 ∧ b = 0)

set_option maxHeartbeats 800000 in
theorem turn_in (n lo hi : Int) (w : World) : Calls Try.prog 85 #[.int .i64 n, .int .i64 lo, .int .i64 hi] w fun e w' => e = .returned (.bool (decide (lo ≤ n ∧ n ≤ hi))) ∧ w = w' := by
  by_cases h : lo ≤ n
  · by_cases h2 : n ≤ hi
    · have hd : decide (lo ≤ n ∧ n ≤ hi) = true := decide_eq_true ⟨h, h2⟩
      rw [hd]
      clear hd
      go_enter Try.func85, Try.ntmps85
      go_wp2
      go_ret
      exact ⟨rfl, rfl⟩
    · have hd : decide (lo ≤ n ∧ n ≤ hi) = false := decide_eq_false (fun q => h2 q.2)
      rw [hd]
      clear hd
      go_enter Try.func85, Try.ntmps85
      go_wp2
      go_ret
      exact ⟨rfl, rfl⟩
  · have hd : decide (lo ≤ n ∧ n ≤ hi) = false := decide_eq_false (fun q => h q.1)
    rw [hd]
    clear hd
    go_enter Try.func85, Try.ntmps85
    go_wp2
    go_ret
    exact ⟨rfl, rfl⟩

set_option maxHeartbeats 1600000 in
theorem iTurned (k : Int) (w : World) : Calls Try.prog 39 #[.int .i64 k] w (TP k w) := by
  by_cases hk : 0 ≤ k ∧ k ≤ 100
  · have hT : ∀ a b n, NEq .f64 a (tpow k.toNat).1 → NEq .f64 b (tpow k.toNat).2 → TP k w (.returned (.tuple #[.complex .f64 a b, .int .i64 0])) (w.drewN n) := fun a b n h g => ⟨a, b, n, by rw [if_pos hk], rfl, fun _ => ⟨h, g⟩, fun h => absurd hk h⟩
    have HT := Lib.hid hT
    obtain ⟨k1, k2⟩ := hk
    obtain ⟨K, rfl⟩ := Int.eq_ofNat_of_zero_le k1
    have hd1 : decide ((K : Int) < 0) = false := decide_eq_false (by omega)
    have hd2 : decide (100 < (K : Int)) = false := decide_eq_false (by omega)
    have hK : K ≤ 100 := by omega
    rw [Int.toNat_natCast] at HT
    clear k1 k2 hT
    go_enter Try.func39, Try.ntmps39
    go_wp2_with fail
    clear hd1 hd2
    go_loopw [4, 12] (fun v i wr => ∃ (j a b n : Nat), j ≤ K ∧ v = .complex .f64 a b ∧ i = .int .i64 j ∧ wr = w.drewN n ∧ Hid (NEq .f64 a (tpow j).1 ∧ NEq .f64 b (tpow j).2)) (fun _ i _ => K - (intOf i).toNat)
    case atStart => exact ⟨0, _, _, 0, Nat.zero_le _, rfl, rfl, rfl, ⟨NEq.refl _ _, NEq.refl _ _⟩⟩
    case round =>
      obtain ⟨j, a, b, n, hj, rfl, rfl, rfl, hf⟩ := hrel
      by_cases hjk : j < K
      · go_wp2_with (go_at_call 67; refine (productWide_any _ _ _ _ _).mono ?_; rintro e w' ⟨r, i, m, rfl, q1, q2, rfl⟩)
        go_roundw
        case rel => exact ⟨j + 1, _, _, _, by omega, rfl, by go_num, (by first | rfl | simp), (show NEq .f64 r (tpow (j + 1)).1 ∧ NEq .f64 i (tpow (j + 1)).2 from by rw [tpow_succ, ← mRe_congr hf.out.1 hf.out.2, ← mIm_congr hf.out.1 hf.out.2]; exact ⟨q1, q2⟩)⟩
        case measure => simp [intOf]; omega
      · obtain rfl : j = K := by omega
        go_wp2
        go_ret2
        exact HT.out _ _ _ hf.out.1 hf.out.2
  · have HT := Lib.hid (show TP k w (.returned (.tuple #[.complex .f64 0 0, .int .i64 2])) (w.drewN 0) from ⟨0, 0, 0, by rw [if_neg hk], rfl, fun h => absurd h hk, fun _ => ⟨rfl, rfl⟩⟩)
    by_cases k1 : k < 0
    · clear hk
      go_enter Try.func39, Try.ntmps39
      go_wp2_with fail
      go_ret2
      exact HT.out
    · have k2 : 100 < k := by omega
      have hd1 : decide (k < 0) = false := decide_eq_false k1
      clear hk
      go_enter Try.func39, Try.ntmps39
      go_wp2_with fail
      go_ret2
      exact HT.out

set_option maxHeartbeats 1600000 in
theorem sTurnedIn (K : Nat) (hK : K ≤ 100) (w : World) : Calls Try.prog 86 #[.int .i64 (K : Int)] w fun e w' => ∃ a b n, e = .returned (.complex .f64 a b) ∧ NEq .f64 a (tpow K).1 ∧ NEq .f64 b (tpow K).2 ∧ w' = w.drewN n := by
  go_enter Try.func86, Try.ntmps86
  go_wp2_with fail
  go_loopw [3, 0] (fun v i wr => ∃ (j a b n : Nat), j ≤ K ∧ v = .complex .f64 a b ∧ i = .int .i64 ((K : Int) - j) ∧ wr = w.drewN n ∧ Hid (NEq .f64 a (tpow j).1 ∧ NEq .f64 b (tpow j).2)) (fun _ i _ => (intOf i).toNat)
  case atStart => exact ⟨0, _, _, 0, Nat.zero_le _, rfl, by simp, rfl, ⟨NEq.refl _ _, NEq.refl _ _⟩⟩
  case round =>
    obtain ⟨j, a, b, n, hj, rfl, rfl, rfl, hf⟩ := hrel
    by_cases hjk : j < K
    · go_wp2_with (go_at_call 120; refine (times_any _ _ _ _ _).mono ?_; rintro e w' ⟨r, i, m, rfl, q1, q2, rfl⟩)
      go_roundw
      case rel => exact ⟨j + 1, _, _, _, by omega, rfl, by go_num, (by first | rfl | simp), (show NEq .f64 r (tpow (j + 1)).1 ∧ NEq .f64 i (tpow (j + 1)).2 from by rw [tpow_succ, ← mRe_congr hf.out.1 hf.out.2, ← mIm_congr hf.out.1 hf.out.2]; exact ⟨q1, q2⟩)⟩
      case measure => simp [intOf]; omega
    · obtain rfl : j = K := by omega
      go_wp2
      go_ret
      exact ⟨_, _, _, rfl, hf.out.1, hf.out.2, rfl⟩

set_option maxHeartbeats 1600000 in
theorem sTurned (k : Int) (w : World) : Calls Try.prog 40 #[.int .i64 k] w (TP k w) := by
  by_cases hk : 0 ≤ k ∧ k ≤ 100
  · have hT : ∀ a b n, NEq .f64 a (tpow k.toNat).1 → NEq .f64 b (tpow k.toNat).2 → TP k w (.returned (.tuple #[.complex .f64 a b, .int .i64 0])) (w.drewN n) := fun a b n h g => ⟨a, b, n, by rw [if_pos hk], rfl, fun _ => ⟨h, g⟩, fun h => absurd hk h⟩
    have HT := Lib.hid hT
    have hd := decide_eq_true hk
    obtain ⟨k1, k2⟩ := hk
    obtain ⟨K, rfl⟩ := Int.eq_ofNat_of_zero_le k1
    have hK : K ≤ 100 := by omega
    rw [Int.toNat_natCast] at HT
    have HI := Lib.hid fun W => (turn_in (K : Int) 0 100 W).mono fun e w' (h : e = _ ∧ W = w') => (show e = .returned (.bool true) ∧ W = w' from by rw [hd] at h; exact h)
    have HL := Lib.hid fun W => sTurnedIn K hK W
    clear k1 k2 hT hd
    go_enter Try.func40, Try.ntmps40
    go_wp2_with (first | (go_at_call 85; refine (HI.out _).mono ?_; rintro e w' ⟨rfl, rfl⟩) | (go_at_call 86; refine (HL.out _).mono ?_; rintro e w' ⟨r, i, m, rfl, q1, q2, rfl⟩))
    go_ret2
    exact HT.out _ _ _ q1 q2
  · have HT := Lib.hid (show TP k w (.returned (.tuple #[.complex .f64 0 0, .int .i64 2])) (w.drewN 0) from ⟨0, 0, 0, by rw [if_neg hk], rfl, fun h => absurd h hk, fun _ => ⟨rfl, rfl⟩⟩)
    have hd := decide_eq_false hk
    have HI := Lib.hid fun W => (turn_in k 0 100 W).mono fun e w' (h : e = _ ∧ W = w') => (show e = .returned (.bool false) ∧ W = w' from by rw [hd] at h; exact h)
    clear hd hk
    go_enter Try.func40, Try.ntmps40
    go_wp2_with (go_at_call 85; refine (HI.out _).mono ?_; rintro e w' ⟨rfl, rfl⟩)
    go_ret2
    exact HT.out

set_option maxHeartbeats 1600000 in
theorem TurnedPower_walk (k : Int) (w : World) (b1 : -9223372036854775808 ≤ k) (b2 : k ≤ 9223372036854775807) : Calls Try.prog 6 #[.int .i64 k] w (fun e w' => e = .returned (.bool true) ∧ Below w.heap.size w w') := by
  have H1 := Lib.hid fun W => sTurned k W
  have H2 := Lib.hid fun W => iTurned k W
  obtain ⟨c, hc⟩ : ∃ c : Int, (if 0 ≤ k ∧ k ≤ 100 then 0 else 2) = c := ⟨_, rfl⟩
  unfold TP at H1 H2
  rw [hc] at H1 H2
  have hcc : (c != c) = false := by simp
  have HC := Lib.hid (show ∀ (a b d f : Nat), ((0 ≤ k ∧ k ≤ 100) → NEq .f64 a (tpow k.toNat).1 ∧ NEq .f64 b (tpow k.toNat).2) → (¬ (0 ≤ k ∧ k ≤ 100) → a = 0 ∧ b = 0) → ((0 ≤ k ∧ k ≤ 100) → NEq .f64 d (tpow k.toNat).1 ∧ NEq .f64 f (tpow k.toNat).2) → (¬ (0 ≤ k ∧ k ≤ 100) → d = 0 ∧ f = 0) → ∀ W, Calls Try.prog 44 #[.complex .f64 a b, .complex .f64 d f] W (Ret (.bool true) W) from fun a b d f h1 h2 h3 h4 W => by
    by_cases hk : 0 ≤ k ∧ k ≤ 100
    · exact sameComplex_same _ _ _ _ ((h1 hk).1.trans (h3 hk).1.symm) ((h1 hk).2.trans (h3 hk).2.symm) W
    · obtain ⟨rfl, rfl⟩ := h2 hk
      obtain ⟨rfl, rfl⟩ := h4 hk
      exact sameComplex_same _ _ _ _ (NEq.refl _ _) (NEq.refl _ _) W)
  clear hc b1 b2
  go_enter Try.func6, Try.ntmps6
  go_wp2_with (first | (go_at_call 40; refine (H1.out _).mono ?_; rintro e w' ⟨s1, s2, n1, rfl, rfl, p1, p2⟩; have P1 := Lib.hid p1; have P2 := Lib.hid p2; clear p1 p2) | (go_at_call 39; refine (H2.out _).mono ?_; rintro e w' ⟨s3, s4, n2, rfl, rfl, p3, p4⟩; have P3 := Lib.hid p3; have P4 := Lib.hid p4; clear p3 p4) | (go_at_call 44; refine (HC.out _ _ _ _ P3.out P4.out P1.out P2.out _).mono ?_; rintro e w' ⟨n3, rfl, rfl⟩))
  go_ret
  refine ⟨rfl, ?_⟩
  repeat (first | exact Below.refl _ _ | refine below_drewN ?_ _)
end Go.Proofs.Ytpchcigpppdfiab
