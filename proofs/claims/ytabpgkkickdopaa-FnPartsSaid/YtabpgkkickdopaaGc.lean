/-
  Contracts: a magnitude rounded to multiples of a power of two. Conditions: the limbs can be read; the library's table is as its initialiser lays it. Contracts: FloatOf of the program. Conditions: the limbs can be read; the library's table is as its initialiser lays it. Contracts: nearestTo and FloatOf of the program. Conditions: the limbs can be read; the library's table is as its initialiser lays it. Contracts: l01Scale, l01Turned, l01FitFloat of the model at floats by value. No conditions. Contracts: an exact number rounded to a float64 by the model. Conditions: the limbs can be read. Contracts: FloatOf of the model. Conditions: the limbs can be read.
-/
import Derived.Test.YtabpgkkickdopaaGa
import Derived.Test.YtabpgkkickdopaaQm
import Derived.Test.YtabpgkkickdopaaUe
import Derived.Deep.DeepCutAuto
import Derived.Deep.RegionHeld3
import Derived.Handy
import Derived.Test.YtabpgkkickdopaaOd
import Derived.Test.YtabpgkkickdopaaWa
import Derived.Test.YtabpgkkickdopaaMh
import Derived.Test.YtabpgkkickdopaaWn
import Derived.Test.YtabpgkkickdopaaUf
import Derived.Test.YtabpgkkickdopaaTd
import Derived.Deep.RegionWith
namespace Go.Proofs.Ytabpgkkickdopaa
set_option linter.unusedVariables false
open Go Go.RowKit

theorem near_rne {m K : Nat} (hm : m ≠ 0) (hK : 1 ≤ K) : rne m K = m / 2 ^ K + if (m / 2 ^ (K - 1) % 2 = 1 ∧ (tw m < K - 1 ∨ m / 2 ^ K % 2 = 1)) then 1 else 0 := by
  have h2 : 2 ^ K = 2 ^ (K - 1) * 2 := by rw [← Nat.pow_succ]; congr 1; omega
  have ht := tw_lt_iff (K := K - 1) hm
  have hp : 0 < 2 ^ (K - 1) := Nat.two_pow_pos _
  unfold rne
  congr 1
  have hmod : m % 2 ^ K = m % 2 ^ (K - 1) + 2 ^ (K - 1) * (m / 2 ^ (K - 1) % 2) := by rw [h2]; exact Nat.mod_mul
  have hr : m % 2 ^ (K - 1) < 2 ^ (K - 1) := Nat.mod_lt _ hp
  generalize hq : m / 2 ^ K % 2 = q
  rw [hmod, h2]
  generalize m % 2 ^ (K - 1) = r at ht hr
  generalize 2 ^ (K - 1) = p at hp hr
  rcases Nat.mod_two_eq_zero_or_one (m / p) with h | h
  · rw [h]
    have hn : ¬ (p * 2 < 2 * (r + p * 0) ∨ p * 2 = 2 * (r + p * 0) ∧ q = 1) := by omega
    rw [if_neg hn, if_neg (by omega)]
  · rw [h]
    by_cases h0 : r = 0
    · have htn : ¬ tw m < K - 1 := fun hh => (ht.1 hh) h0
      by_cases h1 : q = 1
      · rw [if_pos (by omega), if_pos ⟨rfl, .inr h1⟩]
      · rw [if_neg (by omega), if_neg (by omega)]
    · have htp : tw m < K - 1 := ht.2 h0
      rw [if_pos (by omega), if_pos ⟨rfl, .inl htp⟩]
/-- What rounding gives. -/
def nsh (m : Nat) (k : Int) : Nat := if 0 ≤ k then m * 2 ^ k.toNat else rne m (-k).toNat

theorem down_len {m : Nat} (K : Nat) (hl : (lim m).length ≤ 1000) : (lim (m / 2 ^ K)).length ≤ 1000 := Nat.le_trans (lim_le_of_le (Nat.div_le_self _ _)) hl

theorem nsh_up (m K : Nat) : nsh m (K : Int) = m * 2 ^ K := by unfold nsh; rw [if_pos (by omega), Int.toNat_natCast]
theorem nsh_down (m : Nat) {K : Nat} (h : 1 ≤ K) : nsh m (-(K : Int)) = rne m K := by unfold nsh; rw [if_neg (by omega), Int.neg_neg, Int.toNat_natCast]
theorem blen_log {m : Nat} (h : m ≠ 0) : blen m = (m.log2 : Int) + 1 := by
  have h1 := (blen_le (n := m) (K := m.log2 + 1)).2 (lt_two_log m)
  have h2 : ¬ blen m ≤ ((m.log2 : Nat) : Int) := fun hh => by
    have := (blen_le (n := m) (K := m.log2)).1 hh
    have := log_le h
    omega
  omega
theorem sgn_one (m : Nat) : Sg (sgnOf 1 m) m ∧ sgnOf 1 m * (m : Int) = (m : Int) := by
  by_cases h : m = 0
  · subst h; rw [sgnOf_zero]; exact ⟨by unfold Sg; omega, by simp⟩
  · rw [sgnOf_pos h]; exact ⟨by unfold Sg; omega, by simp⟩
theorem blen_zero : blen 0 = 0 := if_pos rfl
theorem blen_nat2 {n : Nat} (hl : (lim n).length ≤ 200) : ∃ b : Nat, blen n = (b : Int) ∧ b ≤ 4800 := by
  by_cases h : n = 0
  · subst h; exact ⟨0, blen_zero, by omega⟩
  · have h3 : blen n ≤ ((24 * (dig n).length : Nat) : Int) := blen_le.2 (by
      have := val_lt (small_dig n)
      rwa [val_dig, two24] at this)
    rw [lim_length] at hl
    have h4 := blen_log h
    exact ⟨n.log2 + 1, by omega, by omega⟩
/-- What FloatOf gives: the nearest float, or a code. -/
def flt (s : Int) (m : Nat) (x : Int) : Nat × Int := if rawRung f64 m x < 0x7ff0000000000000 then (fw (decide (s < 0)) m x, 0) else (0, 3)
noncomputable def flR (s : Int) (xs : List Int) (x : Int) : Nat × Int := if dyB s xs x = true then flt s (val (xs.map Int.toNat)) x else (0, 1)
theorem flR_no {s x : Int} {xs : List Int} (h : dyB s xs x = false) : flR s xs x = (0, 1) := by unfold flR; rw [if_neg (by rw [h]; decide)]
theorem flR_yes {s x : Int} {m : Nat} (h : dyB s (lim m) x = true) : flR s (lim m) x = flt s m x := by unfold flR; rw [if_pos h, val_lim]

/-- The place and the multiple to which a number is rounded. -/
structure Rounded (m : Nat) (x q : Int) (r : Nat) : Prop where
  place : max (blen m + x - 53) (-1074) = q
  mult : nsh m (x - q) = r
  least : -1074 ≤ q
  most : r ≤ 2 ^ 53
  ok : m ≠ 0 ∨ 0 ≤ x - q
  fits : ¬ 1024 < blen r + q → (r < 2 ^ 53 ∧ q ≤ 971) ∨ q ≤ 970 ∨ r = 0
  over : 1024 < blen r + q ↔ 0x7ff0000000000000 ≤ rawRung f64 m x
  same : ∀ s, fw s r q = fw s m x
theorem rounded_zero (x : Int) (hx : x = 0) : ∃ q r, Rounded 0 x q r := by
  subst hx
  refine ⟨-53, 0, by rw [blen_zero]; rfl, by unfold nsh; simp, by omega, by omega, by omega, fun _ => by omega, ?_, fun s => by rw [fw_zero, fw_zero]⟩
  rw [blen_zero]
  unfold rawRung
  simp
theorem rounded_pos {m : Nat} (h : m ≠ 0) (x : Int) : ∃ q r, Rounded m x q r := by
  obtain ⟨h1, h2, h3⟩ := rnd_facts h x
  have hq : plc m x = max (blen m + x - 53) (-1074) := by
    rw [blen_log h]
    unfold plc
    omega
  obtain ⟨q, hqq⟩ : ∃ q, plc m x = q := ⟨_, rfl⟩
  obtain ⟨r, hr⟩ : ∃ r, rnd m x q = r := ⟨_, rfl⟩
  have hsame : ∀ s, fw s r q = fw s m x := fun s => by rw [← hr, ← hqq]; exact fw_rnd s m x h
  rw [hqq] at h1 h2 h3 hq
  rw [hr] at h1 h2 h3
  have hl : -1074 ≤ q := by omega
  have b53 := blen_le (n := r) (K := 53)
  have b54 := blen_le (n := r) (K := 54)
  have b52 := blen_le (n := r) (K := 52)
  refine ⟨q, r, hq.symm, ?_, hl, h2, .inl h, ?_, ?_, hsame⟩
  · rw [← hr]
    unfold nsh rnd
    by_cases hh : 0 ≤ x - q
    · rw [if_pos hh, show (q - x).toNat = 0 by omega]
      have h0 := rne_exact (m * 2 ^ (x - q).toNat) 0
      rw [Nat.pow_zero, Nat.mul_one] at h0
      rw [h0]
    · rw [if_neg hh, show (x - q).toNat = 0 by omega, Nat.pow_zero, Nat.mul_one, show -(x - q) = q - x by omega]
  · intro hno
    by_cases hr0 : r < 2 ^ 53
    · by_cases hq1 : q ≤ 971
      · left; exact ⟨hr0, hq1⟩
      · exfalso
        have : ¬ blen r ≤ ((52 : Nat) : Int) := fun hh => by have := b52.1 hh; omega
        omega
    · have : ¬ blen r ≤ ((53 : Nat) : Int) := fun hh => hr0 (b53.1 hh)
      omega
  · rw [h1]
    have hb54 : blen r ≤ ((54 : Nat) : Int) := b54.2 (by omega)
    by_cases hr0 : r < 2 ^ 53
    · have hb53 := b53.2 hr0
      by_cases hq1 : q ≤ 971
      · have : (q + 1074).toNat ≤ 2045 := by omega
        have := Nat.mul_le_mul_right (2 ^ 52) this
        constructor
        · intro hh; omega
        · intro hh; omega
      · have hb52 : ¬ blen r ≤ ((52 : Nat) : Int) := fun hh => by have := b52.1 hh; omega
        have : 2046 ≤ (q + 1074).toNat := by omega
        have := Nat.mul_le_mul_right (2 ^ 52) this
        constructor
        · intro hh; omega
        · intro hh; omega
    · have hr1 : r = 2 ^ 53 := by omega
      have hb53 : ¬ blen r ≤ ((53 : Nat) : Int) := fun hh => hr0 (b53.1 hh)
      by_cases hq1 : q ≤ 970
      · have : (q + 1074).toNat ≤ 2044 := by omega
        have := Nat.mul_le_mul_right (2 ^ 52) this
        constructor
        · intro hh; omega
        · intro hh; omega
      · have : 2045 ≤ (q + 1074).toNat := by omega
        have := Nat.mul_le_mul_right (2 ^ 52) this
        constructor
        · intro hh; omega
        · intro hh; omega
theorem balF {w W : World} {o : Obj} (h : Below w.heap.size w W) : Below w.heap.size w (W.alloc o) := h.alloc h.size o
open Go Go.RowKit Ieee

def intF : Value → Int
  | .int _ n => n
  | _ => 0
set_option maxHeartbeats 800000 in
theorem sScale_fw (r : Nat) (q : Int) (h1 : r ≤ 2 ^ 53) (h2 : -1074 ≤ q) (h3 : q ≤ 100000) (w : World) : Calls Try.prog 79 #[.float .f64 (fw false r 0), .int .i64 q] w fun e w' => e = .returned (.float .f64 (fw false r q)) ∧ w = w' := by
  have HM := Lib.hid (show ∀ (j : Nat) (W : World), (binOp .mul 42 (.float .f64 (fw false r (j : Int))) (.float .f64 4611686018427387904)).run Try.prog W = .ok (.float .f64 (fw false r ((j : Int) + 1))) W from fun j W => run_float_arith W _ _ _ _ _ _ (dbl_fw false h1 (by omega)))
  have HQ := Lib.hid (show ∀ (j : Nat) (W : World), j < 1074 → (binOp .quo 42 (.float .f64 (fw false r (-(j : Int)))) (.float .f64 4611686018427387904)).run Try.prog W = .ok (.float .f64 (fw false r (-(j : Int) - 1))) W from fun j W hj => run_float_arith W _ _ _ _ _ _ (hlf_fw false h1 (by omega) (by omega)))
  obtain ⟨f, hf⟩ : ∃ f : Int → Nat, fw false r = f := ⟨_, rfl⟩
  rw [hf] at HM HQ
  have hf0 : fw false r 0 = f 0 := by rw [hf]
  rw [hf]
  clear h1 hf0 hf
  go_enter Try.func79, Try.ntmps79
  go_wp2
  go_loopw [0, 1] (fun v i wr => ∃ (j : Nat), (0 ≤ q → (j : Int) ≤ q) ∧ (q < 0 → j = 0) ∧ v = .float .f64 (f (j : Int)) ∧ i = .int .i64 (q - j) ∧ wr = w) (fun _ i _ => (intF i).toNat)
  case atStart => exact ⟨0, by omega, by omega, rfl, by simp, rfl⟩
  case round =>
    obtain ⟨j, hj1, hj2, rfl, rfl, rfl⟩ := hrel
    by_cases hk : 0 < q - j
    · have hm := HM.out j
      go_wp2
      go_roundw
      case rel => exact ⟨j + 1, by omega, by omega, by push_cast; rfl, by go_num, by first | rfl | trivial⟩
      case measure => simp [intF]; omega
    · go_wp2
      go_loopw [0, 1] (fun v i wr' => ∃ (j' : Nat), (q < 0 → (j' : Int) ≤ -q) ∧ (0 ≤ q → j' = 0) ∧ v = .float .f64 (f (if 0 ≤ q then (j : Int) else -(j' : Int))) ∧ i = .int .i64 (q - j + j') ∧ wr' = wr) (fun _ i _ => (-(intF i)).toNat)
      case atStart =>
        refine ⟨0, by omega, by omega, ?_, by simp, rfl⟩
        split
        · rfl
        · obtain rfl : j = 0 := by omega
          rfl
      case round =>
        obtain ⟨j', hl1, hl2, rfl, rfl, rfl⟩ := hrel
        by_cases hl : q - j + j' < 0
        · have h0 : ¬ 0 ≤ q := by omega
          rw [if_neg h0]
          have hm := fun W => HQ.out j' W (by omega)
          go_wp2
          go_roundw
          case rel => exact ⟨j' + 1, by omega, by omega, by rw [if_neg h0]; congr 2; omega, by go_num, by first | rfl | trivial⟩
          case measure => simp [intF]; omega
        · have he : (if 0 ≤ q then (j : Int) else -(j' : Int)) = q := by
            split <;> omega
          rw [he]
          go_wp2
          go_ret
          exact ⟨rfl, rfl⟩

theorem fw_none : (13830554455654793216 : Nat) = fw true 1 0 := by
  have := fw_shift true 1 0 52
  rw [← this]
  decide +kernel
theorem turn_fw {r : Nat} {q : Int} (h1 : r ≤ 2 ^ 53) (h2 : -1074 ≤ q) : floatBits .mul .f64 (fw false r q) 13830554455654793216 = some (fw true r q) := by
  have hF1 : Fit 1 0 := Fit.of (by omega) (by omega) (by omega)
  have main : ∀ (r : Nat) (q : Int), r < 2 ^ 53 → -1074 ≤ q → floatBits .mul .f64 (fw false r q) 13830554455654793216 = some (fw true r q) := fun r q h1 h2 => by
    rw [fw_none]
    by_cases hF : Fit r q
    · rw [mul_fw false true hF hF1, Nat.mul_one, Int.add_zero]; rfl
    · have e1 := rung_big h1 h2 hF
      have a1 : fw false r q = f64.word false 0x7ff0000000000000 := by unfold fw; rw [e1]
      have a2 : fw true r q = f64.word true 0x7ff0000000000000 := by unfold fw; rw [e1]
      rw [a1, a2, mul_inf false true hF1 (by omega)]; rfl
  by_cases h0 : r = 2 ^ 53
  · have a1 := fw_shift false (2 ^ 52) (q + 1) 1
    have a2 := fw_shift true (2 ^ 52) (q + 1) 1
    rw [show q + 1 - ((1 : Nat) : Int) = q by omega] at a1 a2
    have e : r = 2 ^ 52 * 2 ^ 1 := by rw [h0]
    rw [e, a1, a2]
    exact main (2 ^ 52) (q + 1) (by omega) (by omega)
  · exact main r q (by omega) h2
def fitF (x : Nat) : Nat × Int := if isF .f64 x = true then (x, 0) else (0, 3)
/-- Whether the nearest float is finite. -/
theorem isF_rung (s : Bool) (m : Nat) (x : Int) : isF .f64 (fw s m x) = decide (rawRung f64 m x < 0x7ff0000000000000) := by
  by_cases h : rawRung f64 m x < 0x7ff0000000000000
  · rw [decide_eq_true h]
    obtain ⟨M, i, hc, hr⟩ := rung_number h
    have e : fw s m x = f64.word s (rawRung f64 M i) := by
      unfold fw rungOf
      rw [Nat.min_eq_left (by omega), hr]
    have := read_word (s := s) hc (by rw [hr]; exact h)
    unfold isF
    rw [e]
    have h2 : FloatKind.f64.format.read (f64.word s (rawRung f64 M i)) = _ := this
    rw [h2]
  · rw [decide_eq_false h]
    have e : fw s m x = f64.word s 0x7ff0000000000000 := by
      unfold fw rungOf
      rw [Nat.min_eq_right (by omega)]
    unfold isF
    rw [e]
    have h2 : FloatKind.f64.format.read (f64.word s 0x7ff0000000000000) = _ := read_inf s
    rw [h2]

theorem add_whole2 {a b : Nat} (ha : a ≤ 2 ^ 53) (hb : b < 2 ^ 53) : floatBits .add .f64 (fw false a 0) (fw false b 0) = some (fw false (a + b) 0) := by
  by_cases h : a < 2 ^ 53
  · exact add_whole h hb
  · have h0 : a = 2 ^ 53 := by omega
    have a1 := fw_shift false (2 ^ 52) 1 1
    rw [show (1 : Int) - ((1 : Nat) : Int) = 0 by omega] at a1
    have e : a = 2 ^ 52 * 2 ^ 1 := by rw [h0]
    have v1 : vz false (2 ^ 52) 1 0 = ((2 ^ 53 : Nat) : Int) := by decide +kernel
    have h2 := add_fw false false (m := 2 ^ 52) (n := b) (i := 1) (j := 0) (d := 0) (Fit.of (by omega) (by omega) (by omega)) (Fit.of hb (by omega) (by omega)) (by omega) (Int.le_refl 0) ((a + b : Nat) : Int) (by rw [v1, vz_false, h0]; omega)
    have h1 : (if (((a + b : Nat) : Int)) = 0 then (false && false) else decide (((a + b : Nat) : Int) < 0)) = false := by
      split
      · rfl
      · exact decide_eq_false (by omega)
    rw [h1, ← a1, ← e] at h2
    exact h2
theorem fw_24 : (4715268809856909312 : Nat) = fw false 1 24 := by
  rw [← fw_shift false 1 24 52]
  decide +kernel
theorem mul_24 {v : Nat} (h : v < 2 ^ 53) : floatBits .mul .f64 (fw false v 0) 4715268809856909312 = some (fw false (v * 16777216) 0) := by
  rw [fw_24, mul_fw false false (Fit.of h (by omega) (by omega)) (Fit.of (by omega) (by omega) (by omega)), Nat.mul_one]
  have := fw_shift false v 24 24
  rw [show (24 : Int) - ((24 : Nat) : Int) = 0 by omega] at this
  have hx : (false ^^ false) = false := rfl
  rw [Int.zero_add, hx, ← this]
theorem dropv_step (xs : List Nat) {j : Nat} (h : j < xs.length) : val (xs.drop j) = xs[j] + 16777216 * val (xs.drop (j + 1)) := val_drop xs j h
theorem dropv_le (xs : List Nat) : ∀ j, val (xs.drop j) ≤ val xs
  | 0 => Nat.le_refl _
  | j + 1 => by
    by_cases h : j < xs.length
    · have h1 := dropv_step xs h
      have h2 := dropv_le xs j
      omega
    · rw [List.drop_eq_nil_of_le (by omega)]
      exact Nat.zero_le _
theorem balU {w W : World} {o : Obj} (h : Below w.heap.size w W) : Below w.heap.size w (W.alloc o) := h.alloc h.size o
theorem odd_lim {s x : Int} {m : Nat} (h : IsDy s (lim m) x) (h0 : m ≠ 0) (sm : Sg s m) : m % 2 = 1 := by
  have := h.2.2.2
  rw [lim_getD] at this
  have hs : s ≠ 0 := by unfold Sg at sm; omega
  rcases this with ⟨h1, _⟩ | ⟨_, h2⟩
  · exact absurd h1 hs
  · omega
theorem set2_box {W : World} {g : Nat} {t : TypeId} {v0 v1 u0 u1 : Value} (h : BoxAt W g t #[v0, v1]) : BoxAt ((W.setCell ⟨g, 0, none⟩ u0).setCell ⟨g, 1, none⟩ u1) g t #[u0, u1] := by
  have := (h.set_ 0 u0).set_ 1 u1
  simpa using this

theorem fit_flt (s : Int) (m : Nat) (x : Int) : fitF (fw (decide (s < 0)) m x) = flt s m x := by
  unfold fitF flt
  rw [isF_rung]
  by_cases h : rawRung f64 m x < 0x7ff0000000000000
  · rw [if_pos (decide_eq_true h), if_pos h]
  · rw [if_neg (by rw [decide_eq_false h]; decide), if_neg h]

theorem quo_fin {x : Nat} (h : isF .f64 x = true) : ∃ r, floatBits .quo .f64 4607182418800017408 x = some r := by
  have h1 : FloatKind.f64.format.read 4607182418800017408 = .number false (2 ^ 52) (-52) := by decide +kernel
  unfold isF at h
  cases e : FloatKind.f64.format.read x with
  | nan s f => rw [e] at h; cases h
  | infinity s => rw [e] at h; cases h
  | number s m i =>
    show ∃ r, Ieee.Format.div FloatKind.f64.format _ _ = some r
    unfold Ieee.Format.div
    rw [h1, e]
    simp only [Ieee.Datum.quotient]
    by_cases hm : m = 0
    · rw [if_pos hm, if_neg (by omega)]; exact ⟨_, rfl⟩
    · rw [if_neg hm]; exact ⟨_, rfl⟩
theorem flR_fin (s : Int) (xs : List Int) (x : Int) : isF .f64 (flR s xs x).1 = true := by
  unfold flR
  split
  · unfold flt
    split
    · rename_i h; rw [isF_rung]; exact decide_eq_true h
    · exact isF_zero
  · exact isF_zero
end Go.Proofs.Ytabpgkkickdopaa
