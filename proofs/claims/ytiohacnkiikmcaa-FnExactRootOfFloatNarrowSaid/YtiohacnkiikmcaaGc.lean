/-
  Contracts: a magnitude rounded to multiples of a power of two. Conditions: the limbs can be read; the library's table is as its initialiser lays it. Contracts: FloatOf of the program. Conditions: the limbs can be read; the library's table is as its initialiser lays it. Contracts: nearestTo and FloatOf of the program. Conditions: the limbs can be read; the library's table is as its initialiser lays it. Contracts: l01Scale, l01Turned, l01FitFloat of the model at floats by value. No conditions. Contracts: an exact number rounded to a float64 by the model. Conditions: the limbs can be read. Contracts: FloatOf of the model. Conditions: the limbs can be read.
-/
import Derived.Test.YtiohacnkiikmcaaGa
import Derived.Test.YtiohacnkiikmcaaQm
import Derived.Test.YtiohacnkiikmcaaUe
import Derived.Deep.DeepCutAuto
import Derived.Deep.RegionHeld3
import Derived.Handy
import Derived.Test.YtiohacnkiikmcaaOd
import Derived.Test.YtiohacnkiikmcaaWa
import Derived.Test.YtiohacnkiikmcaaMh
import Derived.Test.YtiohacnkiikmcaaWn
import Derived.Test.YtiohacnkiikmcaaUf
import Derived.Test.YtiohacnkiikmcaaTd
import Derived.Deep.RegionWith
namespace Go.Proofs.Ytiohacnkiikmcaa
set_option linter.unusedVariables false
open Go Go.RowKit

theorem near_rne {m K : Nat} (hm : m ≠ 0) (hK : 1 ≤ K) : rne m K = m / 2 ^ K + if (m / 2 ^ (K - 1) % 2 = 1 ∧ (tw m < K - 1 ∨ m / 2 ^ K % 2 = 1)) then 1 else 0 := by
  have h2 : 2 ^ K = 2 ^ (K - 1) * 2 := by rw [← Nat.pow_succ]; congr 1; omega
  have ht := tw_lt_iff (K := K - 1) hm
  have hp : 0 < 2 ^ (K - 1) := Nat.two_pow_pos _
  unfold rne
  congr 1
  have hmod : m % 2 ^ K = m % 2 ^ (K - 1) + 2 ^ (K - 1) * (m / 2 ^ (K - 1) % 2) := by rw [h2]; exact Nat.mod_mul
  have hr : m % 2 ^ (K - 1) < 2 ^ (K - 1) := Nat.mod_lt _ hp
  generalize hq : m / 2 ^ K % 2 = q
  rw [hmod, h2]
  generalize m % 2 ^ (K - 1) = r at ht hr
  generalize 2 ^ (K - 1) = p at hp hr
  rcases Nat.mod_two_eq_zero_or_one (m / p) with h | h
  · rw [h]
    have hn : ¬ (p * 2 < 2 * (r + p * 0) ∨ p * 2 = 2 * (r + p * 0) ∧ q = 1) := by omega
    rw [if_neg hn, if_neg (by omega)]
  · rw [h]
    by_cases h0 : r = 0
    · have htn : ¬ tw m < K - 1 := fun hh => (ht.1 hh) h0
      by_cases h1 : q = 1
      · rw [if_pos (by omega), if_pos ⟨rfl, .inr h1⟩]
      · rw [if_neg (by omega), if_neg (by omega)]
    · have htp : tw m < K - 1 := ht.2 h0
      rw [if_pos (by omega), if_pos ⟨rfl, .inl htp⟩]
/-- What rounding gives. -/
def nsh (m : Nat) (k : Int) : Nat := if 0 ≤ k then m * 2 ^ k.toNat else rne m (-k).toNat

theorem down_len {m : Nat} (K : Nat) (hl : (lim m).length ≤ 1000) : (lim (m / 2 ^ K)).length ≤ 1000 := Nat.le_trans (lim_le_of_le (Nat.div_le_self _ _)) hl

theorem nsh_up (m K : Nat) : nsh m (K : Int) = m * 2 ^ K := by unfold nsh; rw [if_pos (by omega), Int.toNat_natCast]
theorem nsh_down (m : Nat) {K : Nat} (h : 1 ≤ K) : nsh m (-(K : Int)) = rne m K := by unfold nsh; rw [if_neg (by omega), Int.neg_neg, Int.toNat_natCast]
theorem blen_log {m : Nat} (h : m ≠ 0) : blen m = (m.log2 : Int) + 1 := by
  have h1 := (blen_le (n := m) (K := m.log2 + 1)).2 (lt_two_log m)
  have h2 : ¬ blen m ≤ ((m.log2 : Nat) : Int) := fun hh => by
    have := (blen_le (n := m) (K := m.log2)).1 hh
    have := log_le h
    omega
  omega
theorem sgn_one (m : Nat) : Sg (sgnOf 1 m) m ∧ sgnOf 1 m * (m : Int) = (m : Int) := by
  by_cases h : m = 0
  · subst h; rw [sgnOf_zero]; exact ⟨by unfold Sg; omega, by simp⟩
  · rw [sgnOf_pos h]; exact ⟨by unfold Sg; omega, by simp⟩
theorem blen_zero : blen 0 = 0 := if_pos rfl
theorem blen_nat2 {n : Nat} (hl : (lim n).length ≤ 200) : ∃ b : Nat, blen n = (b : Int) ∧ b ≤ 4800 := by
  by_cases h : n = 0
  · subst h; exact ⟨0, blen_zero, by omega⟩
  · have h3 : blen n ≤ ((24 * (dig n).length : Nat) : Int) := blen_le.2 (by
      have := val_lt (small_dig n)
      rwa [val_dig, two24] at this)
    rw [lim_length] at hl
    have h4 := blen_log h
    exact ⟨n.log2 + 1, by omega, by omega⟩
/-- What FloatOf gives: the nearest float, or a code. -/
def flt (s : Int) (m : Nat) (x : Int) : Nat × Int := if rawRung f64 m x < 0x7ff0000000000000 then (fw (decide (s < 0)) m x, 0) else (0, 3)
noncomputable def flR (s : Int) (xs : List Int) (x : Int) : Nat × Int := if dyB s xs x = true then flt s (val (xs.map Int.toNat)) x else (0, 1)
theorem flR_no {s x : Int} {xs : List Int} (h : dyB s xs x = false) : flR s xs x = (0, 1) := by unfold flR; rw [if_neg (by rw [h]; decide)]
theorem flR_yes {s x : Int} {m : Nat} (h : dyB s (lim m) x = true) : flR s (lim m) x = flt s m x := by unfold flR; rw [if_pos h, val_lim]

/-- The place and the multiple to which a number is rounded. -/
structure Rounded (m : Nat) (x q : Int) (r : Nat) : Prop where
  place : max (blen m + x - 53) (-1074) = q
  mult : nsh m (x - q) = r
  least : -1074 ≤ q
  most : r ≤ 2 ^ 53
  ok : m ≠ 0 ∨ 0 ≤ x - q
  fits : ¬ 1024 < blen r + q → (r < 2 ^ 53 ∧ q ≤ 971) ∨ q ≤ 970 ∨ r = 0
  over : 1024 < blen r + q ↔ 0x7ff0000000000000 ≤ rawRung f64 m x
  same : ∀ s, fw s r q = fw s m x
theorem rounded_zero (x : Int) (hx : x = 0) : ∃ q r, Rounded 0 x q r := by
  subst hx
  refine ⟨-53, 0, by rw [blen_zero]; rfl, by unfold nsh; simp, by omega, by omega, by omega, fun _ => by omega, ?_, fun s => by rw [fw_zero, fw_zero]⟩
  rw [blen_zero]
  unfold rawRung
  simp
theorem rounded_pos {m : Nat} (h : m ≠ 0) (x : Int) : ∃ q r, Rounded m x q r := by
  obtain ⟨h1, h2, h3⟩ := rnd_facts h x
  have hq : plc m x = max (blen m + x - 53) (-1074) := by
    rw [blen_log h]
    unfold plc
    omega
  obtain ⟨q, hqq⟩ : ∃ q, plc m x = q := ⟨_, rfl⟩
  obtain ⟨r, hr⟩ : ∃ r, rnd m x q = r := ⟨_, rfl⟩
  have hsame : ∀ s, fw s r q = fw s m x := fun s => by rw [← hr, ← hqq]; exact fw_rnd s m x h
  rw [hqq] at h1 h2 h3 hq
  rw [hr] at h1 h2 h3
  have hl : -1074 ≤ q := by omega
  have b53 := blen_le (n := r) (K := 53)
  have b54 := blen_le (n := r) (K := 54)
  have b52 := blen_le (n := r) (K := 52)
  refine ⟨q, r, hq.symm, ?_, hl, h2, .inl h, ?_, ?_, hsame⟩
  · rw [← hr]
    unfold nsh rnd
    by_cases hh : 0 ≤ x - q
    · rw [if_pos hh, show (q - x).toNat = 0 by omega]
      have h0 := rne_exact (m * 2 ^ (x - q).toNat) 0
      rw [Nat.pow_zero, Nat.mul_one] at h0
      rw [h0]
    · rw [if_neg hh, show (x - q).toNat = 0 by omega, Nat.pow_zero, Nat.mul_one, show -(x - q) = q - x by omega]
  · intro hno
    by_cases hr0 : r < 2 ^ 53
    · by_cases hq1 : q ≤ 971
      · left; exact ⟨hr0, hq1⟩
      · exfalso
        have : ¬ blen r ≤ ((52 : Nat) : Int) := fun hh => by have := b52.1 hh; omega
        omega
    · have : ¬ blen r ≤ ((53 : Nat) : Int) := fun hh => hr0 (b53.1 hh)
      omega
  · rw [h1]
    have hb54 : blen r ≤ ((54 : Nat) : Int) := b54.2 (by omega)
    by_cases hr0 : r < 2 ^ 53
    · have hb53 := b53.2 hr0
      by_cases hq1 : q ≤ 971
      · have : (q + 1074).toNat ≤ 2045 := by omega
        have := Nat.mul_le_mul_right (2 ^ 52) this
        constructor
        · intro hh; omega
        · intro hh; omega
      · have hb52 : ¬ blen r ≤ ((52 : Nat) : Int) := fun hh => by have := b52.1 hh; omega
        have : 2046 ≤ (q + 1074).toNat := by omega
        have := Nat.mul_le_mul_right (2 ^ 52) this
        constructor
        · intro hh; omega
        · intro hh; omega
    · have hr1 : r = 2 ^ 53 := by omega
      have hb53 : ¬ blen r ≤ ((53 : Nat) : Int) := fun hh => hr0 (b53.1 hh)
      by_cases hq1 : q ≤ 970
      · have : (q + 1074).toNat ≤ 2044 := by omega
        have := Nat.mul_le_mul_right (2 ^ 52) this
        constructor
        · intro hh; omega
        · intro hh; omega
      · have : 2045 ≤ (q + 1074).toNat := by omega
        have := Nat.mul_le_mul_right (2 ^ 52) this
        constructor
        · intro hh; omega
        · intro hh; omega
theorem balF {w W : World} {o : Obj} (h : Below w.heap.size w W) : Below w.heap.size w (W.alloc o) := h.alloc h.size o
open Go Go.RowKit Ieee

def intF : Value → Int
  | .int _ n => n
  | _ => 0
set_option maxHeartbeats 800000 in
theorem sScale_fw (r : Nat) (q : Int) (h1 : r ≤ 2 ^ 53) (h2 : -1074 ≤ q) (h3 : q ≤ 100000) (w : World) : Calls Try.prog 82 #[.float .f64 (fw false r 0), .int .i64 q] w fun e w' => e = .returned (.float .f64 (fw false r q)) ∧ w = w' := by
  have HM := Lib.hid (show ∀ (j : Nat) (W : World), (binOp .mul 42 (.float .f64 (fw false r (j : Int))) (.float .f64 4611686018427387904)).run Try.prog W = .ok (.float .f64 (fw false r ((j : Int) + 1))) W from fun j W => run_float_arith W _ _ _ _ _ _ (dbl_fw false h1 (by omega)))
  have HQ := Lib.hid (show ∀ (j : Nat) (W : World), j < 1074 → (binOp .quo 42 (.float .f64 (fw false r (-(j : Int)))) (.float .f64 4611686018427387904)).run Try.prog W = .ok (.float .f64 (fw false r (-(j : Int) - 1))) W from fun j W hj => run_float_arith W _ _ _ _ _ _ (hlf_fw false h1 (by omega) (by omega)))
  obtain ⟨f, hf⟩ : ∃ f : Int → Nat, fw false r = f := ⟨_, rfl⟩
  rw [hf] at HM HQ
  have hf0 : fw false r 0 = f 0 := by rw [hf]
  rw [hf]
  clear h1 hf0 hf
  go_enter Try.func82, Try.ntmps82
  go_wp2
  go_loopw [0, 1] (fun v i wr => ∃ (j : Nat), (0 ≤ q → (j : Int) ≤ q) ∧ (q < 0 → j = 0) ∧ v = .float .f64 (f (j : Int)) ∧ i = .int .i64 (q - j) ∧ wr = w) (fun _ i _ => (intF i).toNat)
  case atStart => exact ⟨0, by omega, by omega, rfl, by simp, rfl⟩
  case round =>
    obtain ⟨j, hj1, hj2, rfl, rfl, rfl⟩ := hrel
    by_cases hk : 0 < q - j
    · have hm := HM.out j
      go_wp2
      go_roundw
      case rel => exact ⟨j + 1, by omega, by omega, by push_cast; rfl, by go_num, by first | rfl | trivial⟩
      case measure => simp [intF]; omega
    · go_wp2
      go_loopw [0, 1] (fun v i wr' => ∃ (j' : Nat), (q < 0 → (j' : Int) ≤ -q) ∧ (0 ≤ q → j' = 0) ∧ v = .float .f64 (f (if 0 ≤ q then (j : Int) else -(j' : Int))) ∧ i = .int .i64 (q - j + j') ∧ wr' = wr) (fun _ i _ => (-(intF i)).toNat)
      case atStart =>
        refine ⟨0, by omega, by omega, ?_, by simp, rfl⟩
        split
        · rfl
        · obtain rfl : j = 0 := by omega
          rfl
      case round =>
        obtain ⟨j', hl1, hl2, rfl, rfl, rfl⟩ := hrel
        by_cases hl : q - j + j' < 0
        · have h0 : ¬ 0 ≤ q := by omega
          rw [if_neg h0]
          have hm := fun W => HQ.out j' W (by omega)
          go_wp2
          go_roundw
          case rel => exact ⟨j' + 1, by omega, by omega, by rw [if_neg h0]; congr 2; omega, by go_num, by first | rfl | trivial⟩
          case measure => simp [intF]; omega
        · have he : (if 0 ≤ q then (j : Int) else -(j' : Int)) = q := by
            split <;> omega
          rw [he]
          go_wp2
          go_ret
          exact ⟨rfl, rfl⟩

theorem fw_none : (13830554455654793216 : Nat) = fw true 1 0 := by
  have := fw_shift true 1 0 52
  rw [← this]
  decide +kernel
theorem turn_fw {r : Nat} {q : Int} (h1 : r ≤ 2 ^ 53) (h2 : -1074 ≤ q) : floatBits .mul .f64 (fw false r q) 13830554455654793216 = some (fw true r q) := by
  have hF1 : Fit 1 0 := Fit.of (by omega) (by omega) (by omega)
  have main : ∀ (r : Nat) (q : Int), r < 2 ^ 53 → -1074 ≤ q → floatBits .mul .f64 (fw false r q) 13830554455654793216 = some (fw true r q) := fun r q h1 h2 => by
    rw [fw_none]
    by_cases hF : Fit r q
    · rw [mul_fw false true hF hF1, Nat.mul_one, Int.add_zero]; rfl
    · have e1 := rung_big h1 h2 hF
      have a1 : fw false r q = f64.word false 0x7ff0000000000000 := by unfold fw; rw [e1]
      have a2 : fw true r q = f64.word true 0x7ff0000000000000 := by unfold fw; rw [e1]
      rw [a1, a2, mul_inf false true hF1 (by omega)]; rfl
  by_cases h0 : r = 2 ^ 53
  · have a1 := fw_shift false (2 ^ 52) (q + 1) 1
    have a2 := fw_shift true (2 ^ 52) (q + 1) 1
    rw [show q + 1 - ((1 : Nat) : Int) = q by omega] at a1 a2
    have e : r = 2 ^ 52 * 2 ^ 1 := by rw [h0]
    rw [e, a1, a2]
    exact main (2 ^ 52) (q + 1) (by omega) (by omega)
  · exact main r q (by omega) h2
set_option maxHeartbeats 400000 in
theorem sTurned_fw (r : Nat) (q : Int) (h1 : r ≤ 2 ^ 53) (h2 : -1074 ≤ q) (w : World) : Calls Try.prog 130 #[.float .f64 (fw false r q)] w fun e w' => e = .returned (.float .f64 (fw true r q)) ∧ w = w' := by
  have hm := fun W : World => (run_float_arith W .mul 42 .f64 _ _ _ (turn_fw h1 h2) : (binOp .mul 42 (.float .f64 (fw false r q)) (.float .f64 13830554455654793216)).run Try.prog W = .ok (.float .f64 (fw true r q)) W)
  obtain ⟨f, hf⟩ : ∃ f, fw false r q = f := ⟨_, rfl⟩
  obtain ⟨g, hg⟩ : ∃ g, fw true r q = g := ⟨_, rfl⟩
  rw [hf, hg] at hm
  rw [hf, hg]
  clear hf hg h1 h2
  go_enter Try.func130, Try.ntmps130
  go_wp2
  go_ret
  exact ⟨rfl, rfl⟩
def fitF (x : Nat) : Nat × Int := if isF .f64 x = true then (x, 0) else (0, 3)
/-- Whether the nearest float is finite. -/
theorem isF_rung (s : Bool) (m : Nat) (x : Int) : isF .f64 (fw s m x) = decide (rawRung f64 m x < 0x7ff0000000000000) := by
  by_cases h : rawRung f64 m x < 0x7ff0000000000000
  · rw [decide_eq_true h]
    obtain ⟨M, i, hc, hr⟩ := rung_number h
    have e : fw s m x = f64.word s (rawRung f64 M i) := by
      unfold fw rungOf
      rw [Nat.min_eq_left (by omega), hr]
    have := read_word (s := s) hc (by rw [hr]; exact h)
    unfold isF
    rw [e]
    have h2 : FloatKind.f64.format.read (f64.word s (rawRung f64 M i)) = _ := this
    rw [h2]
  · rw [decide_eq_false h]
    have e : fw s m x = f64.word s 0x7ff0000000000000 := by
      unfold fw rungOf
      rw [Nat.min_eq_right (by omega)]
    unfold isF
    rw [e]
    have h2 : FloatKind.f64.format.read (f64.word s 0x7ff0000000000000) = _ := read_inf s
    rw [h2]

theorem add_whole2 {a b : Nat} (ha : a ≤ 2 ^ 53) (hb : b < 2 ^ 53) : floatBits .add .f64 (fw false a 0) (fw false b 0) = some (fw false (a + b) 0) := by
  by_cases h : a < 2 ^ 53
  · exact add_whole h hb
  · have h0 : a = 2 ^ 53 := by omega
    have a1 := fw_shift false (2 ^ 52) 1 1
    rw [show (1 : Int) - ((1 : Nat) : Int) = 0 by omega] at a1
    have e : a = 2 ^ 52 * 2 ^ 1 := by rw [h0]
    have v1 : vz false (2 ^ 52) 1 0 = ((2 ^ 53 : Nat) : Int) := by decide +kernel
    have h2 := add_fw false false (m := 2 ^ 52) (n := b) (i := 1) (j := 0) (d := 0) (Fit.of (by omega) (by omega) (by omega)) (Fit.of hb (by omega) (by omega)) (by omega) (Int.le_refl 0) ((a + b : Nat) : Int) (by rw [v1, vz_false, h0]; omega)
    have h1 : (if (((a + b : Nat) : Int)) = 0 then (false && false) else decide (((a + b : Nat) : Int) < 0)) = false := by
      split
      · rfl
      · exact decide_eq_false (by omega)
    rw [h1, ← a1, ← e] at h2
    exact h2
theorem fw_24 : (4715268809856909312 : Nat) = fw false 1 24 := by
  rw [← fw_shift false 1 24 52]
  decide +kernel
theorem mul_24 {v : Nat} (h : v < 2 ^ 53) : floatBits .mul .f64 (fw false v 0) 4715268809856909312 = some (fw false (v * 16777216) 0) := by
  rw [fw_24, mul_fw false false (Fit.of h (by omega) (by omega)) (Fit.of (by omega) (by omega) (by omega)), Nat.mul_one]
  have := fw_shift false v 24 24
  rw [show (24 : Int) - ((24 : Nat) : Int) = 0 by omega] at this
  have hx : (false ^^ false) = false := rfl
  rw [Int.zero_add, hx, ← this]
theorem dropv_step (xs : List Nat) {j : Nat} (h : j < xs.length) : val (xs.drop j) = xs[j] + 16777216 * val (xs.drop (j + 1)) := val_drop xs j h
theorem dropv_le (xs : List Nat) : ∀ j, val (xs.drop j) ≤ val xs
  | 0 => Nat.le_refl _
  | j + 1 => by
    by_cases h : j < xs.length
    · have h1 := dropv_step xs h
      have h2 := dropv_le xs j
      omega
    · rw [List.drop_eq_nil_of_le (by omega)]
      exact Nat.zero_le _
theorem balU {w W : World} {o : Obj} (h : Below w.heap.size w W) : Below w.heap.size w (W.alloc o) := h.alloc h.size o
theorem odd_lim {s x : Int} {m : Nat} (h : IsDy s (lim m) x) (h0 : m ≠ 0) (sm : Sg s m) : m % 2 = 1 := by
  have := h.2.2.2
  rw [lim_getD] at this
  have hs : s ≠ 0 := by unfold Sg at sm; omega
  rcases this with ⟨h1, _⟩ | ⟨_, h2⟩
  · exact absurd h1 hs
  · omega
theorem set2_box {W : World} {g : Nat} {t : TypeId} {v0 v1 u0 u1 : Value} (h : BoxAt W g t #[v0, v1]) : BoxAt ((W.setCell ⟨g, 0, none⟩ u0).setCell ⟨g, 1, none⟩ u1) g t #[u0, u1] := by
  have := (h.set_ 0 u0).set_ 1 u1
  simpa using this

set_option maxRecDepth 100000 in
set_option maxHeartbeats 8000000 in
theorem sRound (s : Int) (a : Option Addr) (m c1 : Nat) (x : Int) (w : World) (B : Nat) (hB : B ≤ w.heap.size) (hx : Ints w B a (lim m)) (hc1 : (lim m).length ≤ c1) (hd : IsDy s (lim m) x) (hlm : (lim m).length ≤ 200) (sm : Sg s m) :
    Calls Try.prog 122 #[.agg #[.int .i64 s, .slice a (lim m).length c1, .int .i64 x], .int .i64 53, .int .i64 (-1074)] w (RetB (.float .f64 (fw (decide (s < 0)) m x)) w) := by
  obtain ⟨W0, hW0⟩ : ∃ W0 : World, w.alloc (.cells #[.int .i64 s, .slice a (lim m).length c1, .int .i64 x] 105) = W0 := ⟨_, rfl⟩
  obtain ⟨p1, p3, p4⟩ := one_box w 105 #[.int .i64 s, .slice a (lim m).length c1, .int .i64 x]
  rw [hW0] at p1 p3 p4
  have HW0 := Lib.hid hW0
  have P3 := Lib.hid p3
  have P4 := Lib.hid p4
  have SS := Lib.hid (show ∀ W, Below W0.heap.size W0 W → (W.cell? ⟨w.heap.size, 0, none⟩ = some (.int .i64 s) ∧ W.cell? ⟨w.heap.size, 1, none⟩ = some (.slice a (lim m).length c1) ∧ W.cell? ⟨w.heap.size, 2, none⟩ = some (.int .i64 x)) from
    fun W hW => (p1.below hW).tri)
  have hT : Below W0.heap.size W0 W0 := Below.refl _ _
  have HBE := Lib.hid (show ∀ W, Below W0.heap.size W0 W → Below w.heap.size w W from fun W hW => p3.trans (hW.mono (by omega)))
  obtain ⟨k1, k2, k3⟩ := SS.out _ hT
  by_cases h0 : m = 0
  · subst h0
    have hs0 : s = 0 := by unfold Sg at sm; omega
    subst hs0
    have hr : fw (decide ((0 : Int) < 0)) 0 x = 0 := by rw [fw_zero]; rfl
    rw [hr]
    clear p1 p3 p4 hW0 hx hr hd hlm sm hc1
    go_enter Try.func122, Try.ntmps122
    go_wp2_with fail
    rw [HW0.out]
    go_wp2_with fail
    go_ret
    exact ⟨rfl, HBE.out _ hT⟩
  · have hs0 : (s == 0) = false := by
      have : s ≠ 0 := by unfold Sg at sm; omega
      simpa using this
    obtain ⟨q, r, R⟩ := rounded_pos h0 x
    have hodd := odd_lim hd h0 sm
    obtain ⟨hx1, hx2⟩ := (⟨hd.2.1, hd.2.2.1⟩ : -5000 ≤ x ∧ x ≤ 5000)
    have hrl : (lim r).length ≤ 200 := by
      have h2 : r < 2 ^ 54 := by have := R.most; omega
      rw [lim_length]
      exact Nat.le_trans (len_64 (by omega)) (by omega)
    obtain ⟨bl, hbl1, hbl2⟩ := blen_nat2 hlm
    have hl0 := R.least
    have hq2 : q ≤ 10000 := by have := R.place; omega
    have s1 : sgnOf 1 m = 1 := sgnOf_pos h0
    have HA := Lib.hid (show ∀ W, Below W0.heap.size W0 W → Calls Try.prog 128 #[.agg #[.int .i64 s, .slice a (lim m).length c1]] W fun e w' => ∃ b d, e = .returned (.agg #[.int .i64 1, .slice b (lim m).length d]) ∧ (lim m).length ≤ d ∧ Own w' W0.heap.size b (lim m) ∧ Below W0.heap.size W0 w' from fun W hW => by
      have := sAbs s a m c1 W B (by have := hW.size; omega) (hx.below ((p3.mono hB).trans (hW.mono (by omega)))) sm (by omega) hc1
      unfold RetN at this
      rw [s1] at this
      exact this.mono fun e w' ⟨b, d, he, hc, ho, hb⟩ => ⟨b, d, he, hc, ho.mono hW.size, hW.trans (hb.mono hW.size)⟩)
    have hsg : ∀ b : Bool, decide (s < 0) = b → fw b r q = fw (decide (s < 0)) m x := fun b hb => by rw [hb]; exact R.same b
    have hsc : s = 1 ∨ s = -1 := by unfold Sg at sm; omega
    obtain ⟨u, hu⟩ : ∃ u : Int, u = q - x := ⟨_, rfl⟩
    obtain ⟨y1, hy1⟩ : ∃ y1 : Int, y1 = (bl : Int) + x := ⟨_, rfl⟩
    obtain ⟨y2, hy2⟩ : ∃ y2 : Int, y2 = y1 - 53 := ⟨_, rfl⟩
    have e1 : IntKind.i64.wrap ((bl : Int) + x) = y1 := by rw [hy1, IntKind.wrap_i64]; omega
    have e2 : IntKind.i64.wrap (y1 - 53) = y2 := by rw [hy2, IntKind.wrap_i64]; omega
    have e3 : max y2 (-1074) = q := by rw [hy2, hy1, ← hbl1]; exact R.place
    have e4 : IntKind.i64.wrap (q - x) = u := by rw [hu, IntKind.wrap_i64]; omega
    have e5 : wrap64 (q - x) = u := by rw [hu]; unfold wrap64; omega
    -- the limbs of what comes out
    have HL := Lib.hid (show (dig r).length = (lim r).length ∧ (∀ (j : Nat) (h : j < (dig r).length), (dig r)[j] < 16777216) ∧ val (dig r) = r from ⟨(lim_length r).symm, fun j h => small_dig r j h, val_dig r⟩)
    have hmost := R.most
    have HSC := Lib.hid (fun W => sScale_fw r q hmost hl0 (by omega) W)
    have HTU := Lib.hid (fun W => sTurned_fw r q hmost hl0 W)
    have HCV := Lib.hid (show ∀ y : Nat, floatOfInt .f64 (y : Int) = fw false y 0 from fun y => by
      rw [ofInt_fw, decide_eq_false (show ¬ ((y : Int) < 0) by omega)]
      rfl)
    have HMU := Lib.hid (show ∀ (v y : Nat) , y + 16777216 * v ≤ r → (∀ W : World, (binOp .mul 42 (.float .f64 (fw false v 0)) (.float .f64 4715268809856909312)).run Try.prog W = .ok (.float .f64 (fw false (v * 16777216) 0)) W) ∧ (y < 16777216 → ∀ W : World, (binOp .add 42 (.float .f64 (fw false (v * 16777216) 0)) (.float .f64 (fw false y 0))).run Try.prog W = .ok (.float .f64 (fw false (y + 16777216 * v) 0)) W) from fun v y hv => by
      refine ⟨fun W => run_float_arith W _ _ _ _ _ _ (mul_24 (by omega)), fun hy W => run_float_arith W _ _ _ _ _ _ ?_⟩
      rw [add_whole2 (by omega) (by omega), show v * 16777216 + y = y + 16777216 * v by omega])
    have HRES := Lib.hid hsg
    have HZ0 : fw false 0 0 = 0 := by rw [fw_zero]; rfl
    obtain ⟨F, hF⟩ : ∃ F : Nat → Nat, (fun v => fw false v 0) = F := ⟨_, rfl⟩
    have hFv : ∀ v, fw false v 0 = F v := fun v => by rw [← hF]
    simp only [hFv] at HSC HCV HMU HZ0
    obtain ⟨fp, hfp⟩ : ∃ fp, fw false r q = fp := ⟨_, rfl⟩
    obtain ⟨fm, hfm⟩ : ∃ fm, fw true r q = fm := ⟨_, rfl⟩
    obtain ⟨fz, hfz⟩ : ∃ fz, fw (decide (s < 0)) m x = fz := ⟨_, rfl⟩
    rw [hfp] at HSC HTU
    rw [hfm] at HTU
    rw [hfz]
    have HEND := Lib.hid (show (s = 1 → fp = fz) ∧ (s = -1 → fm = fz) from ⟨fun h => by rw [← hfp, ← hfz]; exact hsg false (by rw [h]; decide), fun h => by rw [← hfm, ← hfz]; exact hsg true (by rw [h]; decide)⟩)
    clear HRES hsg hF hFv hfp hfm hfz
    have hrlI : ((lim r).length : Int) ≤ 200 := by omega
    by_cases hu0 : u ≤ 0
    · have HLEFT := Lib.hid (show ∀ (a1 : Option Addr) (d1 : Nat) (B : Nat) W, B ≤ W.heap.size → Ints W B a1 (lim m) → Calls Try.prog 108 #[.agg #[.int .i64 1, .slice a1 (lim m).length d1], .int .i64 (-u)] W fun e w' => ∃ b d, e = .returned (.agg #[.int .i64 (sgnOf 1 r), .slice b (lim r).length d]) ∧ (lim r).length ≤ d ∧ Own w' W.heap.size b (lim r) ∧ Below W.heap.size W w' from fun a1 d1 B W h1 h2 => by
        have hk : -u = ((x - q).toNat : Int) := by omega
        have h3 := sLeft 1 a1 m d1 (x - q).toNat W B h1 h2 (by omega) (by omega)
        have h4 : m * 2 ^ (x - q).toNat = r := by
          have := R.mult
          unfold nsh at this
          rw [if_pos (by omega)] at this
          exact this
        rw [h4] at h3
        rw [hk]
        exact h3)
      have e6 : IntKind.i64.wrap (-u) = -u := by rw [IntKind.wrap_i64]; omega
      clear p1 p3 p4 hW0 hx hc1 hd sm R hodd hx1 hx2 hy1 hy2 hu hB h0 s1 hl0 hq2
      go_enter Try.func122, Try.ntmps122
      go_wp2_with fail
      rw [HW0.out]
      refine (HA.out _ hT).mono ?_
      rintro e w1 ⟨a1, d1, rfl, hd1, ho1, hb1⟩
      obtain ⟨W2, hW2⟩ : ∃ W2 : World, w1.alloc (.cells #[.int .i64 1, .slice a1 (lim m).length d1] 103) = W2 := ⟨_, rfl⟩
      obtain ⟨r1, r3, r4⟩ := one_box w1 103 #[.int .i64 1, .slice a1 (lim m).length d1]
      rw [hW2] at r1 r3 r4
      have HW2 := Lib.hid hW2
      have ho2 := ho1.below r3
      have hb2 := hb1.trans (r3.mono hb1.size)
      have HK := Lib.hid (show ∀ W, Below W2.heap.size W2 W → ((W.cell? ⟨w.heap.size, 0, none⟩ = some (.int .i64 s) ∧ W.cell? ⟨w.heap.size, 1, none⟩ = some (.slice a (lim m).length c1) ∧ W.cell? ⟨w.heap.size, 2, none⟩ = some (.int .i64 x)) ∧ (W.cell? ⟨w1.heap.size, 0, none⟩ = some (.int .i64 1) ∧ W.cell? ⟨w1.heap.size, 1, none⟩ = some (.slice a1 (lim m).length d1)) ∧ Below W0.heap.size W0 W) from fun W hW =>
        ⟨SS.out _ (hb2.trans (hW.mono hb2.size)), ⟨(r1.below hW).cell 0, (r1.below hW).cell 1⟩, hb2.trans (hW.mono hb2.size)⟩)
      have HO := Lib.hid (show ∀ W, Below W2.heap.size W2 W → Ints W W2.heap.size a1 (lim m) ∧ W2.heap.size ≤ W.heap.size from fun W hW => ⟨ho2.ints.below hW, hW.size⟩)
      have HLN := Lib.hid (show ∀ W, Below W2.heap.size W2 W → Calls Try.prog 107 #[.agg #[.int .i64 1, .slice a1 (lim m).length d1]] W fun e w' => e = .returned (.int .i64 (bl : Int)) ∧ Below W2.heap.size W2 w' from fun W hW => by
        have := sLength 1 a1 m d1 W W2.heap.size (HO.out W hW).2 (HO.out W hW).1 (by omega)
        rw [hbl1] at this
        exact this.mono fun e w' ⟨he, hb⟩ => ⟨he, hW.trans (hb.mono hW.size)⟩)
      have hT2 : Below W2.heap.size W2 W2 := Below.refl _ _
      have hT2d := hT2.drew
      clear k1 k2 k3 hb1 ho1 hW2 r1 r3 r4
      obtain ⟨⟨k1, k2, k3⟩, ⟨k4, k5⟩, hbb⟩ := HK.out _ hT2
      go_wp2_with fail
      rw [HW2.out]
      go_region_held3 (fun W => (W.cell? ⟨w.heap.size, 0, none⟩ = some (.int .i64 s) ∧ W.cell? ⟨w.heap.size, 1, none⟩ = some (.slice a (lim m).length c1) ∧ W.cell? ⟨w.heap.size, 2, none⟩ = some (.int .i64 x)) ∧ (W.cell? ⟨w1.heap.size, 0, none⟩ = some (.int .i64 1) ∧ W.cell? ⟨w1.heap.size, 1, none⟩ = some (.slice a1 (lim m).length d1)) ∧ Below W0.heap.size W0 W)
        (first | exact HK.out _ (by assumption))
        (first
        | (go_at_call 107; with_reducible refine (HLN.out _ (by assumption)).mono ?_; rintro e w3 ⟨rfl, hb3⟩))
      all_goals
        clear k1 k2 k3 k4 k5 hbb
        obtain ⟨⟨k1, k2, k3⟩, ⟨k4, k5⟩, hbb⟩ := HK.out _ hb3
        obtain ⟨W5, hW5⟩ : ∃ W5 : World, w3.alloc (.cells #[.int .i64 1, .slice a1 (lim m).length d1] 103) = W5 := ⟨_, rfl⟩
        have hx5 : BoxAt W5 w3.heap.size 103 #[.int .i64 1, .slice a1 (lim m).length d1] := by rw [← hW5]; exact BoxAt.new _ _ _
        have hb5 : Below W2.heap.size W2 W5 := by rw [← hW5]; exact balU hb3
        have hz5 : W5.heap.size = w3.heap.size + 1 := by rw [← hW5]; simp
        have hz3 := hb3.size
        obtain ⟨⟨j1, j2, j3⟩, ⟨j4, j5⟩, hbj⟩ := HK.out _ hb5
        go_wp2_with fail
        clear hW5 k1 k2 k3 k4 k5 j1 j2 j3 j4 j5 hbb hbj
        refine (HLEFT.out _ _ W2.heap.size _ (HO.out _ hb5).2 (HO.out _ hb5).1).mono ?_
        rintro e w6 ⟨b6, d6, rfl, hd6, ho6, hb6⟩
        have hx6 := hx5.below hb6
        obtain ⟨W7, hW7⟩ : ∃ W7 : World, (w6.setCell ⟨w3.heap.size, 0, none⟩ (.int .i64 (sgnOf 1 r))).setCell ⟨w3.heap.size, 1, none⟩ (.slice b6 (lim r).length d6) = W7 := ⟨_, rfl⟩
        have hx7 : BoxAt W7 w3.heap.size 103 #[.int .i64 (sgnOf 1 r), .slice b6 (lim r).length d6] := by rw [← hW7]; exact set2_box hx6
        have ho7 : Own W7 W5.heap.size b6 (lim r) := by rw [← hW7]; exact (ho6.setFar (by simp; omega) _).setFar (by simp; omega) _
        have hb7 : Below W2.heap.size W2 W7 := by rw [← hW7]; exact below_set2 (hb5.trans (hb6.mono hb5.size)) (by omega) _ _
        obtain ⟨q1, q2, q3, q4⟩ := hx6.two
        obtain ⟨z1, z2, _, _⟩ := hx7.two
        obtain ⟨⟨j1, j2, j3⟩, _, hbj⟩ := HK.out _ hb7
        clear hx6 hx5 ho6 hb6 hd6 hb5 hz5
        go_wp2_with fail
        clear hW7 q1 q2 q3 q4
        go_loopw [12, 13] (fun v i wr => ∃ k : Nat, k ≤ (dig r).length ∧ v = .float .f64 (F (val ((dig r).drop k))) ∧ i = .int .i64 ((k : Int) - 1) ∧ wr = W7) (fun _ i _ => (intF i + 1).toNat)
        case atStart => exact ⟨(dig r).length, Nat.le_refl _, by rw [List.drop_length]; exact congrArg _ HZ0.symm, by rw [HL.out.1], rfl⟩
        case round =>
          obtain ⟨k, hk, rfl, rfl, rfl⟩ := hrel
          by_cases h0 : k = 0
          · subst h0
            have hv : val ((dig r).drop 0) = r := HL.out.2.2
            rw [hv, show ((0 : Nat) : Int) - 1 = -1 by omega]
            rcases hsc with hs | hs
            · subst hs
              have hend := HEND.out.1 rfl
              go_wp2_with (first | (go_at_call 82; refine (HSC.out _).mono ?_; rintro e w' ⟨rfl, rfl⟩) | (go_at_call 130; refine (HTU.out _).mono ?_; rintro e w' ⟨rfl, rfl⟩))
              go_ret
              exact ⟨rfl, HBE.out _ hbj⟩
            · subst hs
              have hend := HEND.out.2 rfl
              go_wp2_with (first | (go_at_call 82; refine (HSC.out _).mono ?_; rintro e w' ⟨rfl, rfl⟩) | (go_at_call 130; refine (HTU.out _).mono ?_; rintro e w' ⟨rfl, rfl⟩))
              go_ret
              exact ⟨rfl, HBE.out _ hbj⟩
          · obtain ⟨j, rfl⟩ : ∃ j, k = j + 1 := ⟨k - 1, by omega⟩
            have hj : j < (dig r).length := by omega
            have hj' : j < (lim r).length := by rw [← HL.out.1]; exact hj
            obtain ⟨c, o, hbc, _, hcell⟩ := ho7.ints j hj'
            obtain ⟨y, hy⟩ : ∃ y : Nat, (dig r)[j] = y := ⟨_, rfl⟩
            have hyl : (lim r)[j] = (y : Int) := by rw [← hy]; exact ofN_at (dig r) j hj'
            have hylt : y < 16777216 := by rw [← hy]; exact HL.out.2.1 j hj
            have hst := dropv_step (dig r) hj
            have hle := dropv_le (dig r) j
            rw [HL.out.2.2] at hle
            rw [hy] at hst
            obtain ⟨v, hv⟩ : ∃ v, val ((dig r).drop (j + 1)) = v := ⟨_, rfl⟩
            rw [hv] at hst ⊢
            obtain ⟨hm, ha⟩ := HMU.out v y (by omega)
            have ha := ha hylt
            have hcv := HCV.out y
            rw [hyl] at hcell
            rw [show ((j + 1 : Nat) : Int) - 1 = (j : Int) by omega]
            have hji : (j : Int) < ((lim r).length : Int) := by omega
            have hji0 : (0 : Int) ≤ (j : Int) := by omega
            have hli : ((lim r).length : Int) ≤ 200 := by omega
            subst hbc
            have HST := Lib.hid hst
            clear hst hle hy hyl hylt hv hj' hk h0 j1 j2 j3 z1
            go_wp2_with fail
            go_roundw
            case rel => exact ⟨j, by omega, by rw [HST.out], by go_num, by first | rfl | trivial⟩
            case measure => simp [intF] <;> omega
    · obtain ⟨K, hK⟩ : ∃ K : Nat, u = (K : Int) := ⟨u.toNat, by omega⟩
      subst hK
      have hK1 : 1 ≤ K := by omega
      have hK2 : K ≤ 30000 := by omega
      obtain ⟨M, hM⟩ : ∃ M, m / 2 ^ K = M := ⟨_, rfl⟩
      obtain ⟨N, hN⟩ : ∃ N, m / 2 ^ (K - 1) % 2 = N := ⟨_, rfl⟩
      have hr : r = M + if (N = 1 ∧ (1 < K ∨ M % 2 = 1)) then 1 else 0 := by
        have h1 := R.mult
        rw [show x - q = -(K : Int) by omega, nsh_down m hK1, near_rne h0 hK1, hM, hN, tw_odd hodd] at h1
        rw [← h1]
        congr 2
        exact propext ⟨fun ⟨a1, a2⟩ => ⟨a1, by omega⟩, fun ⟨a1, a2⟩ => ⟨a1, by omega⟩⟩
      have hN2 : N < 2 := by rw [← hN]; exact Nat.mod_lt _ (by omega)
      have hlM : (lim M).length ≤ 200 := by rw [← hM]; exact Nat.le_trans (lim_le_of_le (Nat.div_le_self _ _)) hlm
      have HCUT := Lib.hid (show ∀ (a1 : Option Addr) (d1 : Nat) (B : Nat) W, B ≤ W.heap.size → Ints W B a1 (lim m) → Calls Try.prog 124 #[.agg #[.int .i64 1, .slice a1 (lim m).length d1], .int .i64 (K : Int)] W fun e w' => ∃ b d, e = .returned (.agg #[.int .i64 (sgnOf 1 M), .slice b (lim M).length d]) ∧ (lim M).length ≤ d ∧ Own w' W.heap.size b (lim M) ∧ Below W.heap.size W w' from fun a1 d1 B W h1 h2 => by
        have h3 := sCut 1 a1 m d1 K W B h1 h2 (by omega) (by omega)
        rw [hM] at h3
        exact h3)
      have HBIT := Lib.hid (show ∀ (a1 : Option Addr) (d1 : Nat) (B : Nat) W, B ≤ W.heap.size → Ints W B a1 (lim m) → Calls Try.prog 129 #[.agg #[.int .i64 1, .slice a1 (lim m).length d1], .int .i64 ((K : Int) - 1)] W (RetB (.int .i64 (N : Int)) W) from fun a1 d1 B W h1 h2 => by
        have h3 := sBit 1 a1 m d1 (K - 1) W B h1 h2 (by omega) (by omega)
        rw [hN, show ((K - 1 : Nat) : Int) = (K : Int) - 1 by omega] at h3
        exact h3)
      have HBIT0 := Lib.hid (show ∀ (b : Option Addr) (d lo : Nat) W, Own W lo b (lim M) → Calls Try.prog 129 #[.agg #[.int .i64 (sgnOf 1 M), .slice b (lim M).length d], .int .i64 0] W (RetB (.int .i64 ((M % 2 : Nat) : Int)) W) from fun b d lo W ho => by
        have h3 := sBit (sgnOf 1 M) b M d 0 W _ (Nat.le_refl _) ho.ints (by omega) (by omega)
        rw [Nat.pow_zero, Nat.div_one] at h3
        exact h3)
      have HOF := Lib.hid (show ∀ W : World, Calls Try.prog 113 #[.int .i64 1] W fun e w' => ∃ b d, e = .returned (.agg #[.int .i64 1, .slice b (lim 1).length d]) ∧ (lim 1).length ≤ d ∧ Own w' W.heap.size b (lim 1) ∧ Below W.heap.size W w' from fun W => by
        have h3 := sOfP 1 (by omega) W
        unfold RetN at h3
        rw [sgnOf_pos (by omega)] at h3
        exact h3)
      have HADD := Lib.hid (show ∀ (a b : Option Addr) (c d lo lo' : Nat) W, Own W lo a (lim M) → (lim M).length ≤ c → Own W lo' b (lim 1) → (lim 1).length ≤ d → Calls Try.prog 112 #[.agg #[.int .i64 (sgnOf 1 M), .slice a (lim M).length c], .agg #[.int .i64 1, .slice b (lim 1).length d]] W fun e w' => ∃ b d, e = .returned (.agg #[.int .i64 (sgnOf 1 (M + 1)), .slice b (lim (M + 1)).length d]) ∧ (lim (M + 1)).length ≤ d ∧ Own w' W.heap.size b (lim (M + 1)) ∧ Below W.heap.size W w' from fun a b c d lo lo' W ho hc ho' hd => by
        have h := sAdd (sgnOf 1 M) 1 a b M 1 c d W _ _ (Nat.le_refl _) (Nat.le_refl _) ho.ints ho'.ints (sgn_one M).1 (by unfold Sg; omega) (by omega) (by rw [lim_one]; simp) hc hd
        unfold RetZ at h
        rw [(sgn_one M).2, show (M : Int) + 1 * ((1 : Nat) : Int) = ((M + 1 : Nat) : Int) by omega, Int.natAbs_natCast] at h
        have e2 : (((M + 1 : Nat) : Int)).sign = sgnOf 1 (M + 1) := by rw [sgnOf_pos (by omega)]; exact Int.sign_eq_one_of_pos (by omega)
        rw [e2] at h
        exact h)
      have hKI : (1 : Int) ≤ (K : Int) := by omega
      have hKI2 : (K : Int) ≤ 30000 := by omega
      have hT0 := hT
      clear p1 p3 p4 hW0 hx hc1 hd sm R hodd hx1 hx2 hy1 hy2 hu hB h0 s1 hl0 hq2 hN hM hlM hK1 hK2 hu0 e5
      go_enter Try.func122, Try.ntmps122
      go_wp2_with fail
      rw [HW0.out]
      refine (HA.out _ hT).mono ?_
      rintro e w1 ⟨a1, d1, rfl, hd1, ho1, hb1⟩
      obtain ⟨W2, hW2⟩ : ∃ W2 : World, w1.alloc (.cells #[.int .i64 1, .slice a1 (lim m).length d1] 103) = W2 := ⟨_, rfl⟩
      obtain ⟨r1, r3, r4⟩ := one_box w1 103 #[.int .i64 1, .slice a1 (lim m).length d1]
      rw [hW2] at r1 r3 r4
      have HW2 := Lib.hid hW2
      have ho2 := ho1.below r3
      have hb2 := hb1.trans (r3.mono hb1.size)
      have HK := Lib.hid (show ∀ W, Below W2.heap.size W2 W → ((W.cell? ⟨w.heap.size, 0, none⟩ = some (.int .i64 s) ∧ W.cell? ⟨w.heap.size, 1, none⟩ = some (.slice a (lim m).length c1) ∧ W.cell? ⟨w.heap.size, 2, none⟩ = some (.int .i64 x)) ∧ (W.cell? ⟨w1.heap.size, 0, none⟩ = some (.int .i64 1) ∧ W.cell? ⟨w1.heap.size, 1, none⟩ = some (.slice a1 (lim m).length d1)) ∧ Below W0.heap.size W0 W) from fun W hW =>
        ⟨SS.out _ (hb2.trans (hW.mono hb2.size)), ⟨(r1.below hW).cell 0, (r1.below hW).cell 1⟩, hb2.trans (hW.mono hb2.size)⟩)
      have HO := Lib.hid (show ∀ W, Below W2.heap.size W2 W → Ints W W2.heap.size a1 (lim m) ∧ W2.heap.size ≤ W.heap.size from fun W hW => ⟨ho2.ints.below hW, hW.size⟩)
      have HLN := Lib.hid (show ∀ W, Below W2.heap.size W2 W → Calls Try.prog 107 #[.agg #[.int .i64 1, .slice a1 (lim m).length d1]] W fun e w' => e = .returned (.int .i64 (bl : Int)) ∧ Below W2.heap.size W2 w' from fun W hW => by
        have := sLength 1 a1 m d1 W W2.heap.size (HO.out W hW).2 (HO.out W hW).1 (by omega)
        rw [hbl1] at this
        exact this.mono fun e w' ⟨he, hb⟩ => ⟨he, hW.trans (hb.mono hW.size)⟩)
      have hT2 : Below W2.heap.size W2 W2 := Below.refl _ _
      have hT2d := hT2.drew
      clear k1 k2 k3 hb1 ho1 hW2 r1 r3 r4
      obtain ⟨⟨k1, k2, k3⟩, ⟨k4, k5⟩, hbb⟩ := HK.out _ hT2
      go_wp2_with fail
      rw [HW2.out]
      go_region_held3 (fun W => (W.cell? ⟨w.heap.size, 0, none⟩ = some (.int .i64 s) ∧ W.cell? ⟨w.heap.size, 1, none⟩ = some (.slice a (lim m).length c1) ∧ W.cell? ⟨w.heap.size, 2, none⟩ = some (.int .i64 x)) ∧ (W.cell? ⟨w1.heap.size, 0, none⟩ = some (.int .i64 1) ∧ W.cell? ⟨w1.heap.size, 1, none⟩ = some (.slice a1 (lim m).length d1)) ∧ Below W0.heap.size W0 W)
        (first | exact HK.out _ (by assumption))
        (first
        | (go_at_call 107; with_reducible refine (HLN.out _ (by assumption)).mono ?_; rintro e w3 ⟨rfl, hb3⟩))
      all_goals
        clear k1 k2 k3 k4 k5 hbb
        obtain ⟨⟨k1, k2, k3⟩, ⟨k4, k5⟩, hbb⟩ := HK.out _ hb3
        obtain ⟨W5, hW5⟩ : ∃ W5 : World, w3.alloc (.cells #[.int .i64 1, .slice a1 (lim m).length d1] 103) = W5 := ⟨_, rfl⟩
        have hx5 : BoxAt W5 w3.heap.size 103 #[.int .i64 1, .slice a1 (lim m).length d1] := by rw [← hW5]; exact BoxAt.new _ _ _
        have hb5 : Below W2.heap.size W2 W5 := by rw [← hW5]; exact balU hb3
        have hz5 : W5.heap.size = w3.heap.size + 1 := by rw [← hW5]; simp
        have hz3 := hb3.size
        obtain ⟨⟨j1, j2, j3⟩, ⟨j4, j5⟩, hbj⟩ := HK.out _ hb5
        go_wp2_with fail
        clear hW5 k1 k2 k3 k4 k5 j1 j2 j3 j4 j5 hbb hbj
        refine (HCUT.out _ _ W2.heap.size _ (HO.out _ hb5).2 (HO.out _ hb5).1).mono ?_
        rintro e w6 ⟨b6, d6, rfl, hd6, ho6, hb6⟩
        have hx6 := hx5.below hb6
        obtain ⟨W7, hW7⟩ : ∃ W7 : World, (w6.setCell ⟨w3.heap.size, 0, none⟩ (.int .i64 (sgnOf 1 M))).setCell ⟨w3.heap.size, 1, none⟩ (.slice b6 (lim M).length d6) = W7 := ⟨_, rfl⟩
        have hx7 : BoxAt W7 w3.heap.size 103 #[.int .i64 (sgnOf 1 M), .slice b6 (lim M).length d6] := by rw [← hW7]; exact set2_box hx6
        have ho7 : Own W7 W5.heap.size b6 (lim M) := by rw [← hW7]; exact (ho6.setFar (by simp; omega) _).setFar (by simp; omega) _
        have hb7 : Below W2.heap.size W2 W7 := by rw [← hW7]; exact below_set2 (hb5.trans (hb6.mono hb5.size)) (by omega) _ _
        have hz7 : W5.heap.size ≤ W7.heap.size := by rw [← hW7]; have := hb6.size; simp [World.setCell]; omega
        obtain ⟨q1, q2, q3, q4⟩ := hx6.two
        obtain ⟨z1, z2, _, _⟩ := hx7.two
        obtain ⟨⟨j1, j2, j3⟩, ⟨j4, j5⟩, hbj⟩ := HK.out _ hb7
        clear hx6 hx5 ho6 hb6 hb5
        go_wp2_with fail
        clear hW7 q1 q2 q3 q4
        refine (HBIT.out _ _ W2.heap.size _ (HO.out _ hb7).2 (HO.out _ hb7).1).mono ?_
        rintro e w8 ⟨rfl, hb8⟩
        have hx8 := hx7.below hb8
        have ho8 := ho7.below hb8
        have hb8' := hb7.trans (hb8.mono hb7.size)
        have hz8 : w3.heap.size < w8.heap.size := by have := hb8.size; omega
        clear z1 z2 j1 j2 j3 j4 j5 hbj hx7 ho7 hb7 hb8
        obtain ⟨z1, z2, z3, z4⟩ := hx8.two
        obtain ⟨⟨j1, j2, j3⟩, ⟨j4, j5⟩, hbj⟩ := HK.out _ hb8'
        rcases (show N = 0 ∨ N = 1 by omega) with hN0 | hN0
        · subst hN0
          rw [if_neg (by omega), Nat.add_zero] at hr
          subst hr
          go_wp2_with fail
          go_loopw [12, 13] (fun v i wr => ∃ k : Nat, k ≤ (dig r).length ∧ v = .float .f64 (F (val ((dig r).drop k))) ∧ i = .int .i64 ((k : Int) - 1) ∧ wr = w8) (fun _ i _ => (intF i + 1).toNat)
          case atStart => exact ⟨(dig r).length, Nat.le_refl _, by rw [List.drop_length]; exact congrArg _ HZ0.symm, by rw [HL.out.1], rfl⟩
          case round =>
            obtain ⟨k, hk, rfl, rfl, rfl⟩ := hrel
            by_cases h0 : k = 0
            · subst h0
              have hv : val ((dig r).drop 0) = r := HL.out.2.2
              rw [hv, show ((0 : Nat) : Int) - 1 = -1 by omega]
              rcases hsc with hs | hs
              · subst hs
                have hend := HEND.out.1 rfl
                go_wp2_with (first | (go_at_call 82; refine (HSC.out _).mono ?_; rintro e w' ⟨rfl, rfl⟩) | (go_at_call 130; refine (HTU.out _).mono ?_; rintro e w' ⟨rfl, rfl⟩))
                go_ret
                exact ⟨rfl, HBE.out _ hbj⟩
              · subst hs
                have hend := HEND.out.2 rfl
                go_wp2_with (first | (go_at_call 82; refine (HSC.out _).mono ?_; rintro e w' ⟨rfl, rfl⟩) | (go_at_call 130; refine (HTU.out _).mono ?_; rintro e w' ⟨rfl, rfl⟩))
                go_ret
                exact ⟨rfl, HBE.out _ hbj⟩
            · obtain ⟨j, rfl⟩ : ∃ j, k = j + 1 := ⟨k - 1, by omega⟩
              have hj : j < (dig r).length := by omega
              have hj' : j < (lim r).length := by rw [← HL.out.1]; exact hj
              obtain ⟨c, o, hbc, _, hcell⟩ := ho8.ints j hj'
              obtain ⟨y, hy⟩ : ∃ y : Nat, (dig r)[j] = y := ⟨_, rfl⟩
              have hyl : (lim r)[j] = (y : Int) := by rw [← hy]; exact ofN_at (dig r) j hj'
              have hylt : y < 16777216 := by rw [← hy]; exact HL.out.2.1 j hj
              have hst := dropv_step (dig r) hj
              have hle := dropv_le (dig r) j
              rw [HL.out.2.2] at hle
              rw [hy] at hst
              obtain ⟨v, hv⟩ : ∃ v, val ((dig r).drop (j + 1)) = v := ⟨_, rfl⟩
              rw [hv] at hst ⊢
              obtain ⟨hm, ha⟩ := HMU.out v y (by omega)
              have ha := ha hylt
              have hcv := HCV.out y
              rw [hyl] at hcell
              rw [show ((j + 1 : Nat) : Int) - 1 = (j : Int) by omega]
              have hji : (j : Int) < ((lim r).length : Int) := by omega
              have hji0 : (0 : Int) ≤ (j : Int) := by omega
              have hli : ((lim r).length : Int) ≤ 200 := by omega
              subst hbc
              have HST := Lib.hid hst
              clear hst hle hy hyl hylt hv hj' hk h0 j1 j2 j3 z1
              go_wp2_with fail
              go_roundw
              case rel => exact ⟨j, by omega, by rw [HST.out], by go_num, by first | rfl | trivial⟩
              case measure => simp [intF] <;> omega
        · subst hN0
          by_cases hKK : (1 : Int) < (K : Int)
          · rw [if_pos ⟨rfl, .inl (by omega)⟩] at hr
            have HRR := Lib.hid hr
            clear hr
            obtain ⟨x1, x2, x3, x4⟩ := BoxAt.two (w := w8.drew) hx8
            go_wp2_with fail
            go_region_with ((first
              | (go_at_call 113; refine (HOF.out _).mono ?_; rintro e w9 ⟨b9, d9, rfl, hd9, ho9, hb9⟩; have hx9 := BoxAt.below (w := w8.drew) hx8 hb9; have ho99 := Own.below (w := w8.drew) ho8 hb9; obtain ⟨y1, y2, y3, y4⟩ := hx9.two)
              | (go_at_call 112; refine (HADD.out _ _ _ _ _ _ _ ho99 hd6 ho9 hd9).mono ?_; rintro e w10 ⟨b10, d10, rfl, hd10, ho10, hb10⟩; have hx10 := hx9.below hb10; obtain ⟨q1, q2, q3, q4⟩ := hx10.two)))
            all_goals
              have hb9' : Below w8.heap.size w8 w9 := (Below.refl w8.heap.size w8).drew.trans hb9
              have hzz := hb9'.size
              have hb10' := hb9'.trans (hb10.mono hzz)
              obtain ⟨W11, hW11⟩ : ∃ W11 : World, (w10.setCell ⟨w3.heap.size, 0, none⟩ (.int .i64 (sgnOf 1 (M + 1)))).setCell ⟨w3.heap.size, 1, none⟩ (.slice b10 (lim (M + 1)).length d10) = W11 := ⟨_, rfl⟩
              have hx11 : BoxAt W11 w3.heap.size 103 #[.int .i64 (sgnOf 1 (M + 1)), .slice b10 (lim (M + 1)).length d10] := by rw [← hW11]; exact set2_box hx10
              have ho11 : Own W11 w9.heap.size b10 (lim (M + 1)) := by
                rw [← hW11]
                exact (ho10.setFar (by simp; omega) _).setFar (by simp; omega) _
              have hb11 : Below W2.heap.size W2 W11 := by rw [← hW11]; exact below_set2 (hb8'.trans (hb10'.mono hb8'.size)) (by omega) _ _
              clear z1 z2 z3 z4 j1 j2 j3 j4 j5 hbj hx10 hx9 ho10 ho9 ho99 hb10 hb10' hb9 hb9' hd10 hd9 q1 q2 q3 q4 x1 x2 x3 x4 y1 y2 y3 y4
              have hr := HRR.out
              rw [← hr] at hx11 ho11 hW11
              (try rw [← hr])
              clear hr
              obtain ⟨z1, z2, _, _⟩ := hx11.two
              obtain ⟨⟨j1, j2, j3⟩, ⟨j4, j5⟩, hbj⟩ := HK.out _ hb11
              go_wp2_with fail
              clear hW11
              go_loopw [12, 13] (fun v i wr => ∃ k : Nat, k ≤ (dig r).length ∧ v = .float .f64 (F (val ((dig r).drop k))) ∧ i = .int .i64 ((k : Int) - 1) ∧ wr = W11) (fun _ i _ => (intF i + 1).toNat)
              case atStart => exact ⟨(dig r).length, Nat.le_refl _, by rw [List.drop_length]; exact congrArg _ HZ0.symm, by rw [HL.out.1], rfl⟩
              case round =>
                obtain ⟨k, hk, rfl, rfl, rfl⟩ := hrel
                by_cases h0 : k = 0
                · subst h0
                  have hv : val ((dig r).drop 0) = r := HL.out.2.2
                  rw [hv, show ((0 : Nat) : Int) - 1 = -1 by omega]
                  rcases hsc with hs | hs
                  · subst hs
                    have hend := HEND.out.1 rfl
                    go_wp2_with (first | (go_at_call 82; refine (HSC.out _).mono ?_; rintro e w' ⟨rfl, rfl⟩) | (go_at_call 130; refine (HTU.out _).mono ?_; rintro e w' ⟨rfl, rfl⟩))
                    go_ret
                    exact ⟨rfl, HBE.out _ hbj⟩
                  · subst hs
                    have hend := HEND.out.2 rfl
                    go_wp2_with (first | (go_at_call 82; refine (HSC.out _).mono ?_; rintro e w' ⟨rfl, rfl⟩) | (go_at_call 130; refine (HTU.out _).mono ?_; rintro e w' ⟨rfl, rfl⟩))
                    go_ret
                    exact ⟨rfl, HBE.out _ hbj⟩
                · obtain ⟨j, rfl⟩ : ∃ j, k = j + 1 := ⟨k - 1, by omega⟩
                  have hj : j < (dig r).length := by omega
                  have hj' : j < (lim r).length := by rw [← HL.out.1]; exact hj
                  obtain ⟨c, o, hbc, _, hcell⟩ := ho11.ints j hj'
                  obtain ⟨y, hy⟩ : ∃ y : Nat, (dig r)[j] = y := ⟨_, rfl⟩
                  have hyl : (lim r)[j] = (y : Int) := by rw [← hy]; exact ofN_at (dig r) j hj'
                  have hylt : y < 16777216 := by rw [← hy]; exact HL.out.2.1 j hj
                  have hst := dropv_step (dig r) hj
                  have hle := dropv_le (dig r) j
                  rw [HL.out.2.2] at hle
                  rw [hy] at hst
                  obtain ⟨v, hv⟩ : ∃ v, val ((dig r).drop (j + 1)) = v := ⟨_, rfl⟩
                  rw [hv] at hst ⊢
                  obtain ⟨hm, ha⟩ := HMU.out v y (by omega)
                  have ha := ha hylt
                  have hcv := HCV.out y
                  rw [hyl] at hcell
                  rw [show ((j + 1 : Nat) : Int) - 1 = (j : Int) by omega]
                  have hji : (j : Int) < ((lim r).length : Int) := by omega
                  have hji0 : (0 : Int) ≤ (j : Int) := by omega
                  have hli : ((lim r).length : Int) ≤ 200 := by omega
                  subst hbc
                  have HST := Lib.hid hst
                  clear hst hle hy hyl hylt hv hj' hk h0 j1 j2 j3 z1
                  go_wp2_with fail
                  go_roundw
                  case rel => exact ⟨j, by omega, by rw [HST.out], by go_num, by first | rfl | trivial⟩
                  case measure => simp [intF] <;> omega
          · by_cases hM1 : M % 2 = 1
            · rw [if_pos ⟨rfl, .inr hM1⟩] at hr
              rw [hM1] at HBIT0
              go_wp2_with fail
              refine (HBIT0.out _ _ _ _ ho8).mono ?_
              rintro e w88 ⟨rfl, hb88⟩
              have hx88 := hx8.below hb88
              have ho88 := ho8.below hb88
              have hb88' := hb8'.trans (hb88.mono hb8'.size)
              have hz88 : w3.heap.size < w88.heap.size := by have := hb88.size; omega
              clear z1 z2 z3 z4 j1 j2 j3 j4 j5 hbj hx8 ho8 hb8' hb88
              obtain ⟨z1, z2, z3, z4⟩ := hx88.two
              obtain ⟨⟨j1, j2, j3⟩, ⟨j4, j5⟩, hbj⟩ := HK.out _ hb88'
              have HRR := Lib.hid hr
              clear hr
              obtain ⟨x1, x2, x3, x4⟩ := BoxAt.two (w := w88.drew) hx88
              go_wp2_with fail
              go_region_with ((first
                | (go_at_call 113; refine (HOF.out _).mono ?_; rintro e w9 ⟨b9, d9, rfl, hd9, ho9, hb9⟩; have hx9 := BoxAt.below (w := w88.drew) hx88 hb9; have ho99 := Own.below (w := w88.drew) ho88 hb9; obtain ⟨y1, y2, y3, y4⟩ := hx9.two)
                | (go_at_call 112; refine (HADD.out _ _ _ _ _ _ _ ho99 hd6 ho9 hd9).mono ?_; rintro e w10 ⟨b10, d10, rfl, hd10, ho10, hb10⟩; have hx10 := hx9.below hb10; obtain ⟨q1, q2, q3, q4⟩ := hx10.two)))
              all_goals
                have hb9' : Below w88.heap.size w88 w9 := (Below.refl w88.heap.size w88).drew.trans hb9
                have hzz := hb9'.size
                have hb10' := hb9'.trans (hb10.mono hzz)
                obtain ⟨W11, hW11⟩ : ∃ W11 : World, (w10.setCell ⟨w3.heap.size, 0, none⟩ (.int .i64 (sgnOf 1 (M + 1)))).setCell ⟨w3.heap.size, 1, none⟩ (.slice b10 (lim (M + 1)).length d10) = W11 := ⟨_, rfl⟩
                have hx11 : BoxAt W11 w3.heap.size 103 #[.int .i64 (sgnOf 1 (M + 1)), .slice b10 (lim (M + 1)).length d10] := by rw [← hW11]; exact set2_box hx10
                have ho11 : Own W11 w9.heap.size b10 (lim (M + 1)) := by
                  rw [← hW11]
                  exact (ho10.setFar (by simp; omega) _).setFar (by simp; omega) _
                have hb11 : Below W2.heap.size W2 W11 := by rw [← hW11]; exact below_set2 (hb88'.trans (hb10'.mono hb88'.size)) (by omega) _ _
                clear z1 z2 z3 z4 j1 j2 j3 j4 j5 hbj hx10 hx9 ho10 ho9 ho99 hb10 hb10' hb9 hb9' hd10 hd9 q1 q2 q3 q4 x1 x2 x3 x4 y1 y2 y3 y4
                have hr := HRR.out
                rw [← hr] at hx11 ho11 hW11
                (try rw [← hr])
                clear hr
                obtain ⟨z1, z2, _, _⟩ := hx11.two
                obtain ⟨⟨j1, j2, j3⟩, ⟨j4, j5⟩, hbj⟩ := HK.out _ hb11
                go_wp2_with fail
                clear hW11
                go_loopw [12, 13] (fun v i wr => ∃ k : Nat, k ≤ (dig r).length ∧ v = .float .f64 (F (val ((dig r).drop k))) ∧ i = .int .i64 ((k : Int) - 1) ∧ wr = W11) (fun _ i _ => (intF i + 1).toNat)
                case atStart => exact ⟨(dig r).length, Nat.le_refl _, by rw [List.drop_length]; exact congrArg _ HZ0.symm, by rw [HL.out.1], rfl⟩
                case round =>
                  obtain ⟨k, hk, rfl, rfl, rfl⟩ := hrel
                  by_cases h0 : k = 0
                  · subst h0
                    have hv : val ((dig r).drop 0) = r := HL.out.2.2
                    rw [hv, show ((0 : Nat) : Int) - 1 = -1 by omega]
                    rcases hsc with hs | hs
                    · subst hs
                      have hend := HEND.out.1 rfl
                      go_wp2_with (first | (go_at_call 82; refine (HSC.out _).mono ?_; rintro e w' ⟨rfl, rfl⟩) | (go_at_call 130; refine (HTU.out _).mono ?_; rintro e w' ⟨rfl, rfl⟩))
                      go_ret
                      exact ⟨rfl, HBE.out _ hbj⟩
                    · subst hs
                      have hend := HEND.out.2 rfl
                      go_wp2_with (first | (go_at_call 82; refine (HSC.out _).mono ?_; rintro e w' ⟨rfl, rfl⟩) | (go_at_call 130; refine (HTU.out _).mono ?_; rintro e w' ⟨rfl, rfl⟩))
                      go_ret
                      exact ⟨rfl, HBE.out _ hbj⟩
                  · obtain ⟨j, rfl⟩ : ∃ j, k = j + 1 := ⟨k - 1, by omega⟩
                    have hj : j < (dig r).length := by omega
                    have hj' : j < (lim r).length := by rw [← HL.out.1]; exact hj
                    obtain ⟨c, o, hbc, _, hcell⟩ := ho11.ints j hj'
                    obtain ⟨y, hy⟩ : ∃ y : Nat, (dig r)[j] = y := ⟨_, rfl⟩
                    have hyl : (lim r)[j] = (y : Int) := by rw [← hy]; exact ofN_at (dig r) j hj'
                    have hylt : y < 16777216 := by rw [← hy]; exact HL.out.2.1 j hj
                    have hst := dropv_step (dig r) hj
                    have hle := dropv_le (dig r) j
                    rw [HL.out.2.2] at hle
                    rw [hy] at hst
                    obtain ⟨v, hv⟩ : ∃ v, val ((dig r).drop (j + 1)) = v := ⟨_, rfl⟩
                    rw [hv] at hst ⊢
                    obtain ⟨hm, ha⟩ := HMU.out v y (by omega)
                    have ha := ha hylt
                    have hcv := HCV.out y
                    rw [hyl] at hcell
                    rw [show ((j + 1 : Nat) : Int) - 1 = (j : Int) by omega]
                    have hji : (j : Int) < ((lim r).length : Int) := by omega
                    have hji0 : (0 : Int) ≤ (j : Int) := by omega
                    have hli : ((lim r).length : Int) ≤ 200 := by omega
                    subst hbc
                    have HST := Lib.hid hst
                    clear hst hle hy hyl hylt hv hj' hk h0 j1 j2 j3 z1
                    go_wp2_with fail
                    go_roundw
                    case rel => exact ⟨j, by omega, by rw [HST.out], by go_num, by first | rfl | trivial⟩
                    case measure => simp [intF] <;> omega
            · rw [if_neg (by omega), Nat.add_zero] at hr
              have hM0 : M % 2 = 0 := by omega
              rw [hM0] at HBIT0
              subst hr
              go_wp2_with fail
              refine (HBIT0.out _ _ _ _ ho8).mono ?_
              rintro e w88 ⟨rfl, hb88⟩
              have hx88 := hx8.below hb88
              have ho88 := ho8.below hb88
              have hb88' := hb8'.trans (hb88.mono hb8'.size)
              clear z1 z2 z3 z4 j1 j2 j3 j4 j5 hbj hx8 ho8 hb8' hb88
              obtain ⟨z1, z2, z3, z4⟩ := hx88.two
              obtain ⟨⟨j1, j2, j3⟩, ⟨j4, j5⟩, hbj⟩ := HK.out _ hb88'
              go_wp2_with fail
              go_loopw [12, 13] (fun v i wr => ∃ k : Nat, k ≤ (dig r).length ∧ v = .float .f64 (F (val ((dig r).drop k))) ∧ i = .int .i64 ((k : Int) - 1) ∧ wr = w88) (fun _ i _ => (intF i + 1).toNat)
              case atStart => exact ⟨(dig r).length, Nat.le_refl _, by rw [List.drop_length]; exact congrArg _ HZ0.symm, by rw [HL.out.1], rfl⟩
              case round =>
                obtain ⟨k, hk, rfl, rfl, rfl⟩ := hrel
                by_cases h0 : k = 0
                · subst h0
                  have hv : val ((dig r).drop 0) = r := HL.out.2.2
                  rw [hv, show ((0 : Nat) : Int) - 1 = -1 by omega]
                  rcases hsc with hs | hs
                  · subst hs
                    have hend := HEND.out.1 rfl
                    go_wp2_with (first | (go_at_call 82; refine (HSC.out _).mono ?_; rintro e w' ⟨rfl, rfl⟩) | (go_at_call 130; refine (HTU.out _).mono ?_; rintro e w' ⟨rfl, rfl⟩))
                    go_ret
                    exact ⟨rfl, HBE.out _ hbj⟩
                  · subst hs
                    have hend := HEND.out.2 rfl
                    go_wp2_with (first | (go_at_call 82; refine (HSC.out _).mono ?_; rintro e w' ⟨rfl, rfl⟩) | (go_at_call 130; refine (HTU.out _).mono ?_; rintro e w' ⟨rfl, rfl⟩))
                    go_ret
                    exact ⟨rfl, HBE.out _ hbj⟩
                · obtain ⟨j, rfl⟩ : ∃ j, k = j + 1 := ⟨k - 1, by omega⟩
                  have hj : j < (dig r).length := by omega
                  have hj' : j < (lim r).length := by rw [← HL.out.1]; exact hj
                  obtain ⟨c, o, hbc, _, hcell⟩ := ho88.ints j hj'
                  obtain ⟨y, hy⟩ : ∃ y : Nat, (dig r)[j] = y := ⟨_, rfl⟩
                  have hyl : (lim r)[j] = (y : Int) := by rw [← hy]; exact ofN_at (dig r) j hj'
                  have hylt : y < 16777216 := by rw [← hy]; exact HL.out.2.1 j hj
                  have hst := dropv_step (dig r) hj
                  have hle := dropv_le (dig r) j
                  rw [HL.out.2.2] at hle
                  rw [hy] at hst
                  obtain ⟨v, hv⟩ : ∃ v, val ((dig r).drop (j + 1)) = v := ⟨_, rfl⟩
                  rw [hv] at hst ⊢
                  obtain ⟨hm, ha⟩ := HMU.out v y (by omega)
                  have ha := ha hylt
                  have hcv := HCV.out y
                  rw [hyl] at hcell
                  rw [show ((j + 1 : Nat) : Int) - 1 = (j : Int) by omega]
                  have hji : (j : Int) < ((lim r).length : Int) := by omega
                  have hji0 : (0 : Int) ≤ (j : Int) := by omega
                  have hli : ((lim r).length : Int) ≤ 200 := by omega
                  subst hbc
                  have HST := Lib.hid hst
                  clear hst hle hy hyl hylt hv hj' hk h0 j1 j2 j3 z1
                  go_wp2_with fail
                  go_roundw
                  case rel => exact ⟨j, by omega, by rw [HST.out], by go_num, by first | rfl | trivial⟩
                  case measure => simp [intF] <;> omega

theorem fit_flt (s : Int) (m : Nat) (x : Int) : fitF (fw (decide (s < 0)) m x) = flt s m x := by
  unfold fitF flt
  rw [isF_rung]
  by_cases h : rawRung f64 m x < 0x7ff0000000000000
  · rw [if_pos (decide_eq_true h), if_pos h]
  · rw [if_neg (by rw [decide_eq_false h]; decide), if_neg h]

theorem quo_fin {x : Nat} (h : isF .f64 x = true) : ∃ r, floatBits .quo .f64 4607182418800017408 x = some r := by
  have h1 : FloatKind.f64.format.read 4607182418800017408 = .number false (2 ^ 52) (-52) := by decide +kernel
  unfold isF at h
  cases e : FloatKind.f64.format.read x with
  | nan s f => rw [e] at h; cases h
  | infinity s => rw [e] at h; cases h
  | number s m i =>
    show ∃ r, Ieee.Format.div FloatKind.f64.format _ _ = some r
    unfold Ieee.Format.div
    rw [h1, e]
    simp only [Ieee.Datum.quotient]
    by_cases hm : m = 0
    · rw [if_pos hm, if_neg (by omega)]; exact ⟨_, rfl⟩
    · rw [if_neg hm]; exact ⟨_, rfl⟩
set_option maxHeartbeats 800000 in
theorem sameFloat_fin (x : Nat) (hx : isF .f64 x = true) (w : World) : Calls Try.prog 39 #[.float .f64 x, .float .f64 x] w fun e w' => e = .returned (.bool true) ∧ w = w' := by
  have hs := order_self (isF_not_isN hx)
  obtain ⟨r, hr⟩ := quo_fin hx
  have h1 : ∀ W : World, (binOp .quo 42 (.float .f64 4607182418800017408) (.float .f64 x)).run Try.prog W = .ok (.float .f64 r) W := fun W => run_float_arith W _ _ _ _ _ _ hr
  cases h0 : (FloatKind.f64.format.order x 0 == some .eq)
  · clear hr hx
    go_enter Try.func39, Try.ntmps39
    go_wp2
    go_ret
    exact ⟨rfl, rfl⟩
  · clear hr hx
    go_enter Try.func39, Try.ntmps39
    go_wp2
    go_ret
    exact ⟨by simp, rfl⟩
theorem flR_fin (s : Int) (xs : List Int) (x : Int) : isF .f64 (flR s xs x).1 = true := by
  unfold flR
  split
  · unfold flt
    split
    · rename_i h; rw [isF_rung]; exact decide_eq_true h
    · exact isF_zero
  · exact isF_zero
end Go.Proofs.Ytiohacnkiikmcaa
