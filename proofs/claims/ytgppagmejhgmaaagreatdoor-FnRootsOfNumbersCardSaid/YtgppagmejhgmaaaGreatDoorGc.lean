/-
  Contracts: a magnitude rounded to multiples of a power of two. Conditions: the limbs can be read; the library's table is as its initialiser lays it. Contracts: FloatOf of the program. Conditions: the limbs can be read; the library's table is as its initialiser lays it. Contracts: nearestTo and FloatOf of the program. Conditions: the limbs can be read; the library's table is as its initialiser lays it. Contracts: l01Scale, l01Turned, l01FitFloat of the model at floats by value. No conditions. Contracts: an exact number rounded to a float64 by the model. Conditions: the limbs can be read. Contracts: FloatOf of the model. Conditions: the limbs can be read.
-/
import Derived.Test.YtgppagmejhgmaaaGreatDoorGa
import Derived.Test.YtgppagmejhgmaaaGreatDoorQm
import Derived.Test.YtgppagmejhgmaaaGreatDoorUe
import Derived.Deep.DeepCutAuto
import Derived.Deep.RegionHeld3
import Derived.Handy
import Derived.Test.YtgppagmejhgmaaaGreatDoorOd
import Derived.Test.YtgppagmejhgmaaaGreatDoorWa
import Derived.Test.YtgppagmejhgmaaaGreatDoorMh
import Derived.Test.YtgppagmejhgmaaaGreatDoorWn
import Derived.Test.YtgppagmejhgmaaaGreatDoorUf
import Derived.Test.YtgppagmejhgmaaaGreatDoorTd
import Derived.Deep.RegionWith
namespace Go.Proofs.YtgppagmejhgmaaaGreatDoor
set_option linter.unusedVariables false
open Go Go.RowKit

theorem near_rne {m K : Nat} (hm : m ≠ 0) (hK : 1 ≤ K) : rne m K = m / 2 ^ K + if (m / 2 ^ (K - 1) % 2 = 1 ∧ (tw m < K - 1 ∨ m / 2 ^ K % 2 = 1)) then 1 else 0 := by
  have h2 : 2 ^ K = 2 ^ (K - 1) * 2 := by rw [← Nat.pow_succ]; congr 1; omega
  have ht := tw_lt_iff (K := K - 1) hm
  have hp : 0 < 2 ^ (K - 1) := Nat.two_pow_pos _
  unfold rne
  congr 1
  have hmod : m % 2 ^ K = m % 2 ^ (K - 1) + 2 ^ (K - 1) * (m / 2 ^ (K - 1) % 2) := by rw [h2]; exact Nat.mod_mul
  have hr : m % 2 ^ (K - 1) < 2 ^ (K - 1) := Nat.mod_lt _ hp
  generalize hq : m / 2 ^ K % 2 = q
  rw [hmod, h2]
  generalize m % 2 ^ (K - 1) = r at ht hr
  generalize 2 ^ (K - 1) = p at hp hr
  rcases Nat.mod_two_eq_zero_or_one (m / p) with h | h
  · rw [h]
    have hn : ¬ (p * 2 < 2 * (r + p * 0) ∨ p * 2 = 2 * (r + p * 0) ∧ q = 1) := by omega
    rw [if_neg hn, if_neg (by omega)]
  · rw [h]
    by_cases h0 : r = 0
    · have htn : ¬ tw m < K - 1 := fun hh => (ht.1 hh) h0
      by_cases h1 : q = 1
      · rw [if_pos (by omega), if_pos ⟨rfl, .inr h1⟩]
      · rw [if_neg (by omega), if_neg (by omega)]
    · have htp : tw m < K - 1 := ht.2 h0
      rw [if_pos (by omega), if_pos ⟨rfl, .inl htp⟩]
/-- What rounding gives. -/
def nsh (m : Nat) (k : Int) : Nat := if 0 ≤ k then m * 2 ^ k.toNat else rne m (-k).toNat

set_option maxRecDepth 100000 in
set_option maxHeartbeats 1600000 in
theorem iNearUp (a : Option Addr) (m c1 K : Nat) (w : World) (B : Nat) (hB : B ≤ w.heap.size) (hx : Ints w B a (lim m)) (hl : (lim m).length ≤ 1000) (hk : K ≤ 30000) :
    Calls Tryz.prog 93 #[.slice a (lim m).length c1, .int .i64 (K : Int)] w (RetL (lim (m * 2 ^ K)) w) := by
  have HU := Lib.hid (iShiftedUp a m c1 K w B hB hx (by omega) (by omega))
  have HE := Lib.hid (show ∀ a c w', (lim (m * 2 ^ K)).length ≤ c → Own w' w.heap.size a (lim (m * 2 ^ K)) → Below w.heap.size w w' → RetL (lim (m * 2 ^ K)) w (.returned (.slice a (lim (m * 2 ^ K)).length c)) w' from fun a c w' h1 h2 h3 => ⟨a, c, rfl, h1, h2, h3⟩)
  have hkI : (0 : Int) ≤ (K : Int) := by omega
  clear hx hB hl
  go_enter Tryz.func93, Tryz.ntmps93
  go_wp2_with (go_at_call 116; refine HU.out.mono ?_; rintro e w' ⟨a, c, rfl, h1, h2, h3⟩; have HQ := Lib.hid (HE.out a c _ h1 h2 h3); clear h1 h2 h3)
  go_ret
  exact HQ.out

theorem down_len {m : Nat} (K : Nat) (hl : (lim m).length ≤ 1000) : (lim (m / 2 ^ K)).length ≤ 1000 := Nat.le_trans (lim_le_of_le (Nat.div_le_self _ _)) hl

set_option maxRecDepth 100000 in
set_option maxHeartbeats 3200000 in
theorem iNearDown (a : Option Addr) (m c1 K : Nat) (w : World) (B : Nat) (hB : B ≤ w.heap.size) (hx : Ints w B a (lim m)) (hl : (lim m).length ≤ 1000) (hk : K ≤ 30000) (hk0 : 1 ≤ K) (hm : m ≠ 0) (hTab : Tab w) :
    Calls Tryz.prog 93 #[.slice a (lim m).length c1, .int .i64 (-(K : Int))] w (RetL (lim (rne m K)) w) := by
  have HW := Lib.hid (show ∀ W, Below w.heap.size w W → Ints W B a (lim m) ∧ B ≤ W.heap.size ∧ Tab W from fun W hW => ⟨hx.below (hW.mono hB), by have := hW.size; omega, hTab.below hW⟩)
  have HD := Lib.hid (show ∀ W, Below w.heap.size w W → Calls Tryz.prog 117 #[.slice a (lim m).length c1, .int .i64 (K : Int)] W fun e w' => ∃ b d, e = .returned (.slice b (lim (m / 2 ^ K)).length d) ∧ (lim (m / 2 ^ K)).length ≤ d ∧ Own w' w.heap.size b (lim (m / 2 ^ K)) ∧ Below w.heap.size w w' from fun W hW =>
    (iShiftedDown a m c1 K W B (HW.out W hW).2.1 (HW.out W hW).1 (by omega) (by omega)).mono fun e w' ⟨b, d, he, hc, ho, hb⟩ => ⟨b, d, he, hc, ho.mono hW.size, hW.trans (hb.mono hW.size)⟩)
  have HD1 := Lib.hid (show ∀ W, Below w.heap.size w W → Calls Tryz.prog 117 #[.slice a (lim m).length c1, .int .i64 ((K : Int) - 1)] W fun e w' => ∃ b d, e = .returned (.slice b (lim (m / 2 ^ (K - 1))).length d) ∧ Own w' W.heap.size b (lim (m / 2 ^ (K - 1))) ∧ Below w.heap.size w w' ∧ Below W.heap.size W w' from fun W hW => by
    have := iShiftedDown a m c1 (K - 1) W B (HW.out W hW).2.1 (HW.out W hW).1 (by omega) (by omega)
    rw [show ((K - 1 : Nat) : Int) = (K : Int) - 1 by omega] at this
    exact this.mono fun e w' ⟨b, d, he, hc, ho, hb⟩ => ⟨b, d, he, ho, hW.trans (hb.mono hW.size), hb⟩)
  have HT := Lib.hid (show ∀ W, Below w.heap.size w W → Calls Tryz.prog 99 #[.slice a (lim m).length c1] W fun e w' => e = .returned (.int .i64 (tw m : Int)) ∧ W = w' from fun W hW => iTwos a m c1 W B (HW.out W hW).1 (by omega) (HW.out W hW).2.2)
  obtain ⟨M, hM⟩ : ∃ M, m / 2 ^ K = M := ⟨_, rfl⟩
  obtain ⟨N, hN⟩ : ∃ N, m / 2 ^ (K - 1) = N := ⟨_, rfl⟩
  have hlM := down_len K hl
  have hlN := down_len (K - 1) hl
  have hrn := near_rne hm hk0
  rw [hM] at HD hlM hrn
  rw [hN] at HD1 hlN hrn
  have HO1 := Lib.hid (show ∀ (b : Option Addr) (d : Nat) W lo, Own W lo b (lim N) → Calls Tryz.prog 114 #[.slice b (lim N).length d] W fun e w' => e = .returned (.bool (decide (N % 2 = 1))) ∧ W = w' from fun b d W lo ho => iOdd b N d W W.heap.size ho.ints (by omega))
  have HO2 := Lib.hid (show ∀ (b : Option Addr) (d : Nat) W lo, Own W lo b (lim M) → Calls Tryz.prog 114 #[.slice b (lim M).length d] W fun e w' => e = .returned (.bool (decide (M % 2 = 1))) ∧ W = w' from fun b d W lo ho => iOdd b M d W W.heap.size ho.ints (by omega))
  have HPL := Lib.hid (show ∀ (b d : Option Addr) (e f : Nat) W, Below w.heap.size w W → Ints W W.heap.size b (lim M) → Ints W W.heap.size d [1] → Calls Tryz.prog 118 #[.slice b (lim M).length e, .slice d 1 f] W fun e w' => ∃ a c, e = .returned (.slice a (lim (M + 1)).length c) ∧ (lim (M + 1)).length ≤ c ∧ Own w' w.heap.size a (lim (M + 1)) ∧ Below w.heap.size w w' from
    fun b d e f W hW h1 h2 => by
      have h := iMagPlus b d M 1 e f W _ _ (Nat.le_refl _) (Nat.le_refl _) h1 (by rw [lim_one]; exact h2) (by omega) (by rw [lim_one]; simp)
      rw [lim_one] at h
      exact h.mono fun e w' ⟨a, c, he, hc, ho, hb⟩ => ⟨a, c, he, hc, ho.mono hW.size, hW.trans (hb.mono hW.size)⟩)
  obtain ⟨t, ht⟩ : ∃ t, tw m = t := ⟨_, rfl⟩
  rw [ht] at HT hrn
  have htl : t ≤ 25000 := by
    have := tw_len hm
    rw [← lim_length] at this
    omega
  rw [hrn]
  have hkI : (0 : Int) < (K : Int) := by omega
  have hkI2 : (K : Int) ≤ 30000 := by omega
  have htI : (t : Int) ≤ 25000 := by omega
  have hT : Below w.heap.size w w := Below.refl _ _
  have hkk := hk0
  clear hx hB hl hTab hm ht hM hN hlM hlN hrn hk htl
  by_cases b1 : N % 2 = 1
  · rw [decide_eq_true b1] at HO1
    by_cases b2 : (t : Int) < (K : Int) - 1
    · rw [if_pos ⟨b1, .inl (by omega)⟩]
      clear HO2 b1 hk0 hkk
      go_enter Tryz.func93, Tryz.ntmps93
      go_wp2_with fail
      refine (HD.out _ hT).mono ?_
      rintro e w1 ⟨a1, d1, rfl, hc1, ho1, hb1⟩
      go_wp2_with fail
      refine (HD1.out _ hb1).mono ?_
      rintro e w2 ⟨a2, d2, rfl, ho2, hb2, hbb⟩
      replace ho1 := ho1.below hbb
      clear hbb hb1
      go_wp2_with fail
      refine (HO1.out _ _ _ _ ho2).mono ?_
      rintro e w3 ⟨rfl, rfl⟩
      clear ho2
      go_wp2_with fail
      refine (HT.out _ hb2).mono ?_
      rintro e w4 ⟨rfl, rfl⟩
      go_wp2_with fail
      refine (HPL.out _ _ _ _ _ (below_alloc hb2 _) (ho1.alloc _).ints (ints_one _ _ _)).mono ?_
      rintro e w6 ⟨a6, c6, rfl, hc6, ho6, hb6⟩
      have HC := Lib.hid hc6
      have HO := Lib.hid ho6
      have HB := Lib.hid hb6
      clear hc6 ho6 hb6
      go_wp2_with fail
      go_ret
      exact ⟨_, _, rfl, HC.out, HO.out, HB.out⟩
    · by_cases b3 : M % 2 = 1
      · rw [if_pos ⟨b1, .inr b3⟩]
        rw [decide_eq_true b3] at HO2
        clear b1 b3 hk0 hkk
        go_enter Tryz.func93, Tryz.ntmps93
        go_wp2_with fail
        refine (HD.out _ hT).mono ?_
        rintro e w1 ⟨a1, d1, rfl, hc1, ho1, hb1⟩
        go_wp2_with fail
        refine (HD1.out _ hb1).mono ?_
        rintro e w2 ⟨a2, d2, rfl, ho2, hb2, hbb⟩
        replace ho1 := ho1.below hbb
        clear hbb hb1
        go_wp2_with fail
        refine (HO1.out _ _ _ _ ho2).mono ?_
        rintro e w3 ⟨rfl, rfl⟩
        clear ho2
        go_wp2_with fail
        refine (HT.out _ hb2).mono ?_
        rintro e w4 ⟨rfl, rfl⟩
        go_wp2_with fail
        refine (HO2.out _ _ _ _ ho1).mono ?_
        rintro e w5 ⟨rfl, rfl⟩
        go_wp2_with fail
        refine (HPL.out _ _ _ _ _ (below_alloc hb2 _) (ho1.alloc _).ints (ints_one _ _ _)).mono ?_
        rintro e w6 ⟨a6, c6, rfl, hc6, ho6, hb6⟩
        have HC := Lib.hid hc6
        have HO := Lib.hid ho6
        have HB := Lib.hid hb6
        clear hc6 ho6 hb6
        go_wp2_with fail
        go_ret
        exact ⟨_, _, rfl, HC.out, HO.out, HB.out⟩
      · rw [if_neg (by omega), Nat.add_zero]
        rw [decide_eq_false b3] at HO2
        clear b1 b3 hk0 hkk HPL
        go_enter Tryz.func93, Tryz.ntmps93
        go_wp2_with fail
        refine (HD.out _ hT).mono ?_
        rintro e w1 ⟨a1, d1, rfl, hc1, ho1, hb1⟩
        go_wp2_with fail
        refine (HD1.out _ hb1).mono ?_
        rintro e w2 ⟨a2, d2, rfl, ho2, hb2, hbb⟩
        replace ho1 := ho1.below hbb
        clear hbb hb1
        go_wp2_with fail
        refine (HO1.out _ _ _ _ ho2).mono ?_
        rintro e w3 ⟨rfl, rfl⟩
        clear ho2
        go_wp2_with fail
        refine (HT.out _ hb2).mono ?_
        rintro e w4 ⟨rfl, rfl⟩
        go_wp2_with fail
        refine (HO2.out _ _ _ _ ho1).mono ?_
        rintro e w5 ⟨rfl, rfl⟩
        go_wp2_with fail
        go_ret
        exact ⟨_, _, rfl, hc1, ho1, hb2⟩
  · rw [if_neg (by omega), Nat.add_zero]
    rw [decide_eq_false b1] at HO1
    clear b1 hk0 hkk HPL HO2
    go_enter Tryz.func93, Tryz.ntmps93
    go_wp2_with fail
    refine (HD.out _ hT).mono ?_
    rintro e w1 ⟨a1, d1, rfl, hc1, ho1, hb1⟩
    go_wp2_with fail
    refine (HD1.out _ hb1).mono ?_
    rintro e w2 ⟨a2, d2, rfl, ho2, hb2, hbb⟩
    replace ho1 := ho1.below hbb
    clear hbb hb1
    go_wp2_with fail
    refine (HO1.out _ _ _ _ ho2).mono ?_
    rintro e w3 ⟨rfl, rfl⟩
    clear ho2
    go_wp2_with fail
    refine (HT.out _ hb2).mono ?_
    rintro e w4 ⟨rfl, rfl⟩
    go_wp2_with fail
    go_ret
    exact ⟨_, _, rfl, hc1, ho1, hb2⟩

theorem nsh_up (m K : Nat) : nsh m (K : Int) = m * 2 ^ K := by unfold nsh; rw [if_pos (by omega), Int.toNat_natCast]
theorem nsh_down (m : Nat) {K : Nat} (h : 1 ≤ K) : nsh m (-(K : Int)) = rne m K := by unfold nsh; rw [if_neg (by omega), Int.neg_neg, Int.toNat_natCast]
theorem iNear (a : Option Addr) (m c1 : Nat) (k : Int) (w : World) (B : Nat) (hB : B ≤ w.heap.size) (hx : Ints w B a (lim m)) (hl : (lim m).length ≤ 1000) (hk : k ≤ 30000) (hk0 : -30000 ≤ k) (hm : m ≠ 0 ∨ 0 ≤ k) (hTab : Tab w) :
    Calls Tryz.prog 93 #[.slice a (lim m).length c1, .int .i64 k] w (RetL (lim (nsh m k)) w) := by
  by_cases h : 0 ≤ k
  · obtain ⟨K, rfl⟩ := Int.eq_ofNat_of_zero_le h
    rw [nsh_up]
    exact iNearUp a m c1 K w B hB hx hl (by omega)
  · obtain ⟨K, hK⟩ : ∃ K : Nat, k = -(K : Int) := ⟨(-k).toNat, by omega⟩
    subst hK
    rw [nsh_down m (by omega)]
    exact iNearDown a m c1 K w B hB hx hl (by omega) (by omega) (by omega) hTab

set_option maxRecDepth 100000 in
set_option maxHeartbeats 400000 in
theorem iWidth (w : World) : Calls Tryz.prog 92 #[.iface 89 (.float .f64 0)] w (RetB (.agg #[.int .i64 53, .int .i64 (-1074), .int .i64 1024]) w) := by
  have hta : ∀ W : World, (Instr.typeAssert (.iface 89 (.float .f64 0)) 127 137 true).run Tryz.prog W = .ok (.tuple #[.float .f32 0, .bool false]) W := fun W => by kernel_rfl
  go_enter Tryz.func92, Tryz.ntmps92
  go_wp2_with fail
  refine bodyPost_ret (v := .agg #[.int .i64 53, .int .i64 (-1074), .int .i64 1024]) (by simp [results, Tryz.results92, go_sem, *]) rfl ?_
  exact ⟨rfl, (Below.refl _ w).alloc (Nat.le_refl _) _⟩

theorem blen_log {m : Nat} (h : m ≠ 0) : blen m = (m.log2 : Int) + 1 := by
  have h1 := (blen_le (n := m) (K := m.log2 + 1)).2 (lt_two_log m)
  have h2 : ¬ blen m ≤ ((m.log2 : Nat) : Int) := fun hh => by
    have := (blen_le (n := m) (K := m.log2)).1 hh
    have := log_le h
    omega
  omega
theorem sgn_one (m : Nat) : Sg (sgnOf 1 m) m ∧ sgnOf 1 m * (m : Int) = (m : Int) := by
  by_cases h : m = 0
  · subst h; rw [sgnOf_zero]; exact ⟨by unfold Sg; omega, by simp⟩
  · rw [sgnOf_pos h]; exact ⟨by unfold Sg; omega, by simp⟩
theorem blen_zero : blen 0 = 0 := if_pos rfl
theorem blen_nat2 {n : Nat} (hl : (lim n).length ≤ 200) : ∃ b : Nat, blen n = (b : Int) ∧ b ≤ 4800 := by
  by_cases h : n = 0
  · subst h; exact ⟨0, blen_zero, by omega⟩
  · have h3 : blen n ≤ ((24 * (dig n).length : Nat) : Int) := blen_le.2 (by
      have := val_lt (small_dig n)
      rwa [val_dig, two24] at this)
    rw [lim_length] at hl
    have h4 := blen_log h
    exact ⟨n.log2 + 1, by omega, by omega⟩
/-- What FloatOf gives: the nearest float, or a code. -/
def flt (s : Int) (m : Nat) (x : Int) : Nat × Int := if rawRung f64 m x < 0x7ff0000000000000 then (fw (decide (s < 0)) m x, 0) else (0, 3)
noncomputable def flR (s : Int) (xs : List Int) (x : Int) : Nat × Int := if dyB s xs x = true then flt s (val (xs.map Int.toNat)) x else (0, 1)
theorem flR_no {s x : Int} {xs : List Int} (h : dyB s xs x = false) : flR s xs x = (0, 1) := by unfold flR; rw [if_neg (by rw [h]; decide)]
theorem flR_yes {s x : Int} {m : Nat} (h : dyB s (lim m) x = true) : flR s (lim m) x = flt s m x := by unfold flR; rw [if_pos h, val_lim]

/-- The place and the multiple to which a number is rounded. -/
structure Rounded (m : Nat) (x q : Int) (r : Nat) : Prop where
  place : max (blen m + x - 53) (-1074) = q
  mult : nsh m (x - q) = r
  least : -1074 ≤ q
  most : r ≤ 2 ^ 53
  ok : m ≠ 0 ∨ 0 ≤ x - q
  fits : ¬ 1024 < blen r + q → (r < 2 ^ 53 ∧ q ≤ 971) ∨ q ≤ 970 ∨ r = 0
  over : 1024 < blen r + q ↔ 0x7ff0000000000000 ≤ rawRung f64 m x
  same : ∀ s, fw s r q = fw s m x
theorem rounded_zero (x : Int) (hx : x = 0) : ∃ q r, Rounded 0 x q r := by
  subst hx
  refine ⟨-53, 0, by rw [blen_zero]; rfl, by unfold nsh; simp, by omega, by omega, by omega, fun _ => by omega, ?_, fun s => by rw [fw_zero, fw_zero]⟩
  rw [blen_zero]
  unfold rawRung
  simp
theorem rounded_pos {m : Nat} (h : m ≠ 0) (x : Int) : ∃ q r, Rounded m x q r := by
  obtain ⟨h1, h2, h3⟩ := rnd_facts h x
  have hq : plc m x = max (blen m + x - 53) (-1074) := by
    rw [blen_log h]
    unfold plc
    omega
  obtain ⟨q, hqq⟩ : ∃ q, plc m x = q := ⟨_, rfl⟩
  obtain ⟨r, hr⟩ : ∃ r, rnd m x q = r := ⟨_, rfl⟩
  have hsame : ∀ s, fw s r q = fw s m x := fun s => by rw [← hr, ← hqq]; exact fw_rnd s m x h
  rw [hqq] at h1 h2 h3 hq
  rw [hr] at h1 h2 h3
  have hl : -1074 ≤ q := by omega
  have b53 := blen_le (n := r) (K := 53)
  have b54 := blen_le (n := r) (K := 54)
  have b52 := blen_le (n := r) (K := 52)
  refine ⟨q, r, hq.symm, ?_, hl, h2, .inl h, ?_, ?_, hsame⟩
  · rw [← hr]
    unfold nsh rnd
    by_cases hh : 0 ≤ x - q
    · rw [if_pos hh, show (q - x).toNat = 0 by omega]
      have h0 := rne_exact (m * 2 ^ (x - q).toNat) 0
      rw [Nat.pow_zero, Nat.mul_one] at h0
      rw [h0]
    · rw [if_neg hh, show (x - q).toNat = 0 by omega, Nat.pow_zero, Nat.mul_one, show -(x - q) = q - x by omega]
  · intro hno
    by_cases hr0 : r < 2 ^ 53
    · by_cases hq1 : q ≤ 971
      · left; exact ⟨hr0, hq1⟩
      · exfalso
        have : ¬ blen r ≤ ((52 : Nat) : Int) := fun hh => by have := b52.1 hh; omega
        omega
    · have : ¬ blen r ≤ ((53 : Nat) : Int) := fun hh => hr0 (b53.1 hh)
      omega
  · rw [h1]
    have hb54 : blen r ≤ ((54 : Nat) : Int) := b54.2 (by omega)
    by_cases hr0 : r < 2 ^ 53
    · have hb53 := b53.2 hr0
      by_cases hq1 : q ≤ 971
      · have : (q + 1074).toNat ≤ 2045 := by omega
        have := Nat.mul_le_mul_right (2 ^ 52) this
        constructor
        · intro hh; omega
        · intro hh; omega
      · have hb52 : ¬ blen r ≤ ((52 : Nat) : Int) := fun hh => by have := b52.1 hh; omega
        have : 2046 ≤ (q + 1074).toNat := by omega
        have := Nat.mul_le_mul_right (2 ^ 52) this
        constructor
        · intro hh; omega
        · intro hh; omega
    · have hr1 : r = 2 ^ 53 := by omega
      have hb53 : ¬ blen r ≤ ((53 : Nat) : Int) := fun hh => hr0 (b53.1 hh)
      by_cases hq1 : q ≤ 970
      · have : (q + 1074).toNat ≤ 2044 := by omega
        have := Nat.mul_le_mul_right (2 ^ 52) this
        constructor
        · intro hh; omega
        · intro hh; omega
      · have : 2045 ≤ (q + 1074).toNat := by omega
        have := Nat.mul_le_mul_right (2 ^ 52) this
        constructor
        · intro hh; omega
        · intro hh; omega
theorem Ldexp_rnd {r : Nat} {q : Int} (h : r ≤ 2 ^ 53) (hq : -1074 ≤ q) (hf : (r < 2 ^ 53 ∧ q ≤ 971) ∨ q ≤ 970 ∨ r = 0) (w : World) : Calls Tryz.prog 96 #[.float .f64 (fw false r 0), .int .i64 q] w fun e w' => e = .returned (.float .f64 (fw false r q)) ∧ w = w' := by
  by_cases h0 : r = 0
  · subst h0
    rw [fw_zero, fw_zero]
    exact Ldexp_zero q w
  · by_cases h1 : r = 2 ^ 53
    · have e1 : fw false r 0 = fw false (2 ^ 52) 1 := by
        have := fw_shift false (2 ^ 52) 1 1
        rw [h1]
        exact this
      have e2 : fw false r q = fw false (2 ^ 52) (1 + q) := by
        have := fw_shift false (2 ^ 52) (1 + q) 1
        rw [show (1 + q - ((1 : Nat) : Int)) = q by omega] at this
        rw [h1]
        exact this
      rw [e1, e2]
      exact Ldexp_fin false (2 ^ 52) 1 q (Fit.of (by omega) (by omega) (by omega)) (by omega) (Fit.of (by omega) (by omega) (by omega)) w
    · have := Ldexp_fin false r 0 q (Fit.of (by omega) (by omega) (by omega)) h0 (Fit.of (by omega) (by omega) (by omega)) w
      rwa [Int.zero_add] at this

theorem balF {w W : World} {o : Obj} (h : Below w.heap.size w W) : Below w.heap.size w (W.alloc o) := h.alloc h.size o
/-- A variable that holds the width of a float64. -/
def WAt (W0 W : World) (p : Value) : Prop := ∃ g, p = .pointer (some ⟨g, 0, none⟩) ∧ W0.heap.size ≤ g ∧ BoxAt W g 113 #[.int .i64 53, .int .i64 (-1074), .int .i64 1024] ∧ Below W0.heap.size W0 W
theorem WAt.mk1 {W0 W : World} (hb : Below W0.heap.size W0 W) : WAt W0 (W.alloc (.cells #[.int .i64 53, .int .i64 (-1074), .int .i64 1024] 113)) (.pointer (some ⟨W.heap.size, 0, none⟩)) :=
  ⟨_, rfl, hb.size, BoxAt.new _ _ _, hb.alloc hb.size _⟩
theorem WAt.mk2 {W0 W : World} {g : Nat} {v0 v1 v2 : Value} (hq : BoxAt W g 113 #[v0, v1, v2]) (hg : W0.heap.size ≤ g) (hb : Below W0.heap.size W0 W) :
    WAt W0 (((W.setCell ⟨g, 0, none⟩ (.int .i64 53)).setCell ⟨g, 1, none⟩ (.int .i64 (-1074))).setCell ⟨g, 2, none⟩ (.int .i64 1024)) (.pointer (some ⟨g, 0, none⟩)) := by
  refine ⟨_, rfl, hg, ?_, below_set3 hb hg _ _ _⟩
  have := ((hq.set_ 0 (.int .i64 53)).set_ 1 (.int .i64 (-1074))).set_ 2 (.int .i64 1024)
  simpa using this
theorem WAt.below {W0 W W' : World} {p : Value} (h : WAt W0 W p) (hb : Below W.heap.size W W') : WAt W0 W' p := by
  obtain ⟨g, hp, hg, hx, h0⟩ := h
  exact ⟨g, hp, hg, hx.below hb, h0.trans (hb.mono h0.size)⟩

set_option maxRecDepth 100000 in
set_option maxHeartbeats 4000000 in
theorem iNearestWide (s : Int) (a : Option Addr) (xs : List Int) (c1 : Nat) (x : Int) (w : World) (B : Nat) (hB : B ≤ w.heap.size) (hx : Ints w B a xs) (hl : xs.length ≤ 9223372036854775807) (hTab : Tab w) :
    Calls Tryz.prog 64 #[.agg #[.int .i64 s, .slice a xs.length c1, .int .i64 x]] w (RetB (.tuple #[.float .f64 (flR s xs x).1, .int .i64 (flR s xs x).2]) w) := by
  obtain ⟨W0, hW0⟩ : ∃ W0 : World, w.alloc (.cells #[.int .i64 s, .slice a xs.length c1, .int .i64 x] 62) = W0 := ⟨_, rfl⟩
  obtain ⟨p1, p3, p4⟩ := one_box w 62 #[.int .i64 s, .slice a xs.length c1, .int .i64 x]
  rw [hW0] at p1 p3 p4
  have HW0 := Lib.hid hW0
  have P3 := Lib.hid p3
  have P4 := Lib.hid p4
  have HTB := Lib.hid (show ∀ W, Below W0.heap.size W0 W → Tab W from fun W hW => (hTab.below p3).below hW)
  clear hTab
  have SS := Lib.hid (show ∀ W, Below W0.heap.size W0 W → (W.cell? ⟨w.heap.size, 0, none⟩ = some (.int .i64 s) ∧ W.cell? ⟨w.heap.size, 1, none⟩ = some (.slice a xs.length c1) ∧ W.cell? ⟨w.heap.size, 2, none⟩ = some (.int .i64 x)) from
    fun W hW => (p1.below hW).tri)
  have hT : Below W0.heap.size W0 W0 := Below.refl _ _
  have hT' : Below W0.heap.size W0 W0.drew := hT.drew
  have HI := Lib.hid (show ∀ W, Below W0.heap.size W0 W → Calls Tryz.prog 88 #[.agg #[.int .i64 s, .slice a xs.length c1, .int .i64 x]] W fun e w' => e = .returned (.bool (dyB s xs x)) ∧ Below W0.heap.size W0 w' from
    fun W hW => (iIsDyadic s a xs c1 x W B (by have := hW.size; omega) hl (hx.below ((p3.mono hB).trans (hW.mono (by omega))))).mono fun e w' ⟨he, hb⟩ => ⟨he, hW.trans (hb.mono hW.size)⟩)
  obtain ⟨k1, k2, k3⟩ := SS.out _ hT
  have HBE := Lib.hid (show ∀ W, Below W0.heap.size W0 W → Below w.heap.size w W from fun W hW => p3.trans (hW.mono (by omega)))
  cases h : dyB s xs x
  · rw [h] at HI
    rw [flR_no h]
    clear p1 p3 p4 hW0 h hl hx
    go_enter Tryz.func64, Tryz.ntmps64
    go_wp2_with fail
    rw [HW0.out]
    refine (HI.out _ hT).mono ?_
    rintro e w1 ⟨rfl, hb⟩
    go_wp2_with fail
    go_ret2
    exact ⟨rfl, HBE.out _ hb⟩
  · obtain ⟨m, rfl, hm, sm, hx1, hx2⟩ := isDy_of (dyB_iff.1 h)
    rw [h] at HI
    rw [flR_yes h]
    have hd := dyB_iff.1 h
    obtain ⟨q, r, R⟩ : ∃ q r, Rounded m x q r := by
      by_cases h0 : m = 0
      · subst h0
        have hs0 : s = 0 := by unfold Sg at sm; omega
        refine rounded_zero x ?_
        have := hd.2.2.2
        simp [hs0] at this
        first | exact this | omega
      · exact rounded_pos h0 x
    have hlm : (lim m).length ≤ 200 := hm
    have IX := Lib.hid (show ∀ W, Below W0.heap.size W0 W → Ints W B a (lim m) ∧ B ≤ W.heap.size from fun W hW => ⟨hx.below ((p3.mono hB).trans (hW.mono (by omega))), by have := hW.size; omega⟩)
    have hrl : (lim r).length ≤ 200 := by
      have h2 : r < 2 ^ 54 := by have := R.most; omega
      rw [lim_length]
      exact Nat.le_trans (len_64 (by omega)) (by omega)
    have hq2 : q ≤ 10000 := by
      have := R.place
      obtain ⟨b, hb1, hb2⟩ := blen_nat2 hlm
      omega
    have HWD := Lib.hid (show ∀ W, Below W0.heap.size W0 W → Calls Tryz.prog 92 #[.iface 89 (.float .f64 (floatOfInt .f64 0))] W fun e w' => e = .returned (.agg #[.int .i64 53, .int .i64 (-1074), .int .i64 1024]) ∧ Below W0.heap.size W0 w' ∧ Below W.heap.size W w' from fun W hW => by
      have hz : floatOfInt .f64 0 = 0 := by decide +kernel
      rw [hz]
      exact (iWidth W).mono fun e w' ⟨he, hb⟩ => ⟨he, hW.trans (hb.mono hW.size), hb⟩)
    have HS := Lib.hid (show ∀ W, Below W0.heap.size W0 W → Calls Tryz.prog 65 #[.agg #[.int .i64 s, .slice a (lim m).length c1]] W fun e w' => e = .returned (.slice a (lim m).length c1) ∧ Below W0.heap.size W0 w' ∧ Below W.heap.size W w' from
      fun W hW => (iSize s a _ c1 W).mono fun e w' ⟨he, hb⟩ => ⟨he, hW.trans (hb.mono hW.size), hb⟩)
    obtain ⟨bl, hbl1, hbl2⟩ := blen_nat2 hlm
    obtain ⟨bl2, hbr1, hbr2⟩ := blen_nat2 hrl
    have HLM := Lib.hid (show ∀ W, Below W0.heap.size W0 W → Calls Tryz.prog 66 #[.slice a (lim m).length c1] W fun e w' => e = .returned (.int .i64 (bl : Int)) ∧ W = w' from fun W hW => by
      have := iMagLength a m c1 W B (IX.out W hW).1 (by omega)
      rwa [hbl1] at this)
    have HN := Lib.hid (show ∀ W, Below W0.heap.size W0 W → Calls Tryz.prog 93 #[.slice a (lim m).length c1, .int .i64 (x - q)] W fun e w' => ∃ b d, e = .returned (.slice b (lim r).length d) ∧ (lim r).length ≤ d ∧ Own w' W0.heap.size b (lim r) ∧ Below W0.heap.size W0 w' ∧ Below W.heap.size W w' from fun W hW => by
      have := iNear a m c1 (x - q) W B (IX.out W hW).2 (IX.out W hW).1 (by omega) (by have := R.least; omega) (by omega) R.ok (HTB.out W hW)
      rw [R.mult] at this
      exact this.mono fun e w' ⟨b, d, he, hc, ho, hb⟩ => ⟨b, d, he, hc, ho.mono hW.size, hW.trans (hb.mono hW.size), hb⟩)
    have HLR := Lib.hid (show ∀ (b : Option Addr) (d : Nat) W, Own W W0.heap.size b (lim r) → Calls Tryz.prog 66 #[.slice b (lim r).length d] W fun e w' => e = .returned (.int .i64 (bl2 : Int)) ∧ W = w' from fun b d W ho => by
      have := iMagLength b r d W _ ho.ints (by omega)
      rwa [hbr1] at this)
    have HG := Lib.hid (show ∀ (a : Option Addr) (c : Nat) W, (lim r).length ≤ c → Own W W0.heap.size a (lim r) → Below W0.heap.size W0 W → Calls Tryz.prog 95 #[.int .i64 1, .slice a (lim r).length c] W fun e w' => ∃ a c, e = .returned (.agg #[.int .i64 (sgnOf 1 r), .slice a (lim r).length c]) ∧ Own w' W0.heap.size a (lim r) ∧ Below W0.heap.size W0 w' from
      fun a c W h1 h2 hW => (iSigned 1 r a c W W0.heap.size h1 h2).mono fun e w' ⟨a, c, he, hc, ho, hb⟩ => ⟨a, c, he, ho, hW.trans (hb.mono hW.size)⟩)
    have hio : intR (sgnOf 1 r) (lim r) = ((r : Int), 0) := by
      have hw : IsWh (sgnOf 1 r) (lim r) := isWh_lim hrl (sgn_one r).1
      have hv : wv (sgnOf 1 r) (lim r) = (r : Int) := by rw [wv_lim]; exact (sgn_one r).2
      rw [intR_yes hw (by rw [hv]; have := R.most; omega), hv]
    have HIO := Lib.hid (show ∀ (b : Option Addr) (d : Nat) W, Own W W0.heap.size b (lim r) → Below W0.heap.size W0 W → Calls Tryz.prog 94 #[.agg #[.int .i64 (sgnOf 1 r), .slice b (lim r).length d]] W fun e w' => e = .returned (.tuple #[.int .i64 (r : Int), .int .i64 0]) ∧ Below W0.heap.size W0 w' from fun b d W ho hW => by
      have := iIntegerOf (sgnOf 1 r) b (lim r) d W W.heap.size (Nat.le_refl _) ho.ints (by omega)
      rw [hio] at this
      exact this.mono fun e w' ⟨he, hb⟩ => ⟨he, hW.trans (hb.mono hW.size)⟩)
    have hfr : floatOfInt .f64 (r : Int) = fw false r 0 := by
      rw [ofInt_fw, decide_eq_false (show ¬ ((r : Int) < 0) by omega)]
      rfl
    have hfs : floatOfInt .f64 s = fw (decide (s < 0)) s.natAbs 0 := ofInt_fw s
    obtain ⟨y1, hy1⟩ : ∃ y1 : Int, y1 = (bl : Int) + x := ⟨_, rfl⟩
    obtain ⟨y2, hy2⟩ : ∃ y2 : Int, y2 = y1 - 53 := ⟨_, rfl⟩
    obtain ⟨y3, hy3⟩ : ∃ y3 : Int, y3 = (bl2 : Int) + q := ⟨_, rfl⟩
    obtain ⟨u, hu⟩ : ∃ u : Int, u = x - q := ⟨_, rfl⟩
    have hl0 := R.least
    have e1 : IntKind.i64.wrap ((bl : Int) + x) = y1 := by rw [hy1, IntKind.wrap_i64]; omega
    have e2 : IntKind.i64.wrap (y1 - 53) = y2 := by rw [hy2, IntKind.wrap_i64]; omega
    have e3 : max y2 (-1074) = q := by rw [hy2, hy1, ← hbl1]; exact R.place
    have e4 : IntKind.i64.wrap (x - q) = u := by rw [hu, IntKind.wrap_i64]; omega
    have e5 : wrap64 (x - q) = u := by rw [hu]; unfold wrap64; omega
    have e6 : IntKind.i64.wrap ((bl2 : Int) + q) = y3 := by rw [hy3, IntKind.wrap_i64]; omega
    rw [← hu] at HN
    have HX0 := Lib.hid (show ∀ W u v z g, Below W0.heap.size W0 W → W0.heap.size ≤ g → Below W0.heap.size W0 (((W.setCell ⟨g, 0, none⟩ u).setCell ⟨g, 1, none⟩ v).setCell ⟨g, 2, none⟩ z) from fun W u v z g h1 h2 => below_set3 h1 h2 u v z)
    have hov := R.over
    rw [hbr1, ← hy3] at hov
    obtain ⟨f1, hf1⟩ : ∃ f1, fw false r 0 = f1 := ⟨_, rfl⟩
    obtain ⟨f2, hf2⟩ : ∃ f2, fw false r q = f2 := ⟨_, rfl⟩
    obtain ⟨f3, hf3⟩ : ∃ f3, fw (decide (s < 0)) s.natAbs 0 = f3 := ⟨_, rfl⟩
    obtain ⟨f4, hf4⟩ : ∃ f4, fw (decide (s < 0)) m x = f4 := ⟨_, rfl⟩
    have HCS := Lib.hid (show ∀ W, Calls Tryz.prog 97 #[.float .f64 f2, .float .f64 f3] W fun e w' => e = .returned (.float .f64 f4) ∧ W = w' from fun W => by
      have := Copysign_fw false (decide (s < 0)) r s.natAbs q 0 W
      rw [hf2, hf3, R.same, hf4] at this
      exact this)
    have HLD := Lib.hid (show ¬ 1024 < y3 → ∀ W, Calls Tryz.prog 96 #[.float .f64 f1, .int .i64 q] W fun e w' => e = .returned (.float .f64 f2) ∧ W = w' from fun hno W => by
      have := Ldexp_rnd (r := r) (q := q) R.most R.least (R.fits (by rw [hbr1, ← hy3]; exact hno)) W
      rw [hf1, hf2] at this
      exact this)
    rw [hf1] at hfr
    rw [hf3] at hfs
    have hflt : (1024 < y3 → flt s m x = (0, 3)) ∧ (¬ 1024 < y3 → flt s m x = (f4, 0)) := by
      unfold flt
      constructor
      · intro hh
        rw [if_neg (by have := hov.1 hh; omega)]
      · intro hh
        rw [if_pos (by have := fun h2 => hh (hov.2 h2); omega), hf4]
    have hq3 : -1074 ≤ q := hl0
    clear p1 p3 p4 hW0 h hl hx hlm hrl hm sm hd R hbl1 hbr1 hio hy1 hy2 hy3 hu hl0 hov hf1 hf2 hf3 hf4 hB hbl2 hbr2
    by_cases ho : 1024 < y3
    · rw [hflt.1 ho]
      clear hflt HLD HCS HIO HG
      go_enter Tryz.func64, Tryz.ntmps64
      go_wp2_with fail
      rw [HW0.out]
      refine (HI.out _ hT).mono ?_
      rintro e w1 ⟨rfl, hb1⟩
      clear k1 k2 k3
      obtain ⟨k1, k2, k3⟩ := SS.out _ hb1
      have hb1d := hb1.drew
      have hz1 := hb1.size
      go_wp2_with fail
      go_cut [4, 5] (fun p z W => z = .slice a (lim m).length c1 ∧ WAt W0 W p)
      case first =>
        go_region_held3 (fun W => W.cell? ⟨w.heap.size, 0, none⟩ = some (.int .i64 s) ∧ W.cell? ⟨w.heap.size, 1, none⟩ = some (.slice a (lim m).length c1) ∧ W.cell? ⟨w.heap.size, 2, none⟩ = some (.int .i64 x))
          (first | exact SS.out _ (by assumption) | exact SS.out _ (balF (by assumption)) | exact SS.out _ (below_allocd (by assumption) _) | exact SS.out _ (HX0.out _ _ _ _ _ (by assumption) (by first | omega | (simp; omega) | simp)))
          (first
          | (go_at_call 92; with_reducible refine (HWD.out _ (by first | assumption | exact balF (by assumption) | exact below_allocd (by assumption) _)).mono ?_; rintro e w2 ⟨rfl, hb2, hb2'⟩; have hz2 := hb2.size; (first | (with_reducible have hq := BoxAt.below (BoxAt.new _ 113 #[.int .i64 0, .int .i64 0, .int .i64 0]) hb2'; obtain ⟨q1, q2, q3, q4, q5, q6⟩ := BoxAt.tri6 hq) | (with_reducible have hq := BoxAt.below (BoxAt.newd _ 113 #[.int .i64 0, .int .i64 0, .int .i64 0]) hb2'; obtain ⟨q1, q2, q3, q4, q5, q6⟩ := BoxAt.tri6 hq) | (with_reducible have hq := BoxAt.below hq3 hb2'; obtain ⟨q1, q2, q3, q4, q5, q6⟩ := BoxAt.tri6 hq) | skip))
          | (go_at_call 65; with_reducible refine (HS.out _ (by first | assumption | exact balF (by assumption) | exact below_allocd (by assumption) _)).mono ?_; rintro e w3 ⟨rfl, hb3, hb3'⟩; have hz3 := hb3.size; (first | (with_reducible have hq3 := BoxAt.below (BoxAt.new _ 113 #[.int .i64 0, .int .i64 0, .int .i64 0]) hb3'; obtain ⟨q1, q2, q3, q4, q5, q6⟩ := BoxAt.tri6 hq3) | (with_reducible have hq3 := BoxAt.below (BoxAt.newd _ 113 #[.int .i64 0, .int .i64 0, .int .i64 0]) hb3'; obtain ⟨q1, q2, q3, q4, q5, q6⟩ := BoxAt.tri6 hq3) | (with_reducible have hq3 := BoxAt.below hq hb3'; obtain ⟨q1, q2, q3, q4, q5, q6⟩ := BoxAt.tri6 hq3) | (with_reducible have ha := WAt.below (WAt.mk1 hb2) hb3') | (with_reducible have ha := WAt.below (WAt.mk2 hq (by first | omega | (simp; omega) | simp) hb2) hb3') | skip)))
        all_goals
          go_wp2_with fail
          go_meet
          refine ⟨rfl, ?_⟩
          first
          | exact ha
          | exact WAt.mk1 hb2
          | exact WAt.mk1 hb3
          | exact WAt.mk2 hq (by first | omega | (simp; omega) | simp) hb2
          | exact WAt.mk2 hq3 (by first | omega | (simp; omega) | simp) hb3
      case rest =>
        obtain ⟨rfl, g, rfl, hg, hbx, hb⟩ := hcut
        have HK := Lib.hid (show ∀ W, Below wc.heap.size wc W → ((W.cell? ⟨w.heap.size, 0, none⟩ = some (.int .i64 s) ∧ W.cell? ⟨w.heap.size, 1, none⟩ = some (.slice a (lim m).length c1) ∧ W.cell? ⟨w.heap.size, 2, none⟩ = some (.int .i64 x)) ∧ (W.cell? ⟨g, 0, none⟩ = some (.int .i64 53) ∧ W.cell? ⟨g, 1, none⟩ = some (.int .i64 (-1074)) ∧ W.cell? ⟨g, 2, none⟩ = some (.int .i64 1024)) ∧ Below W0.heap.size W0 W) from fun W hW => ⟨SS.out _ (hb.trans (hW.mono hb.size)), (hbx.below hW).tri, hb.trans (hW.mono hb.size)⟩)
        have hTc : Below wc.heap.size wc wc := Below.refl _ _
        have hTd := hTc.drew
        clear hb1 hb1d hz1 k1 k2 k3 hbx hb hg
        obtain ⟨⟨k1, k2, k3⟩, ⟨k4, k5, k6⟩, hb⟩ := HK.out _ hTc
        have hbd := hb.drew
        go_wp2_with fail
        go_region_held3 (fun W => (W.cell? ⟨w.heap.size, 0, none⟩ = some (.int .i64 s) ∧ W.cell? ⟨w.heap.size, 1, none⟩ = some (.slice a (lim m).length c1) ∧ W.cell? ⟨w.heap.size, 2, none⟩ = some (.int .i64 x)) ∧ (W.cell? ⟨g, 0, none⟩ = some (.int .i64 53) ∧ W.cell? ⟨g, 1, none⟩ = some (.int .i64 (-1074)) ∧ W.cell? ⟨g, 2, none⟩ = some (.int .i64 1024)) ∧ Below W0.heap.size W0 W)
          (first | exact HK.out _ (by assumption))
          (first
          | (go_at_call 66; with_reducible refine (HLM.out _ (by assumption)).mono ?_; rintro e w4 ⟨rfl, rfl⟩))
        all_goals
          clear k1 k2 k3 k4 k5 k6 hb hbd
          obtain ⟨⟨k1, k2, k3⟩, ⟨k4, k5, k6⟩, hb⟩ := HK.out _ hTd
          go_wp2_with fail
          refine (HN.out _ hb).mono ?_
          rintro e w5 ⟨b5, d5, rfl, hc5, ho5, hb5, hb5'⟩
          have hTe := hTd.trans hb5'
          clear k1 k2 k3 k4 k5 k6 hb
          obtain ⟨⟨k1, k2, k3⟩, ⟨k4, k5, k6⟩, _⟩ := HK.out _ hTe
          go_wp2_with fail
          go_quiet ((go_at_call 66; exact (HLR.out _ _ _ (ho5.drewN _)).mono fun e w'' ⟨he, hm⟩ => ⟨he, _, hm.symm⟩))
          go_wp2_with fail
          go_ret2
          exact ⟨rfl, HBE.out _ (below_drewN hb5 _)⟩
    · have ho2 : y3 ≤ 1024 := by omega
      rw [hflt.2 ho]
      have HLD' := Lib.hid (HLD.out ho)
      clear hflt HLD
      go_enter Tryz.func64, Tryz.ntmps64
      go_wp2_with fail
      rw [HW0.out]
      refine (HI.out _ hT).mono ?_
      rintro e w1 ⟨rfl, hb1⟩
      clear k1 k2 k3
      obtain ⟨k1, k2, k3⟩ := SS.out _ hb1
      have hb1d := hb1.drew
      have hz1 := hb1.size
      go_wp2_with fail
      go_cut [4, 5] (fun p z W => z = .slice a (lim m).length c1 ∧ WAt W0 W p)
      case first =>
        go_region_held3 (fun W => W.cell? ⟨w.heap.size, 0, none⟩ = some (.int .i64 s) ∧ W.cell? ⟨w.heap.size, 1, none⟩ = some (.slice a (lim m).length c1) ∧ W.cell? ⟨w.heap.size, 2, none⟩ = some (.int .i64 x))
          (first | exact SS.out _ (by assumption) | exact SS.out _ (balF (by assumption)) | exact SS.out _ (below_allocd (by assumption) _) | exact SS.out _ (HX0.out _ _ _ _ _ (by assumption) (by first | omega | (simp; omega) | simp)))
          (first
          | (go_at_call 92; with_reducible refine (HWD.out _ (by first | assumption | exact balF (by assumption) | exact below_allocd (by assumption) _)).mono ?_; rintro e w2 ⟨rfl, hb2, hb2'⟩; have hz2 := hb2.size; (first | (with_reducible have hq := BoxAt.below (BoxAt.new _ 113 #[.int .i64 0, .int .i64 0, .int .i64 0]) hb2'; obtain ⟨q1, q2, q3, q4, q5, q6⟩ := BoxAt.tri6 hq) | (with_reducible have hq := BoxAt.below (BoxAt.newd _ 113 #[.int .i64 0, .int .i64 0, .int .i64 0]) hb2'; obtain ⟨q1, q2, q3, q4, q5, q6⟩ := BoxAt.tri6 hq) | (with_reducible have hq := BoxAt.below hq3 hb2'; obtain ⟨q1, q2, q3, q4, q5, q6⟩ := BoxAt.tri6 hq) | skip))
          | (go_at_call 65; with_reducible refine (HS.out _ (by first | assumption | exact balF (by assumption) | exact below_allocd (by assumption) _)).mono ?_; rintro e w3 ⟨rfl, hb3, hb3'⟩; have hz3 := hb3.size; (first | (with_reducible have hq3 := BoxAt.below (BoxAt.new _ 113 #[.int .i64 0, .int .i64 0, .int .i64 0]) hb3'; obtain ⟨q1, q2, q3, q4, q5, q6⟩ := BoxAt.tri6 hq3) | (with_reducible have hq3 := BoxAt.below (BoxAt.newd _ 113 #[.int .i64 0, .int .i64 0, .int .i64 0]) hb3'; obtain ⟨q1, q2, q3, q4, q5, q6⟩ := BoxAt.tri6 hq3) | (with_reducible have hq3 := BoxAt.below hq hb3'; obtain ⟨q1, q2, q3, q4, q5, q6⟩ := BoxAt.tri6 hq3) | (with_reducible have ha := WAt.below (WAt.mk1 hb2) hb3') | (with_reducible have ha := WAt.below (WAt.mk2 hq (by first | omega | (simp; omega) | simp) hb2) hb3') | skip)))
        all_goals
          go_wp2_with fail
          go_meet
          refine ⟨rfl, ?_⟩
          first
          | exact ha
          | exact WAt.mk1 hb2
          | exact WAt.mk1 hb3
          | exact WAt.mk2 hq (by first | omega | (simp; omega) | simp) hb2
          | exact WAt.mk2 hq3 (by first | omega | (simp; omega) | simp) hb3
      case rest =>
        obtain ⟨rfl, g, rfl, hg, hbx, hb⟩ := hcut
        have HK := Lib.hid (show ∀ W, Below wc.heap.size wc W → ((W.cell? ⟨w.heap.size, 0, none⟩ = some (.int .i64 s) ∧ W.cell? ⟨w.heap.size, 1, none⟩ = some (.slice a (lim m).length c1) ∧ W.cell? ⟨w.heap.size, 2, none⟩ = some (.int .i64 x)) ∧ (W.cell? ⟨g, 0, none⟩ = some (.int .i64 53) ∧ W.cell? ⟨g, 1, none⟩ = some (.int .i64 (-1074)) ∧ W.cell? ⟨g, 2, none⟩ = some (.int .i64 1024)) ∧ Below W0.heap.size W0 W) from fun W hW => ⟨SS.out _ (hb.trans (hW.mono hb.size)), (hbx.below hW).tri, hb.trans (hW.mono hb.size)⟩)
        have hTc : Below wc.heap.size wc wc := Below.refl _ _
        have hTd := hTc.drew
        clear hb1 hb1d hz1 k1 k2 k3 hbx hb hg
        obtain ⟨⟨k1, k2, k3⟩, ⟨k4, k5, k6⟩, hb⟩ := HK.out _ hTc
        have hbd := hb.drew
        go_wp2_with fail
        go_region_held3 (fun W => (W.cell? ⟨w.heap.size, 0, none⟩ = some (.int .i64 s) ∧ W.cell? ⟨w.heap.size, 1, none⟩ = some (.slice a (lim m).length c1) ∧ W.cell? ⟨w.heap.size, 2, none⟩ = some (.int .i64 x)) ∧ (W.cell? ⟨g, 0, none⟩ = some (.int .i64 53) ∧ W.cell? ⟨g, 1, none⟩ = some (.int .i64 (-1074)) ∧ W.cell? ⟨g, 2, none⟩ = some (.int .i64 1024)) ∧ Below W0.heap.size W0 W)
          (first | exact HK.out _ (by assumption))
          (first
          | (go_at_call 66; with_reducible refine (HLM.out _ (by assumption)).mono ?_; rintro e w4 ⟨rfl, rfl⟩))
        all_goals
          clear k1 k2 k3 k4 k5 k6 hb hbd
          obtain ⟨⟨k1, k2, k3⟩, ⟨k4, k5, k6⟩, hb⟩ := HK.out _ hTd
          go_wp2_with fail
          refine (HN.out _ hb).mono ?_
          rintro e w5 ⟨b5, d5, rfl, hc5, ho5, hb5, hb5'⟩
          have hTe := hTd.trans hb5'
          clear k1 k2 k3 k4 k5 k6 hb
          obtain ⟨⟨k1, k2, k3⟩, ⟨k4, k5, k6⟩, _⟩ := HK.out _ hTe
          go_wp2_with fail
          go_quiet ((go_at_call 66; exact (HLR.out _ _ _ (ho5.drewN _)).mono fun e w'' ⟨he, hm⟩ => ⟨he, _, hm.symm⟩))
          go_wp2_with fail
          refine (HG.out _ _ _ hc5 (ho5.drewN _) (below_drewN hb5 _)).mono ?_
          rintro e w7 ⟨b7, d7, rfl, ho7, hb7⟩
          have hTf : Below W0.heap.size W0 w7 := hb7
          clear hc5 ho5 hb5 hb5' hTe k1 k2 k3 k4 k5 k6
          go_wp2_with fail
          refine (HIO.out _ _ _ ho7 hb7).mono ?_
          rintro e w8 ⟨rfl, hb8⟩
          clear ho7 hb7 hTf
          go_wp2_with fail
          refine (HLD'.out _).mono ?_
          rintro e w9 ⟨rfl, rfl⟩
          obtain ⟨k1, k2, k3⟩ := SS.out _ hb8
          go_wp2_with fail
          refine (HCS.out _).mono ?_
          rintro e w10 ⟨rfl, rfl⟩
          go_wp2_with fail
          go_ret2
          exact ⟨rfl, HBE.out _ hb8⟩

set_option maxHeartbeats 1000000 in
theorem iFloatOf (s : Int) (a : Option Addr) (xs : List Int) (c1 : Nat) (x : Int) (w : World) (B : Nat) (hB : B ≤ w.heap.size) (hx : Ints w B a xs) (hl : xs.length ≤ 9223372036854775807) (hTab : Tab w) :
    Calls Tryz.prog 39 #[.agg #[.int .i64 s, .slice a xs.length c1, .int .i64 x]] w (RetB (.tuple #[.float .f64 (flR s xs x).1, .int .i64 (flR s xs x).2]) w) := by
  have H := Lib.hid fun o => iNearestWide s a xs c1 x (w.alloc o) B (by simp; omega) (hx.alloc hB o) hl (hTab.alloc o)
  clear hx hTab hB hl
  obtain ⟨⟨f, c⟩, hf⟩ : ∃ f, flR s xs x = f := ⟨_, rfl⟩
  rw [hf] at H ⊢
  clear hf
  go_enter Tryz.func39, Tryz.ntmps39
  go_wp2_with (go_at_call 64; refine (H.out _).mono ?_; rintro e w' ⟨rfl, hb⟩)
  go_ret2
  exact ⟨rfl, ((Below.refl _ w).alloc (Nat.le_refl _) _).trans (hb.mono (by simp))⟩

open Go Go.RowKit Ieee

def intF : Value → Int
  | .int _ n => n
  | _ => 0
set_option maxHeartbeats 800000 in
theorem sScale_fw (r : Nat) (q : Int) (h1 : r ≤ 2 ^ 53) (h2 : -1074 ≤ q) (h3 : q ≤ 100000) (w : World) : Calls Tryz.prog 76 #[.float .f64 (fw false r 0), .int .i64 q] w fun e w' => e = .returned (.float .f64 (fw false r q)) ∧ w = w' := by
  have HM := Lib.hid (show ∀ (j : Nat) (W : World), (binOp .mul 24 (.float .f64 (fw false r (j : Int))) (.float .f64 4611686018427387904)).run Tryz.prog W = .ok (.float .f64 (fw false r ((j : Int) + 1))) W from fun j W => run_float_arith W _ _ _ _ _ _ (dbl_fw false h1 (by omega)))
  have HQ := Lib.hid (show ∀ (j : Nat) (W : World), j < 1074 → (binOp .quo 24 (.float .f64 (fw false r (-(j : Int)))) (.float .f64 4611686018427387904)).run Tryz.prog W = .ok (.float .f64 (fw false r (-(j : Int) - 1))) W from fun j W hj => run_float_arith W _ _ _ _ _ _ (hlf_fw false h1 (by omega) (by omega)))
  obtain ⟨f, hf⟩ : ∃ f : Int → Nat, fw false r = f := ⟨_, rfl⟩
  rw [hf] at HM HQ
  have hf0 : fw false r 0 = f 0 := by rw [hf]
  rw [hf]
  clear h1 hf0 hf
  go_enter Tryz.func76, Tryz.ntmps76
  go_wp2
  go_loopw [0, 1] (fun v i wr => ∃ (j : Nat), (0 ≤ q → (j : Int) ≤ q) ∧ (q < 0 → j = 0) ∧ v = .float .f64 (f (j : Int)) ∧ i = .int .i64 (q - j) ∧ wr = w) (fun _ i _ => (intF i).toNat)
  case atStart => exact ⟨0, by omega, by omega, rfl, by simp, rfl⟩
  case round =>
    obtain ⟨j, hj1, hj2, rfl, rfl, rfl⟩ := hrel
    by_cases hk : 0 < q - j
    · have hm := HM.out j
      go_wp2
      go_roundw
      case rel => exact ⟨j + 1, by omega, by omega, by push_cast; rfl, by go_num, by first | rfl | trivial⟩
      case measure => simp [intF]; omega
    · go_wp2
      go_loopw [0, 1] (fun v i wr' => ∃ (j' : Nat), (q < 0 → (j' : Int) ≤ -q) ∧ (0 ≤ q → j' = 0) ∧ v = .float .f64 (f (if 0 ≤ q then (j : Int) else -(j' : Int))) ∧ i = .int .i64 (q - j + j') ∧ wr' = wr) (fun _ i _ => (-(intF i)).toNat)
      case atStart =>
        refine ⟨0, by omega, by omega, ?_, by simp, rfl⟩
        split
        · rfl
        · obtain rfl : j = 0 := by omega
          rfl
      case round =>
        obtain ⟨j', hl1, hl2, rfl, rfl, rfl⟩ := hrel
        by_cases hl : q - j + j' < 0
        · have h0 : ¬ 0 ≤ q := by omega
          rw [if_neg h0]
          have hm := fun W => HQ.out j' W (by omega)
          go_wp2
          go_roundw
          case rel => exact ⟨j' + 1, by omega, by omega, by rw [if_neg h0]; congr 2; omega, by go_num, by first | rfl | trivial⟩
          case measure => simp [intF]; omega
        · have he : (if 0 ≤ q then (j : Int) else -(j' : Int)) = q := by
            split <;> omega
          rw [he]
          go_wp2
          go_ret
          exact ⟨rfl, rfl⟩

theorem fw_none : (13830554455654793216 : Nat) = fw true 1 0 := by
  have := fw_shift true 1 0 52
  rw [← this]
  decide +kernel
theorem turn_fw {r : Nat} {q : Int} (h1 : r ≤ 2 ^ 53) (h2 : -1074 ≤ q) : floatBits .mul .f64 (fw false r q) 13830554455654793216 = some (fw true r q) := by
  have hF1 : Fit 1 0 := Fit.of (by omega) (by omega) (by omega)
  have main : ∀ (r : Nat) (q : Int), r < 2 ^ 53 → -1074 ≤ q → floatBits .mul .f64 (fw false r q) 13830554455654793216 = some (fw true r q) := fun r q h1 h2 => by
    rw [fw_none]
    by_cases hF : Fit r q
    · rw [mul_fw false true hF hF1, Nat.mul_one, Int.add_zero]; rfl
    · have e1 := rung_big h1 h2 hF
      have a1 : fw false r q = f64.word false 0x7ff0000000000000 := by unfold fw; rw [e1]
      have a2 : fw true r q = f64.word true 0x7ff0000000000000 := by unfold fw; rw [e1]
      rw [a1, a2, mul_inf false true hF1 (by omega)]; rfl
  by_cases h0 : r = 2 ^ 53
  · have a1 := fw_shift false (2 ^ 52) (q + 1) 1
    have a2 := fw_shift true (2 ^ 52) (q + 1) 1
    rw [show q + 1 - ((1 : Nat) : Int) = q by omega] at a1 a2
    have e : r = 2 ^ 52 * 2 ^ 1 := by rw [h0]
    rw [e, a1, a2]
    exact main (2 ^ 52) (q + 1) (by omega) (by omega)
  · exact main r q (by omega) h2
set_option maxHeartbeats 400000 in
theorem sTurned_fw (r : Nat) (q : Int) (h1 : r ≤ 2 ^ 53) (h2 : -1074 ≤ q) (w : World) : Calls Tryz.prog 132 #[.float .f64 (fw false r q)] w fun e w' => e = .returned (.float .f64 (fw true r q)) ∧ w = w' := by
  have hm := fun W : World => (run_float_arith W .mul 24 .f64 _ _ _ (turn_fw h1 h2) : (binOp .mul 24 (.float .f64 (fw false r q)) (.float .f64 13830554455654793216)).run Tryz.prog W = .ok (.float .f64 (fw true r q)) W)
  obtain ⟨f, hf⟩ : ∃ f, fw false r q = f := ⟨_, rfl⟩
  obtain ⟨g, hg⟩ : ∃ g, fw true r q = g := ⟨_, rfl⟩
  rw [hf, hg] at hm
  rw [hf, hg]
  clear hf hg h1 h2
  go_enter Tryz.func132, Tryz.ntmps132
  go_wp2
  go_ret
  exact ⟨rfl, rfl⟩
def fitF (x : Nat) : Nat × Int := if isF .f64 x = true then (x, 0) else (0, 3)
/-- Whether the nearest float is finite. -/
theorem isF_rung (s : Bool) (m : Nat) (x : Int) : isF .f64 (fw s m x) = decide (rawRung f64 m x < 0x7ff0000000000000) := by
  by_cases h : rawRung f64 m x < 0x7ff0000000000000
  · rw [decide_eq_true h]
    obtain ⟨M, i, hc, hr⟩ := rung_number h
    have e : fw s m x = f64.word s (rawRung f64 M i) := by
      unfold fw rungOf
      rw [Nat.min_eq_left (by omega), hr]
    have := read_word (s := s) hc (by rw [hr]; exact h)
    unfold isF
    rw [e]
    have h2 : FloatKind.f64.format.read (f64.word s (rawRung f64 M i)) = _ := this
    rw [h2]
  · rw [decide_eq_false h]
    have e : fw s m x = f64.word s 0x7ff0000000000000 := by
      unfold fw rungOf
      rw [Nat.min_eq_right (by omega)]
    unfold isF
    rw [e]
    have h2 : FloatKind.f64.format.read (f64.word s 0x7ff0000000000000) = _ := read_inf s
    rw [h2]

theorem add_whole2 {a b : Nat} (ha : a ≤ 2 ^ 53) (hb : b < 2 ^ 53) : floatBits .add .f64 (fw false a 0) (fw false b 0) = some (fw false (a + b) 0) := by
  by_cases h : a < 2 ^ 53
  · exact add_whole h hb
  · have h0 : a = 2 ^ 53 := by omega
    have a1 := fw_shift false (2 ^ 52) 1 1
    rw [show (1 : Int) - ((1 : Nat) : Int) = 0 by omega] at a1
    have e : a = 2 ^ 52 * 2 ^ 1 := by rw [h0]
    have v1 : vz false (2 ^ 52) 1 0 = ((2 ^ 53 : Nat) : Int) := by decide +kernel
    have h2 := add_fw false false (m := 2 ^ 52) (n := b) (i := 1) (j := 0) (d := 0) (Fit.of (by omega) (by omega) (by omega)) (Fit.of hb (by omega) (by omega)) (by omega) (Int.le_refl 0) ((a + b : Nat) : Int) (by rw [v1, vz_false, h0]; omega)
    have h1 : (if (((a + b : Nat) : Int)) = 0 then (false && false) else decide (((a + b : Nat) : Int) < 0)) = false := by
      split
      · rfl
      · exact decide_eq_false (by omega)
    rw [h1, ← a1, ← e] at h2
    exact h2
theorem fw_24 : (4715268809856909312 : Nat) = fw false 1 24 := by
  rw [← fw_shift false 1 24 52]
  decide +kernel
theorem mul_24 {v : Nat} (h : v < 2 ^ 53) : floatBits .mul .f64 (fw false v 0) 4715268809856909312 = some (fw false (v * 16777216) 0) := by
  rw [fw_24, mul_fw false false (Fit.of h (by omega) (by omega)) (Fit.of (by omega) (by omega) (by omega)), Nat.mul_one]
  have := fw_shift false v 24 24
  rw [show (24 : Int) - ((24 : Nat) : Int) = 0 by omega] at this
  have hx : (false ^^ false) = false := rfl
  rw [Int.zero_add, hx, ← this]
theorem dropv_step (xs : List Nat) {j : Nat} (h : j < xs.length) : val (xs.drop j) = xs[j] + 16777216 * val (xs.drop (j + 1)) := val_drop xs j h
theorem dropv_le (xs : List Nat) : ∀ j, val (xs.drop j) ≤ val xs
  | 0 => Nat.le_refl _
  | j + 1 => by
    by_cases h : j < xs.length
    · have h1 := dropv_step xs h
      have h2 := dropv_le xs j
      omega
    · rw [List.drop_eq_nil_of_le (by omega)]
      exact Nat.zero_le _
theorem balU {w W : World} {o : Obj} (h : Below w.heap.size w W) : Below w.heap.size w (W.alloc o) := h.alloc h.size o
theorem odd_lim {s x : Int} {m : Nat} (h : IsDy s (lim m) x) (h0 : m ≠ 0) (sm : Sg s m) : m % 2 = 1 := by
  have := h.2.2.2
  rw [lim_getD] at this
  have hs : s ≠ 0 := by unfold Sg at sm; omega
  rcases this with ⟨h1, _⟩ | ⟨_, h2⟩
  · exact absurd h1 hs
  · omega
theorem set2_box {W : World} {g : Nat} {t : TypeId} {v0 v1 u0 u1 : Value} (h : BoxAt W g t #[v0, v1]) : BoxAt ((W.setCell ⟨g, 0, none⟩ u0).setCell ⟨g, 1, none⟩ u1) g t #[u0, u1] := by
  have := (h.set_ 0 u0).set_ 1 u1
  simpa using this

set_option maxRecDepth 100000 in
set_option maxHeartbeats 8000000 in
theorem sRound (s : Int) (a : Option Addr) (m c1 : Nat) (x : Int) (w : World) (B : Nat) (hB : B ≤ w.heap.size) (hx : Ints w B a (lim m)) (hc1 : (lim m).length ≤ c1) (hd : IsDy s (lim m) x) (hlm : (lim m).length ≤ 200) (sm : Sg s m) :
    Calls Tryz.prog 107 #[.agg #[.int .i64 s, .slice a (lim m).length c1, .int .i64 x], .int .i64 53, .int .i64 (-1074)] w (RetB (.float .f64 (fw (decide (s < 0)) m x)) w) := by
  obtain ⟨W0, hW0⟩ : ∃ W0 : World, w.alloc (.cells #[.int .i64 s, .slice a (lim m).length c1, .int .i64 x] 62) = W0 := ⟨_, rfl⟩
  obtain ⟨p1, p3, p4⟩ := one_box w 62 #[.int .i64 s, .slice a (lim m).length c1, .int .i64 x]
  rw [hW0] at p1 p3 p4
  have HW0 := Lib.hid hW0
  have P3 := Lib.hid p3
  have P4 := Lib.hid p4
  have SS := Lib.hid (show ∀ W, Below W0.heap.size W0 W → (W.cell? ⟨w.heap.size, 0, none⟩ = some (.int .i64 s) ∧ W.cell? ⟨w.heap.size, 1, none⟩ = some (.slice a (lim m).length c1) ∧ W.cell? ⟨w.heap.size, 2, none⟩ = some (.int .i64 x)) from
    fun W hW => (p1.below hW).tri)
  have hT : Below W0.heap.size W0 W0 := Below.refl _ _
  have HBE := Lib.hid (show ∀ W, Below W0.heap.size W0 W → Below w.heap.size w W from fun W hW => p3.trans (hW.mono (by omega)))
  obtain ⟨k1, k2, k3⟩ := SS.out _ hT
  by_cases h0 : m = 0
  · subst h0
    have hs0 : s = 0 := by unfold Sg at sm; omega
    subst hs0
    have hr : fw (decide ((0 : Int) < 0)) 0 x = 0 := by rw [fw_zero]; rfl
    rw [hr]
    clear p1 p3 p4 hW0 hx hr hd hlm sm hc1
    go_enter Tryz.func107, Tryz.ntmps107
    go_wp2_with fail
    rw [HW0.out]
    go_wp2_with fail
    go_ret
    exact ⟨rfl, HBE.out _ hT⟩
  · have hs0 : (s == 0) = false := by
      have : s ≠ 0 := by unfold Sg at sm; omega
      simpa using this
    obtain ⟨q, r, R⟩ := rounded_pos h0 x
    have hodd := odd_lim hd h0 sm
    obtain ⟨hx1, hx2⟩ := (⟨hd.2.1, hd.2.2.1⟩ : -5000 ≤ x ∧ x ≤ 5000)
    have hrl : (lim r).length ≤ 200 := by
      have h2 : r < 2 ^ 54 := by have := R.most; omega
      rw [lim_length]
      exact Nat.le_trans (len_64 (by omega)) (by omega)
    obtain ⟨bl, hbl1, hbl2⟩ := blen_nat2 hlm
    have hl0 := R.least
    have hq2 : q ≤ 10000 := by have := R.place; omega
    have s1 : sgnOf 1 m = 1 := sgnOf_pos h0
    have HA := Lib.hid (show ∀ W, Below W0.heap.size W0 W → Calls Tryz.prog 130 #[.agg #[.int .i64 s, .slice a (lim m).length c1]] W fun e w' => ∃ b d, e = .returned (.agg #[.int .i64 1, .slice b (lim m).length d]) ∧ (lim m).length ≤ d ∧ Own w' W0.heap.size b (lim m) ∧ Below W0.heap.size W0 w' from fun W hW => by
      have := sAbs s a m c1 W B (by have := hW.size; omega) (hx.below ((p3.mono hB).trans (hW.mono (by omega)))) sm (by omega) hc1
      unfold RetN at this
      rw [s1] at this
      exact this.mono fun e w' ⟨b, d, he, hc, ho, hb⟩ => ⟨b, d, he, hc, ho.mono hW.size, hW.trans (hb.mono hW.size)⟩)
    have hsg : ∀ b : Bool, decide (s < 0) = b → fw b r q = fw (decide (s < 0)) m x := fun b hb => by rw [hb]; exact R.same b
    have hsc : s = 1 ∨ s = -1 := by unfold Sg at sm; omega
    obtain ⟨u, hu⟩ : ∃ u : Int, u = q - x := ⟨_, rfl⟩
    obtain ⟨y1, hy1⟩ : ∃ y1 : Int, y1 = (bl : Int) + x := ⟨_, rfl⟩
    obtain ⟨y2, hy2⟩ : ∃ y2 : Int, y2 = y1 - 53 := ⟨_, rfl⟩
    have e1 : IntKind.i64.wrap ((bl : Int) + x) = y1 := by rw [hy1, IntKind.wrap_i64]; omega
    have e2 : IntKind.i64.wrap (y1 - 53) = y2 := by rw [hy2, IntKind.wrap_i64]; omega
    have e3 : max y2 (-1074) = q := by rw [hy2, hy1, ← hbl1]; exact R.place
    have e4 : IntKind.i64.wrap (q - x) = u := by rw [hu, IntKind.wrap_i64]; omega
    have e5 : wrap64 (q - x) = u := by rw [hu]; unfold wrap64; omega
    -- the limbs of what comes out
    have HL := Lib.hid (show (dig r).length = (lim r).length ∧ (∀ (j : Nat) (h : j < (dig r).length), (dig r)[j] < 16777216) ∧ val (dig r) = r from ⟨(lim_length r).symm, fun j h => small_dig r j h, val_dig r⟩)
    have hmost := R.most
    have HSC := Lib.hid (fun W => sScale_fw r q hmost hl0 (by omega) W)
    have HTU := Lib.hid (fun W => sTurned_fw r q hmost hl0 W)
    have HCV := Lib.hid (show ∀ y : Nat, floatOfInt .f64 (y : Int) = fw false y 0 from fun y => by
      rw [ofInt_fw, decide_eq_false (show ¬ ((y : Int) < 0) by omega)]
      rfl)
    have HMU := Lib.hid (show ∀ (v y : Nat) , y + 16777216 * v ≤ r → (∀ W : World, (binOp .mul 24 (.float .f64 (fw false v 0)) (.float .f64 4715268809856909312)).run Tryz.prog W = .ok (.float .f64 (fw false (v * 16777216) 0)) W) ∧ (y < 16777216 → ∀ W : World, (binOp .add 24 (.float .f64 (fw false (v * 16777216) 0)) (.float .f64 (fw false y 0))).run Tryz.prog W = .ok (.float .f64 (fw false (y + 16777216 * v) 0)) W) from fun v y hv => by
      refine ⟨fun W => run_float_arith W _ _ _ _ _ _ (mul_24 (by omega)), fun hy W => run_float_arith W _ _ _ _ _ _ ?_⟩
      rw [add_whole2 (by omega) (by omega), show v * 16777216 + y = y + 16777216 * v by omega])
    have HRES := Lib.hid hsg
    have HZ0 : fw false 0 0 = 0 := by rw [fw_zero]; rfl
    obtain ⟨F, hF⟩ : ∃ F : Nat → Nat, (fun v => fw false v 0) = F := ⟨_, rfl⟩
    have hFv : ∀ v, fw false v 0 = F v := fun v => by rw [← hF]
    simp only [hFv] at HSC HCV HMU HZ0
    obtain ⟨fp, hfp⟩ : ∃ fp, fw false r q = fp := ⟨_, rfl⟩
    obtain ⟨fm, hfm⟩ : ∃ fm, fw true r q = fm := ⟨_, rfl⟩
    obtain ⟨fz, hfz⟩ : ∃ fz, fw (decide (s < 0)) m x = fz := ⟨_, rfl⟩
    rw [hfp] at HSC HTU
    rw [hfm] at HTU
    rw [hfz]
    have HEND := Lib.hid (show (s = 1 → fp = fz) ∧ (s = -1 → fm = fz) from ⟨fun h => by rw [← hfp, ← hfz]; exact hsg false (by rw [h]; decide), fun h => by rw [← hfm, ← hfz]; exact hsg true (by rw [h]; decide)⟩)
    clear HRES hsg hF hFv hfp hfm hfz
    have hrlI : ((lim r).length : Int) ≤ 200 := by omega
    by_cases hu0 : u ≤ 0
    · have HLEFT := Lib.hid (show ∀ (a1 : Option Addr) (d1 : Nat) (B : Nat) W, B ≤ W.heap.size → Ints W B a1 (lim m) → Calls Tryz.prog 79 #[.agg #[.int .i64 1, .slice a1 (lim m).length d1], .int .i64 (-u)] W fun e w' => ∃ b d, e = .returned (.agg #[.int .i64 (sgnOf 1 r), .slice b (lim r).length d]) ∧ (lim r).length ≤ d ∧ Own w' W.heap.size b (lim r) ∧ Below W.heap.size W w' from fun a1 d1 B W h1 h2 => by
        have hk : -u = ((x - q).toNat : Int) := by omega
        have h3 := sLeft 1 a1 m d1 (x - q).toNat W B h1 h2 (by omega) (by omega)
        have h4 : m * 2 ^ (x - q).toNat = r := by
          have := R.mult
          unfold nsh at this
          rw [if_pos (by omega)] at this
          exact this
        rw [h4] at h3
        rw [hk]
        exact h3)
      have e6 : IntKind.i64.wrap (-u) = -u := by rw [IntKind.wrap_i64]; omega
      clear p1 p3 p4 hW0 hx hc1 hd sm R hodd hx1 hx2 hy1 hy2 hu hB h0 s1 hl0 hq2
      go_enter Tryz.func107, Tryz.ntmps107
      go_wp2_with fail
      rw [HW0.out]
      refine (HA.out _ hT).mono ?_
      rintro e w1 ⟨a1, d1, rfl, hd1, ho1, hb1⟩
      obtain ⟨W2, hW2⟩ : ∃ W2 : World, w1.alloc (.cells #[.int .i64 1, .slice a1 (lim m).length d1] 60) = W2 := ⟨_, rfl⟩
      obtain ⟨r1, r3, r4⟩ := one_box w1 60 #[.int .i64 1, .slice a1 (lim m).length d1]
      rw [hW2] at r1 r3 r4
      have HW2 := Lib.hid hW2
      have ho2 := ho1.below r3
      have hb2 := hb1.trans (r3.mono hb1.size)
      have HK := Lib.hid (show ∀ W, Below W2.heap.size W2 W → ((W.cell? ⟨w.heap.size, 0, none⟩ = some (.int .i64 s) ∧ W.cell? ⟨w.heap.size, 1, none⟩ = some (.slice a (lim m).length c1) ∧ W.cell? ⟨w.heap.size, 2, none⟩ = some (.int .i64 x)) ∧ (W.cell? ⟨w1.heap.size, 0, none⟩ = some (.int .i64 1) ∧ W.cell? ⟨w1.heap.size, 1, none⟩ = some (.slice a1 (lim m).length d1)) ∧ Below W0.heap.size W0 W) from fun W hW =>
        ⟨SS.out _ (hb2.trans (hW.mono hb2.size)), ⟨(r1.below hW).cell 0, (r1.below hW).cell 1⟩, hb2.trans (hW.mono hb2.size)⟩)
      have HO := Lib.hid (show ∀ W, Below W2.heap.size W2 W → Ints W W2.heap.size a1 (lim m) ∧ W2.heap.size ≤ W.heap.size from fun W hW => ⟨ho2.ints.below hW, hW.size⟩)
      have HLN := Lib.hid (show ∀ W, Below W2.heap.size W2 W → Calls Tryz.prog 78 #[.agg #[.int .i64 1, .slice a1 (lim m).length d1]] W fun e w' => e = .returned (.int .i64 (bl : Int)) ∧ Below W2.heap.size W2 w' from fun W hW => by
        have := sLength 1 a1 m d1 W W2.heap.size (HO.out W hW).2 (HO.out W hW).1 (by omega)
        rw [hbl1] at this
        exact this.mono fun e w' ⟨he, hb⟩ => ⟨he, hW.trans (hb.mono hW.size)⟩)
      have hT2 : Below W2.heap.size W2 W2 := Below.refl _ _
      have hT2d := hT2.drew
      clear k1 k2 k3 hb1 ho1 hW2 r1 r3 r4
      obtain ⟨⟨k1, k2, k3⟩, ⟨k4, k5⟩, hbb⟩ := HK.out _ hT2
      go_wp2_with fail
      rw [HW2.out]
      go_region_held3 (fun W => (W.cell? ⟨w.heap.size, 0, none⟩ = some (.int .i64 s) ∧ W.cell? ⟨w.heap.size, 1, none⟩ = some (.slice a (lim m).length c1) ∧ W.cell? ⟨w.heap.size, 2, none⟩ = some (.int .i64 x)) ∧ (W.cell? ⟨w1.heap.size, 0, none⟩ = some (.int .i64 1) ∧ W.cell? ⟨w1.heap.size, 1, none⟩ = some (.slice a1 (lim m).length d1)) ∧ Below W0.heap.size W0 W)
        (first | exact HK.out _ (by assumption))
        (first
        | (go_at_call 78; with_reducible refine (HLN.out _ (by assumption)).mono ?_; rintro e w3 ⟨rfl, hb3⟩))
      all_goals
        clear k1 k2 k3 k4 k5 hbb
        obtain ⟨⟨k1, k2, k3⟩, ⟨k4, k5⟩, hbb⟩ := HK.out _ hb3
        obtain ⟨W5, hW5⟩ : ∃ W5 : World, w3.alloc (.cells #[.int .i64 1, .slice a1 (lim m).length d1] 60) = W5 := ⟨_, rfl⟩
        have hx5 : BoxAt W5 w3.heap.size 60 #[.int .i64 1, .slice a1 (lim m).length d1] := by rw [← hW5]; exact BoxAt.new _ _ _
        have hb5 : Below W2.heap.size W2 W5 := by rw [← hW5]; exact balU hb3
        have hz5 : W5.heap.size = w3.heap.size + 1 := by rw [← hW5]; simp
        have hz3 := hb3.size
        obtain ⟨⟨j1, j2, j3⟩, ⟨j4, j5⟩, hbj⟩ := HK.out _ hb5
        go_wp2_with fail
        clear hW5 k1 k2 k3 k4 k5 j1 j2 j3 j4 j5 hbb hbj
        refine (HLEFT.out _ _ W2.heap.size _ (HO.out _ hb5).2 (HO.out _ hb5).1).mono ?_
        rintro e w6 ⟨b6, d6, rfl, hd6, ho6, hb6⟩
        have hx6 := hx5.below hb6
        obtain ⟨W7, hW7⟩ : ∃ W7 : World, (w6.setCell ⟨w3.heap.size, 0, none⟩ (.int .i64 (sgnOf 1 r))).setCell ⟨w3.heap.size, 1, none⟩ (.slice b6 (lim r).length d6) = W7 := ⟨_, rfl⟩
        have hx7 : BoxAt W7 w3.heap.size 60 #[.int .i64 (sgnOf 1 r), .slice b6 (lim r).length d6] := by rw [← hW7]; exact set2_box hx6
        have ho7 : Own W7 W5.heap.size b6 (lim r) := by rw [← hW7]; exact (ho6.setFar (by simp; omega) _).setFar (by simp; omega) _
        have hb7 : Below W2.heap.size W2 W7 := by rw [← hW7]; exact below_set2 (hb5.trans (hb6.mono hb5.size)) (by omega) _ _
        obtain ⟨q1, q2, q3, q4⟩ := hx6.two
        obtain ⟨z1, z2, _, _⟩ := hx7.two
        obtain ⟨⟨j1, j2, j3⟩, _, hbj⟩ := HK.out _ hb7
        clear hx6 hx5 ho6 hb6 hd6 hb5 hz5
        go_wp2_with fail
        clear hW7 q1 q2 q3 q4
        go_loopw [12, 13] (fun v i wr => ∃ k : Nat, k ≤ (dig r).length ∧ v = .float .f64 (F (val ((dig r).drop k))) ∧ i = .int .i64 ((k : Int) - 1) ∧ wr = W7) (fun _ i _ => (intF i + 1).toNat)
        case atStart => exact ⟨(dig r).length, Nat.le_refl _, by rw [List.drop_length]; exact congrArg _ HZ0.symm, by rw [HL.out.1], rfl⟩
        case round =>
          obtain ⟨k, hk, rfl, rfl, rfl⟩ := hrel
          by_cases h0 : k = 0
          · subst h0
            have hv : val ((dig r).drop 0) = r := HL.out.2.2
            rw [hv, show ((0 : Nat) : Int) - 1 = -1 by omega]
            rcases hsc with hs | hs
            · subst hs
              have hend := HEND.out.1 rfl
              go_wp2_with (first | (go_at_call 76; refine (HSC.out _).mono ?_; rintro e w' ⟨rfl, rfl⟩) | (go_at_call 132; refine (HTU.out _).mono ?_; rintro e w' ⟨rfl, rfl⟩))
              go_ret
              exact ⟨rfl, HBE.out _ hbj⟩
            · subst hs
              have hend := HEND.out.2 rfl
              go_wp2_with (first | (go_at_call 76; refine (HSC.out _).mono ?_; rintro e w' ⟨rfl, rfl⟩) | (go_at_call 132; refine (HTU.out _).mono ?_; rintro e w' ⟨rfl, rfl⟩))
              go_ret
              exact ⟨rfl, HBE.out _ hbj⟩
          · obtain ⟨j, rfl⟩ : ∃ j, k = j + 1 := ⟨k - 1, by omega⟩
            have hj : j < (dig r).length := by omega
            have hj' : j < (lim r).length := by rw [← HL.out.1]; exact hj
            obtain ⟨c, o, hbc, _, hcell⟩ := ho7.ints j hj'
            obtain ⟨y, hy⟩ : ∃ y : Nat, (dig r)[j] = y := ⟨_, rfl⟩
            have hyl : (lim r)[j] = (y : Int) := by rw [← hy]; exact ofN_at (dig r) j hj'
            have hylt : y < 16777216 := by rw [← hy]; exact HL.out.2.1 j hj
            have hst := dropv_step (dig r) hj
            have hle := dropv_le (dig r) j
            rw [HL.out.2.2] at hle
            rw [hy] at hst
            obtain ⟨v, hv⟩ : ∃ v, val ((dig r).drop (j + 1)) = v := ⟨_, rfl⟩
            rw [hv] at hst ⊢
            obtain ⟨hm, ha⟩ := HMU.out v y (by omega)
            have ha := ha hylt
            have hcv := HCV.out y
            rw [hyl] at hcell
            rw [show ((j + 1 : Nat) : Int) - 1 = (j : Int) by omega]
            have hji : (j : Int) < ((lim r).length : Int) := by omega
            have hji0 : (0 : Int) ≤ (j : Int) := by omega
            have hli : ((lim r).length : Int) ≤ 200 := by omega
            subst hbc
            have HST := Lib.hid hst
            clear hst hle hy hyl hylt hv hj' hk h0 j1 j2 j3 z1
            go_wp2_with fail
            go_roundw
            case rel => exact ⟨j, by omega, by rw [HST.out], by go_num, by first | rfl | trivial⟩
            case measure => simp [intF] <;> omega
    · obtain ⟨K, hK⟩ : ∃ K : Nat, u = (K : Int) := ⟨u.toNat, by omega⟩
      subst hK
      have hK1 : 1 ≤ K := by omega
      have hK2 : K ≤ 30000 := by omega
      obtain ⟨M, hM⟩ : ∃ M, m / 2 ^ K = M := ⟨_, rfl⟩
      obtain ⟨N, hN⟩ : ∃ N, m / 2 ^ (K - 1) % 2 = N := ⟨_, rfl⟩
      have hr : r = M + if (N = 1 ∧ (1 < K ∨ M % 2 = 1)) then 1 else 0 := by
        have h1 := R.mult
        rw [show x - q = -(K : Int) by omega, nsh_down m hK1, near_rne h0 hK1, hM, hN, tw_odd hodd] at h1
        rw [← h1]
        congr 2
        exact propext ⟨fun ⟨a1, a2⟩ => ⟨a1, by omega⟩, fun ⟨a1, a2⟩ => ⟨a1, by omega⟩⟩
      have hN2 : N < 2 := by rw [← hN]; exact Nat.mod_lt _ (by omega)
      have hlM : (lim M).length ≤ 200 := by rw [← hM]; exact Nat.le_trans (lim_le_of_le (Nat.div_le_self _ _)) hlm
      have HCUT := Lib.hid (show ∀ (a1 : Option Addr) (d1 : Nat) (B : Nat) W, B ≤ W.heap.size → Ints W B a1 (lim m) → Calls Tryz.prog 109 #[.agg #[.int .i64 1, .slice a1 (lim m).length d1], .int .i64 (K : Int)] W fun e w' => ∃ b d, e = .returned (.agg #[.int .i64 (sgnOf 1 M), .slice b (lim M).length d]) ∧ (lim M).length ≤ d ∧ Own w' W.heap.size b (lim M) ∧ Below W.heap.size W w' from fun a1 d1 B W h1 h2 => by
        have h3 := sCut 1 a1 m d1 K W B h1 h2 (by omega) (by omega)
        rw [hM] at h3
        exact h3)
      have HBIT := Lib.hid (show ∀ (a1 : Option Addr) (d1 : Nat) (B : Nat) W, B ≤ W.heap.size → Ints W B a1 (lim m) → Calls Tryz.prog 131 #[.agg #[.int .i64 1, .slice a1 (lim m).length d1], .int .i64 ((K : Int) - 1)] W (RetB (.int .i64 (N : Int)) W) from fun a1 d1 B W h1 h2 => by
        have h3 := sBit 1 a1 m d1 (K - 1) W B h1 h2 (by omega) (by omega)
        rw [hN, show ((K - 1 : Nat) : Int) = (K : Int) - 1 by omega] at h3
        exact h3)
      have HBIT0 := Lib.hid (show ∀ (b : Option Addr) (d lo : Nat) W, Own W lo b (lim M) → Calls Tryz.prog 131 #[.agg #[.int .i64 (sgnOf 1 M), .slice b (lim M).length d], .int .i64 0] W (RetB (.int .i64 ((M % 2 : Nat) : Int)) W) from fun b d lo W ho => by
        have h3 := sBit (sgnOf 1 M) b M d 0 W _ (Nat.le_refl _) ho.ints (by omega) (by omega)
        rw [Nat.pow_zero, Nat.div_one] at h3
        exact h3)
      have HOF := Lib.hid (show ∀ W : World, Calls Tryz.prog 84 #[.int .i64 1] W fun e w' => ∃ b d, e = .returned (.agg #[.int .i64 1, .slice b (lim 1).length d]) ∧ (lim 1).length ≤ d ∧ Own w' W.heap.size b (lim 1) ∧ Below W.heap.size W w' from fun W => by
        have h3 := sOfP 1 (by omega) W
        unfold RetN at h3
        rw [sgnOf_pos (by omega)] at h3
        exact h3)
      have HADD := Lib.hid (show ∀ (a b : Option Addr) (c d lo lo' : Nat) W, Own W lo a (lim M) → (lim M).length ≤ c → Own W lo' b (lim 1) → (lim 1).length ≤ d → Calls Tryz.prog 83 #[.agg #[.int .i64 (sgnOf 1 M), .slice a (lim M).length c], .agg #[.int .i64 1, .slice b (lim 1).length d]] W fun e w' => ∃ b d, e = .returned (.agg #[.int .i64 (sgnOf 1 (M + 1)), .slice b (lim (M + 1)).length d]) ∧ (lim (M + 1)).length ≤ d ∧ Own w' W.heap.size b (lim (M + 1)) ∧ Below W.heap.size W w' from fun a b c d lo lo' W ho hc ho' hd => by
        have h := sAdd (sgnOf 1 M) 1 a b M 1 c d W _ _ (Nat.le_refl _) (Nat.le_refl _) ho.ints ho'.ints (sgn_one M).1 (by unfold Sg; omega) (by omega) (by rw [lim_one]; simp) hc hd
        unfold RetZ at h
        rw [(sgn_one M).2, show (M : Int) + 1 * ((1 : Nat) : Int) = ((M + 1 : Nat) : Int) by omega, Int.natAbs_natCast] at h
        have e2 : (((M + 1 : Nat) : Int)).sign = sgnOf 1 (M + 1) := by rw [sgnOf_pos (by omega)]; exact Int.sign_eq_one_of_pos (by omega)
        rw [e2] at h
        exact h)
      have hKI : (1 : Int) ≤ (K : Int) := by omega
      have hKI2 : (K : Int) ≤ 30000 := by omega
      have hT0 := hT
      clear p1 p3 p4 hW0 hx hc1 hd sm R hodd hx1 hx2 hy1 hy2 hu hB h0 s1 hl0 hq2 hN hM hlM hK1 hK2 hu0 e5
      go_enter Tryz.func107, Tryz.ntmps107
      go_wp2_with fail
      rw [HW0.out]
      refine (HA.out _ hT).mono ?_
      rintro e w1 ⟨a1, d1, rfl, hd1, ho1, hb1⟩
      obtain ⟨W2, hW2⟩ : ∃ W2 : World, w1.alloc (.cells #[.int .i64 1, .slice a1 (lim m).length d1] 60) = W2 := ⟨_, rfl⟩
      obtain ⟨r1, r3, r4⟩ := one_box w1 60 #[.int .i64 1, .slice a1 (lim m).length d1]
      rw [hW2] at r1 r3 r4
      have HW2 := Lib.hid hW2
      have ho2 := ho1.below r3
      have hb2 := hb1.trans (r3.mono hb1.size)
      have HK := Lib.hid (show ∀ W, Below W2.heap.size W2 W → ((W.cell? ⟨w.heap.size, 0, none⟩ = some (.int .i64 s) ∧ W.cell? ⟨w.heap.size, 1, none⟩ = some (.slice a (lim m).length c1) ∧ W.cell? ⟨w.heap.size, 2, none⟩ = some (.int .i64 x)) ∧ (W.cell? ⟨w1.heap.size, 0, none⟩ = some (.int .i64 1) ∧ W.cell? ⟨w1.heap.size, 1, none⟩ = some (.slice a1 (lim m).length d1)) ∧ Below W0.heap.size W0 W) from fun W hW =>
        ⟨SS.out _ (hb2.trans (hW.mono hb2.size)), ⟨(r1.below hW).cell 0, (r1.below hW).cell 1⟩, hb2.trans (hW.mono hb2.size)⟩)
      have HO := Lib.hid (show ∀ W, Below W2.heap.size W2 W → Ints W W2.heap.size a1 (lim m) ∧ W2.heap.size ≤ W.heap.size from fun W hW => ⟨ho2.ints.below hW, hW.size⟩)
      have HLN := Lib.hid (show ∀ W, Below W2.heap.size W2 W → Calls Tryz.prog 78 #[.agg #[.int .i64 1, .slice a1 (lim m).length d1]] W fun e w' => e = .returned (.int .i64 (bl : Int)) ∧ Below W2.heap.size W2 w' from fun W hW => by
        have := sLength 1 a1 m d1 W W2.heap.size (HO.out W hW).2 (HO.out W hW).1 (by omega)
        rw [hbl1] at this
        exact this.mono fun e w' ⟨he, hb⟩ => ⟨he, hW.trans (hb.mono hW.size)⟩)
      have hT2 : Below W2.heap.size W2 W2 := Below.refl _ _
      have hT2d := hT2.drew
      clear k1 k2 k3 hb1 ho1 hW2 r1 r3 r4
      obtain ⟨⟨k1, k2, k3⟩, ⟨k4, k5⟩, hbb⟩ := HK.out _ hT2
      go_wp2_with fail
      rw [HW2.out]
      go_region_held3 (fun W => (W.cell? ⟨w.heap.size, 0, none⟩ = some (.int .i64 s) ∧ W.cell? ⟨w.heap.size, 1, none⟩ = some (.slice a (lim m).length c1) ∧ W.cell? ⟨w.heap.size, 2, none⟩ = some (.int .i64 x)) ∧ (W.cell? ⟨w1.heap.size, 0, none⟩ = some (.int .i64 1) ∧ W.cell? ⟨w1.heap.size, 1, none⟩ = some (.slice a1 (lim m).length d1)) ∧ Below W0.heap.size W0 W)
        (first | exact HK.out _ (by assumption))
        (first
        | (go_at_call 78; with_reducible refine (HLN.out _ (by assumption)).mono ?_; rintro e w3 ⟨rfl, hb3⟩))
      all_goals
        clear k1 k2 k3 k4 k5 hbb
        obtain ⟨⟨k1, k2, k3⟩, ⟨k4, k5⟩, hbb⟩ := HK.out _ hb3
        obtain ⟨W5, hW5⟩ : ∃ W5 : World, w3.alloc (.cells #[.int .i64 1, .slice a1 (lim m).length d1] 60) = W5 := ⟨_, rfl⟩
        have hx5 : BoxAt W5 w3.heap.size 60 #[.int .i64 1, .slice a1 (lim m).length d1] := by rw [← hW5]; exact BoxAt.new _ _ _
        have hb5 : Below W2.heap.size W2 W5 := by rw [← hW5]; exact balU hb3
        have hz5 : W5.heap.size = w3.heap.size + 1 := by rw [← hW5]; simp
        have hz3 := hb3.size
        obtain ⟨⟨j1, j2, j3⟩, ⟨j4, j5⟩, hbj⟩ := HK.out _ hb5
        go_wp2_with fail
        clear hW5 k1 k2 k3 k4 k5 j1 j2 j3 j4 j5 hbb hbj
        refine (HCUT.out _ _ W2.heap.size _ (HO.out _ hb5).2 (HO.out _ hb5).1).mono ?_
        rintro e w6 ⟨b6, d6, rfl, hd6, ho6, hb6⟩
        have hx6 := hx5.below hb6
        obtain ⟨W7, hW7⟩ : ∃ W7 : World, (w6.setCell ⟨w3.heap.size, 0, none⟩ (.int .i64 (sgnOf 1 M))).setCell ⟨w3.heap.size, 1, none⟩ (.slice b6 (lim M).length d6) = W7 := ⟨_, rfl⟩
        have hx7 : BoxAt W7 w3.heap.size 60 #[.int .i64 (sgnOf 1 M), .slice b6 (lim M).length d6] := by rw [← hW7]; exact set2_box hx6
        have ho7 : Own W7 W5.heap.size b6 (lim M) := by rw [← hW7]; exact (ho6.setFar (by simp; omega) _).setFar (by simp; omega) _
        have hb7 : Below W2.heap.size W2 W7 := by rw [← hW7]; exact below_set2 (hb5.trans (hb6.mono hb5.size)) (by omega) _ _
        have hz7 : W5.heap.size ≤ W7.heap.size := by rw [← hW7]; have := hb6.size; simp [World.setCell]; omega
        obtain ⟨q1, q2, q3, q4⟩ := hx6.two
        obtain ⟨z1, z2, _, _⟩ := hx7.two
        obtain ⟨⟨j1, j2, j3⟩, ⟨j4, j5⟩, hbj⟩ := HK.out _ hb7
        clear hx6 hx5 ho6 hb6 hb5
        go_wp2_with fail
        clear hW7 q1 q2 q3 q4
        refine (HBIT.out _ _ W2.heap.size _ (HO.out _ hb7).2 (HO.out _ hb7).1).mono ?_
        rintro e w8 ⟨rfl, hb8⟩
        have hx8 := hx7.below hb8
        have ho8 := ho7.below hb8
        have hb8' := hb7.trans (hb8.mono hb7.size)
        have hz8 : w3.heap.size < w8.heap.size := by have := hb8.size; omega
        clear z1 z2 j1 j2 j3 j4 j5 hbj hx7 ho7 hb7 hb8
        obtain ⟨z1, z2, z3, z4⟩ := hx8.two
        obtain ⟨⟨j1, j2, j3⟩, ⟨j4, j5⟩, hbj⟩ := HK.out _ hb8'
        rcases (show N = 0 ∨ N = 1 by omega) with hN0 | hN0
        · subst hN0
          rw [if_neg (by omega), Nat.add_zero] at hr
          subst hr
          go_wp2_with fail
          go_loopw [12, 13] (fun v i wr => ∃ k : Nat, k ≤ (dig r).length ∧ v = .float .f64 (F (val ((dig r).drop k))) ∧ i = .int .i64 ((k : Int) - 1) ∧ wr = w8) (fun _ i _ => (intF i + 1).toNat)
          case atStart => exact ⟨(dig r).length, Nat.le_refl _, by rw [List.drop_length]; exact congrArg _ HZ0.symm, by rw [HL.out.1], rfl⟩
          case round =>
            obtain ⟨k, hk, rfl, rfl, rfl⟩ := hrel
            by_cases h0 : k = 0
            · subst h0
              have hv : val ((dig r).drop 0) = r := HL.out.2.2
              rw [hv, show ((0 : Nat) : Int) - 1 = -1 by omega]
              rcases hsc with hs | hs
              · subst hs
                have hend := HEND.out.1 rfl
                go_wp2_with (first | (go_at_call 76; refine (HSC.out _).mono ?_; rintro e w' ⟨rfl, rfl⟩) | (go_at_call 132; refine (HTU.out _).mono ?_; rintro e w' ⟨rfl, rfl⟩))
                go_ret
                exact ⟨rfl, HBE.out _ hbj⟩
              · subst hs
                have hend := HEND.out.2 rfl
                go_wp2_with (first | (go_at_call 76; refine (HSC.out _).mono ?_; rintro e w' ⟨rfl, rfl⟩) | (go_at_call 132; refine (HTU.out _).mono ?_; rintro e w' ⟨rfl, rfl⟩))
                go_ret
                exact ⟨rfl, HBE.out _ hbj⟩
            · obtain ⟨j, rfl⟩ : ∃ j, k = j + 1 := ⟨k - 1, by omega⟩
              have hj : j < (dig r).length := by omega
              have hj' : j < (lim r).length := by rw [← HL.out.1]; exact hj
              obtain ⟨c, o, hbc, _, hcell⟩ := ho8.ints j hj'
              obtain ⟨y, hy⟩ : ∃ y : Nat, (dig r)[j] = y := ⟨_, rfl⟩
              have hyl : (lim r)[j] = (y : Int) := by rw [← hy]; exact ofN_at (dig r) j hj'
              have hylt : y < 16777216 := by rw [← hy]; exact HL.out.2.1 j hj
              have hst := dropv_step (dig r) hj
              have hle := dropv_le (dig r) j
              rw [HL.out.2.2] at hle
              rw [hy] at hst
              obtain ⟨v, hv⟩ : ∃ v, val ((dig r).drop (j + 1)) = v := ⟨_, rfl⟩
              rw [hv] at hst ⊢
              obtain ⟨hm, ha⟩ := HMU.out v y (by omega)
              have ha := ha hylt
              have hcv := HCV.out y
              rw [hyl] at hcell
              rw [show ((j + 1 : Nat) : Int) - 1 = (j : Int) by omega]
              have hji : (j : Int) < ((lim r).length : Int) := by omega
              have hji0 : (0 : Int) ≤ (j : Int) := by omega
              have hli : ((lim r).length : Int) ≤ 200 := by omega
              subst hbc
              have HST := Lib.hid hst
              clear hst hle hy hyl hylt hv hj' hk h0 j1 j2 j3 z1
              go_wp2_with fail
              go_roundw
              case rel => exact ⟨j, by omega, by rw [HST.out], by go_num, by first | rfl | trivial⟩
              case measure => simp [intF] <;> omega
        · subst hN0
          by_cases hKK : (1 : Int) < (K : Int)
          · rw [if_pos ⟨rfl, .inl (by omega)⟩] at hr
            have HRR := Lib.hid hr
            clear hr
            obtain ⟨x1, x2, x3, x4⟩ := BoxAt.two (w := w8.drew) hx8
            go_wp2_with fail
            go_region_with ((first
              | (go_at_call 84; refine (HOF.out _).mono ?_; rintro e w9 ⟨b9, d9, rfl, hd9, ho9, hb9⟩; have hx9 := BoxAt.below (w := w8.drew) hx8 hb9; have ho99 := Own.below (w := w8.drew) ho8 hb9; obtain ⟨y1, y2, y3, y4⟩ := hx9.two)
              | (go_at_call 83; refine (HADD.out _ _ _ _ _ _ _ ho99 hd6 ho9 hd9).mono ?_; rintro e w10 ⟨b10, d10, rfl, hd10, ho10, hb10⟩; have hx10 := hx9.below hb10; obtain ⟨q1, q2, q3, q4⟩ := hx10.two)))
            all_goals
              have hb9' : Below w8.heap.size w8 w9 := (Below.refl w8.heap.size w8).drew.trans hb9
              have hzz := hb9'.size
              have hb10' := hb9'.trans (hb10.mono hzz)
              obtain ⟨W11, hW11⟩ : ∃ W11 : World, (w10.setCell ⟨w3.heap.size, 0, none⟩ (.int .i64 (sgnOf 1 (M + 1)))).setCell ⟨w3.heap.size, 1, none⟩ (.slice b10 (lim (M + 1)).length d10) = W11 := ⟨_, rfl⟩
              have hx11 : BoxAt W11 w3.heap.size 60 #[.int .i64 (sgnOf 1 (M + 1)), .slice b10 (lim (M + 1)).length d10] := by rw [← hW11]; exact set2_box hx10
              have ho11 : Own W11 w9.heap.size b10 (lim (M + 1)) := by
                rw [← hW11]
                exact (ho10.setFar (by simp; omega) _).setFar (by simp; omega) _
              have hb11 : Below W2.heap.size W2 W11 := by rw [← hW11]; exact below_set2 (hb8'.trans (hb10'.mono hb8'.size)) (by omega) _ _
              clear z1 z2 z3 z4 j1 j2 j3 j4 j5 hbj hx10 hx9 ho10 ho9 ho99 hb10 hb10' hb9 hb9' hd10 hd9 q1 q2 q3 q4 x1 x2 x3 x4 y1 y2 y3 y4
              have hr := HRR.out
              rw [← hr] at hx11 ho11 hW11
              (try rw [← hr])
              clear hr
              obtain ⟨z1, z2, _, _⟩ := hx11.two
              obtain ⟨⟨j1, j2, j3⟩, ⟨j4, j5⟩, hbj⟩ := HK.out _ hb11
              go_wp2_with fail
              clear hW11
              go_loopw [12, 13] (fun v i wr => ∃ k : Nat, k ≤ (dig r).length ∧ v = .float .f64 (F (val ((dig r).drop k))) ∧ i = .int .i64 ((k : Int) - 1) ∧ wr = W11) (fun _ i _ => (intF i + 1).toNat)
              case atStart => exact ⟨(dig r).length, Nat.le_refl _, by rw [List.drop_length]; exact congrArg _ HZ0.symm, by rw [HL.out.1], rfl⟩
              case round =>
                obtain ⟨k, hk, rfl, rfl, rfl⟩ := hrel
                by_cases h0 : k = 0
                · subst h0
                  have hv : val ((dig r).drop 0) = r := HL.out.2.2
                  rw [hv, show ((0 : Nat) : Int) - 1 = -1 by omega]
                  rcases hsc with hs | hs
                  · subst hs
                    have hend := HEND.out.1 rfl
                    go_wp2_with (first | (go_at_call 76; refine (HSC.out _).mono ?_; rintro e w' ⟨rfl, rfl⟩) | (go_at_call 132; refine (HTU.out _).mono ?_; rintro e w' ⟨rfl, rfl⟩))
                    go_ret
                    exact ⟨rfl, HBE.out _ hbj⟩
                  · subst hs
                    have hend := HEND.out.2 rfl
                    go_wp2_with (first | (go_at_call 76; refine (HSC.out _).mono ?_; rintro e w' ⟨rfl, rfl⟩) | (go_at_call 132; refine (HTU.out _).mono ?_; rintro e w' ⟨rfl, rfl⟩))
                    go_ret
                    exact ⟨rfl, HBE.out _ hbj⟩
                · obtain ⟨j, rfl⟩ : ∃ j, k = j + 1 := ⟨k - 1, by omega⟩
                  have hj : j < (dig r).length := by omega
                  have hj' : j < (lim r).length := by rw [← HL.out.1]; exact hj
                  obtain ⟨c, o, hbc, _, hcell⟩ := ho11.ints j hj'
                  obtain ⟨y, hy⟩ : ∃ y : Nat, (dig r)[j] = y := ⟨_, rfl⟩
                  have hyl : (lim r)[j] = (y : Int) := by rw [← hy]; exact ofN_at (dig r) j hj'
                  have hylt : y < 16777216 := by rw [← hy]; exact HL.out.2.1 j hj
                  have hst := dropv_step (dig r) hj
                  have hle := dropv_le (dig r) j
                  rw [HL.out.2.2] at hle
                  rw [hy] at hst
                  obtain ⟨v, hv⟩ : ∃ v, val ((dig r).drop (j + 1)) = v := ⟨_, rfl⟩
                  rw [hv] at hst ⊢
                  obtain ⟨hm, ha⟩ := HMU.out v y (by omega)
                  have ha := ha hylt
                  have hcv := HCV.out y
                  rw [hyl] at hcell
                  rw [show ((j + 1 : Nat) : Int) - 1 = (j : Int) by omega]
                  have hji : (j : Int) < ((lim r).length : Int) := by omega
                  have hji0 : (0 : Int) ≤ (j : Int) := by omega
                  have hli : ((lim r).length : Int) ≤ 200 := by omega
                  subst hbc
                  have HST := Lib.hid hst
                  clear hst hle hy hyl hylt hv hj' hk h0 j1 j2 j3 z1
                  go_wp2_with fail
                  go_roundw
                  case rel => exact ⟨j, by omega, by rw [HST.out], by go_num, by first | rfl | trivial⟩
                  case measure => simp [intF] <;> omega
          · by_cases hM1 : M % 2 = 1
            · rw [if_pos ⟨rfl, .inr hM1⟩] at hr
              rw [hM1] at HBIT0
              go_wp2_with fail
              refine (HBIT0.out _ _ _ _ ho8).mono ?_
              rintro e w88 ⟨rfl, hb88⟩
              have hx88 := hx8.below hb88
              have ho88 := ho8.below hb88
              have hb88' := hb8'.trans (hb88.mono hb8'.size)
              have hz88 : w3.heap.size < w88.heap.size := by have := hb88.size; omega
              clear z1 z2 z3 z4 j1 j2 j3 j4 j5 hbj hx8 ho8 hb8' hb88
              obtain ⟨z1, z2, z3, z4⟩ := hx88.two
              obtain ⟨⟨j1, j2, j3⟩, ⟨j4, j5⟩, hbj⟩ := HK.out _ hb88'
              have HRR := Lib.hid hr
              clear hr
              obtain ⟨x1, x2, x3, x4⟩ := BoxAt.two (w := w88.drew) hx88
              go_wp2_with fail
              go_region_with ((first
                | (go_at_call 84; refine (HOF.out _).mono ?_; rintro e w9 ⟨b9, d9, rfl, hd9, ho9, hb9⟩; have hx9 := BoxAt.below (w := w88.drew) hx88 hb9; have ho99 := Own.below (w := w88.drew) ho88 hb9; obtain ⟨y1, y2, y3, y4⟩ := hx9.two)
                | (go_at_call 83; refine (HADD.out _ _ _ _ _ _ _ ho99 hd6 ho9 hd9).mono ?_; rintro e w10 ⟨b10, d10, rfl, hd10, ho10, hb10⟩; have hx10 := hx9.below hb10; obtain ⟨q1, q2, q3, q4⟩ := hx10.two)))
              all_goals
                have hb9' : Below w88.heap.size w88 w9 := (Below.refl w88.heap.size w88).drew.trans hb9
                have hzz := hb9'.size
                have hb10' := hb9'.trans (hb10.mono hzz)
                obtain ⟨W11, hW11⟩ : ∃ W11 : World, (w10.setCell ⟨w3.heap.size, 0, none⟩ (.int .i64 (sgnOf 1 (M + 1)))).setCell ⟨w3.heap.size, 1, none⟩ (.slice b10 (lim (M + 1)).length d10) = W11 := ⟨_, rfl⟩
                have hx11 : BoxAt W11 w3.heap.size 60 #[.int .i64 (sgnOf 1 (M + 1)), .slice b10 (lim (M + 1)).length d10] := by rw [← hW11]; exact set2_box hx10
                have ho11 : Own W11 w9.heap.size b10 (lim (M + 1)) := by
                  rw [← hW11]
                  exact (ho10.setFar (by simp; omega) _).setFar (by simp; omega) _
                have hb11 : Below W2.heap.size W2 W11 := by rw [← hW11]; exact below_set2 (hb88'.trans (hb10'.mono hb88'.size)) (by omega) _ _
                clear z1 z2 z3 z4 j1 j2 j3 j4 j5 hbj hx10 hx9 ho10 ho9 ho99 hb10 hb10' hb9 hb9' hd10 hd9 q1 q2 q3 q4 x1 x2 x3 x4 y1 y2 y3 y4
                have hr := HRR.out
                rw [← hr] at hx11 ho11 hW11
                (try rw [← hr])
                clear hr
                obtain ⟨z1, z2, _, _⟩ := hx11.two
                obtain ⟨⟨j1, j2, j3⟩, ⟨j4, j5⟩, hbj⟩ := HK.out _ hb11
                go_wp2_with fail
                clear hW11
                go_loopw [12, 13] (fun v i wr => ∃ k : Nat, k ≤ (dig r).length ∧ v = .float .f64 (F (val ((dig r).drop k))) ∧ i = .int .i64 ((k : Int) - 1) ∧ wr = W11) (fun _ i _ => (intF i + 1).toNat)
                case atStart => exact ⟨(dig r).length, Nat.le_refl _, by rw [List.drop_length]; exact congrArg _ HZ0.symm, by rw [HL.out.1], rfl⟩
                case round =>
                  obtain ⟨k, hk, rfl, rfl, rfl⟩ := hrel
                  by_cases h0 : k = 0
                  · subst h0
                    have hv : val ((dig r).drop 0) = r := HL.out.2.2
                    rw [hv, show ((0 : Nat) : Int) - 1 = -1 by omega]
                    rcases hsc with hs | hs
                    · subst hs
                      have hend := HEND.out.1 rfl
                      go_wp2_with (first | (go_at_call 76; refine (HSC.out _).mono ?_; rintro e w' ⟨rfl, rfl⟩) | (go_at_call 132; refine (HTU.out _).mono ?_; rintro e w' ⟨rfl, rfl⟩))
                      go_ret
                      exact ⟨rfl, HBE.out _ hbj⟩
                    · subst hs
                      have hend := HEND.out.2 rfl
                      go_wp2_with (first | (go_at_call 76; refine (HSC.out _).mono ?_; rintro e w' ⟨rfl, rfl⟩) | (go_at_call 132; refine (HTU.out _).mono ?_; rintro e w' ⟨rfl, rfl⟩))
                      go_ret
                      exact ⟨rfl, HBE.out _ hbj⟩
                  · obtain ⟨j, rfl⟩ : ∃ j, k = j + 1 := ⟨k - 1, by omega⟩
                    have hj : j < (dig r).length := by omega
                    have hj' : j < (lim r).length := by rw [← HL.out.1]; exact hj
                    obtain ⟨c, o, hbc, _, hcell⟩ := ho11.ints j hj'
                    obtain ⟨y, hy⟩ : ∃ y : Nat, (dig r)[j] = y := ⟨_, rfl⟩
                    have hyl : (lim r)[j] = (y : Int) := by rw [← hy]; exact ofN_at (dig r) j hj'
                    have hylt : y < 16777216 := by rw [← hy]; exact HL.out.2.1 j hj
                    have hst := dropv_step (dig r) hj
                    have hle := dropv_le (dig r) j
                    rw [HL.out.2.2] at hle
                    rw [hy] at hst
                    obtain ⟨v, hv⟩ : ∃ v, val ((dig r).drop (j + 1)) = v := ⟨_, rfl⟩
                    rw [hv] at hst ⊢
                    obtain ⟨hm, ha⟩ := HMU.out v y (by omega)
                    have ha := ha hylt
                    have hcv := HCV.out y
                    rw [hyl] at hcell
                    rw [show ((j + 1 : Nat) : Int) - 1 = (j : Int) by omega]
                    have hji : (j : Int) < ((lim r).length : Int) := by omega
                    have hji0 : (0 : Int) ≤ (j : Int) := by omega
                    have hli : ((lim r).length : Int) ≤ 200 := by omega
                    subst hbc
                    have HST := Lib.hid hst
                    clear hst hle hy hyl hylt hv hj' hk h0 j1 j2 j3 z1
                    go_wp2_with fail
                    go_roundw
                    case rel => exact ⟨j, by omega, by rw [HST.out], by go_num, by first | rfl | trivial⟩
                    case measure => simp [intF] <;> omega
            · rw [if_neg (by omega), Nat.add_zero] at hr
              have hM0 : M % 2 = 0 := by omega
              rw [hM0] at HBIT0
              subst hr
              go_wp2_with fail
              refine (HBIT0.out _ _ _ _ ho8).mono ?_
              rintro e w88 ⟨rfl, hb88⟩
              have hx88 := hx8.below hb88
              have ho88 := ho8.below hb88
              have hb88' := hb8'.trans (hb88.mono hb8'.size)
              clear z1 z2 z3 z4 j1 j2 j3 j4 j5 hbj hx8 ho8 hb8' hb88
              obtain ⟨z1, z2, z3, z4⟩ := hx88.two
              obtain ⟨⟨j1, j2, j3⟩, ⟨j4, j5⟩, hbj⟩ := HK.out _ hb88'
              go_wp2_with fail
              go_loopw [12, 13] (fun v i wr => ∃ k : Nat, k ≤ (dig r).length ∧ v = .float .f64 (F (val ((dig r).drop k))) ∧ i = .int .i64 ((k : Int) - 1) ∧ wr = w88) (fun _ i _ => (intF i + 1).toNat)
              case atStart => exact ⟨(dig r).length, Nat.le_refl _, by rw [List.drop_length]; exact congrArg _ HZ0.symm, by rw [HL.out.1], rfl⟩
              case round =>
                obtain ⟨k, hk, rfl, rfl, rfl⟩ := hrel
                by_cases h0 : k = 0
                · subst h0
                  have hv : val ((dig r).drop 0) = r := HL.out.2.2
                  rw [hv, show ((0 : Nat) : Int) - 1 = -1 by omega]
                  rcases hsc with hs | hs
                  · subst hs
                    have hend := HEND.out.1 rfl
                    go_wp2_with (first | (go_at_call 76; refine (HSC.out _).mono ?_; rintro e w' ⟨rfl, rfl⟩) | (go_at_call 132; refine (HTU.out _).mono ?_; rintro e w' ⟨rfl, rfl⟩))
                    go_ret
                    exact ⟨rfl, HBE.out _ hbj⟩
                  · subst hs
                    have hend := HEND.out.2 rfl
                    go_wp2_with (first | (go_at_call 76; refine (HSC.out _).mono ?_; rintro e w' ⟨rfl, rfl⟩) | (go_at_call 132; refine (HTU.out _).mono ?_; rintro e w' ⟨rfl, rfl⟩))
                    go_ret
                    exact ⟨rfl, HBE.out _ hbj⟩
                · obtain ⟨j, rfl⟩ : ∃ j, k = j + 1 := ⟨k - 1, by omega⟩
                  have hj : j < (dig r).length := by omega
                  have hj' : j < (lim r).length := by rw [← HL.out.1]; exact hj
                  obtain ⟨c, o, hbc, _, hcell⟩ := ho88.ints j hj'
                  obtain ⟨y, hy⟩ : ∃ y : Nat, (dig r)[j] = y := ⟨_, rfl⟩
                  have hyl : (lim r)[j] = (y : Int) := by rw [← hy]; exact ofN_at (dig r) j hj'
                  have hylt : y < 16777216 := by rw [← hy]; exact HL.out.2.1 j hj
                  have hst := dropv_step (dig r) hj
                  have hle := dropv_le (dig r) j
                  rw [HL.out.2.2] at hle
                  rw [hy] at hst
                  obtain ⟨v, hv⟩ : ∃ v, val ((dig r).drop (j + 1)) = v := ⟨_, rfl⟩
                  rw [hv] at hst ⊢
                  obtain ⟨hm, ha⟩ := HMU.out v y (by omega)
                  have ha := ha hylt
                  have hcv := HCV.out y
                  rw [hyl] at hcell
                  rw [show ((j + 1 : Nat) : Int) - 1 = (j : Int) by omega]
                  have hji : (j : Int) < ((lim r).length : Int) := by omega
                  have hji0 : (0 : Int) ≤ (j : Int) := by omega
                  have hli : ((lim r).length : Int) ≤ 200 := by omega
                  subst hbc
                  have HST := Lib.hid hst
                  clear hst hle hy hyl hylt hv hj' hk h0 j1 j2 j3 z1
                  go_wp2_with fail
                  go_roundw
                  case rel => exact ⟨j, by omega, by rw [HST.out], by go_num, by first | rfl | trivial⟩
                  case measure => simp [intF] <;> omega

theorem fit_flt (s : Int) (m : Nat) (x : Int) : fitF (fw (decide (s < 0)) m x) = flt s m x := by
  unfold fitF flt
  rw [isF_rung]
  by_cases h : rawRung f64 m x < 0x7ff0000000000000
  · rw [if_pos (decide_eq_true h), if_pos h]
  · rw [if_neg (by rw [decide_eq_false h]; decide), if_neg h]

theorem quo_fin {x : Nat} (h : isF .f64 x = true) : ∃ r, floatBits .quo .f64 4607182418800017408 x = some r := by
  have h1 : FloatKind.f64.format.read 4607182418800017408 = .number false (2 ^ 52) (-52) := by decide +kernel
  unfold isF at h
  cases e : FloatKind.f64.format.read x with
  | nan s f => rw [e] at h; cases h
  | infinity s => rw [e] at h; cases h
  | number s m i =>
    show ∃ r, Ieee.Format.div FloatKind.f64.format _ _ = some r
    unfold Ieee.Format.div
    rw [h1, e]
    simp only [Ieee.Datum.quotient]
    by_cases hm : m = 0
    · rw [if_pos hm, if_neg (by omega)]; exact ⟨_, rfl⟩
    · rw [if_neg hm]; exact ⟨_, rfl⟩
theorem flR_fin (s : Int) (xs : List Int) (x : Int) : isF .f64 (flR s xs x).1 = true := by
  unfold flR
  split
  · unfold flt
    split
    · rename_i h; rw [isF_rung]; exact decide_eq_true h
    · exact isF_zero
  · exact isF_zero
end Go.Proofs.YtgppagmejhgmaaaGreatDoor
