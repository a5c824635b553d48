/-
  Contracts: the model's nearest float of a square root. Conditions: the limbs can be read. Contracts: square roots of floats by the model; the walks of laws.FnExactRootOfFloat and laws.FnExactRootOfFloatNarrow. Conditions: none.
-/
import Derived.Test.YtgppagmejhgmaaaGreatDoorKc
import Derived.Test.YtgppagmejhgmaaaGreatDoorRb
import Derived.Test.YtgppagmejhgmaaaGreatDoorUc
import Derived.Deep.RegionHeld3
import Derived.BigQuiet
namespace Go.Proofs.YtgppagmejhgmaaaGreatDoor
set_option linter.unusedVariables false
open Go Go.RowKit

open Go Go.RowKit Ieee

theorem sgnOf_1k (N : Nat) : sgnOf 1 N = (N : Int).sign := by
  by_cases h : N = 0
  · subst h; simp [sgnOf_zero]
  · rw [sgnOf_pos h]; exact (Int.sign_eq_one_of_pos (by omega)).symm
theorem od_twk {n : Nat} (h : n ≠ 0) : od n * 2 ^ tw n = n := by
  have h1 := (od_mul h).1
  rw [Nat.mul_comm]
  exact h1.symm
theorem lim_pow_len6 (n K : Nat) (hK : K ≤ 122) : (lim (n * 2 ^ K)).length ≤ (lim n).length + 7 := by
  have h1 := lim_mul_len n (2 ^ K)
  have h2 : (lim (2 ^ K)).length ≤ 6 := pow_len (by omega)
  omega
/-- The form in which the root is rounded. -/
def up8 (n r : Nat) : Nat := if r * r = n then r else 2 * r + 1
def pl8 (n r : Nat) (e : Int) : Int := if r * r = n then e else e - 1
theorem up8_fw (n r : Nat) (e : Int) : fw false (up8 n r) (pl8 n r e) = fw false (stk n r) (e - 1) := by
  unfold up8 pl8
  by_cases h : r * r = n
  · rw [if_pos h, if_pos h, stk_eq h, Nat.mul_comm]
    exact (fw_shift false r e 1).symm
  · rw [if_neg h, if_neg h, stk_ne h]

set_option maxRecDepth 100000 in
set_option maxHeartbeats 1000000 in
theorem sRound64 (s : Int) (a : Option Addr) (m c1 : Nat) (x : Int) (w : World) (B : Nat) (hB : B ≤ w.heap.size) (hx : Ints w B a (lim m)) (hc1 : (lim m).length ≤ c1) (hd : IsDy s (lim m) x) (hlm : (lim m).length ≤ 200) (sm : Sg s m) :
    Calls Tryz.prog 85 #[.agg #[.int .i64 s, .slice a (lim m).length c1, .int .i64 x]] w fun e w' => e = .returned (.tuple #[.float .f64 (fw (decide (s < 0)) m x), .bool (isF .f64 (fw (decide (s < 0)) m x))]) ∧ Below w.heap.size w w' := by
  obtain ⟨W0, hW0⟩ : ∃ W0 : World, w.alloc (.cells #[.int .i64 s, .slice a (lim m).length c1, .int .i64 x] 62) = W0 := ⟨_, rfl⟩
  obtain ⟨p1, p3, p4⟩ := one_box w 62 #[.int .i64 s, .slice a (lim m).length c1, .int .i64 x]
  rw [hW0] at p1 p3 p4
  have HW0 := Lib.hid hW0
  have hT : Below W0.heap.size W0 W0 := Below.refl _ _
  have HBE := Lib.hid (show ∀ W, Below W0.heap.size W0 W → Below w.heap.size w W from fun W hW => p3.trans (hW.mono (by omega)))
  obtain ⟨k1, k2, k3⟩ := p1.tri
  have HR := Lib.hid (show Calls Tryz.prog 107 #[.agg #[.int .i64 s, .slice a (lim m).length c1, .int .i64 x], .int .i64 53, .int .i64 (-1074)] W0 fun e w' => e = .returned (.float .f64 (fw (decide (s < 0)) m x)) ∧ Below W0.heap.size W0 w' from
    (sRound s a m c1 x W0 B (by omega) (hx.below (p3.mono hB)) hc1 hd hlm sm).mono fun e w' ⟨he, hb⟩ => ⟨he, hb⟩)
  obtain ⟨f, hf⟩ : ∃ f, f = fw (decide (s < 0)) m x := ⟨_, rfl⟩
  rw [← hf] at HR ⊢
  have HF := Lib.hid fun W => sReal_any f W
  obtain ⟨g, hg⟩ : ∃ g, g = isF .f64 f := ⟨_, rfl⟩
  rw [← hg] at HF ⊢
  clear hf hg hW0 hx hd hlm sm hB p1 p3 p4 hc1
  go_enter Tryz.func85, Tryz.ntmps85
  go_wp2_with fail
  rw [HW0.out]
  refine HR.out.mono ?_
  rintro e w1 ⟨rfl, hb⟩
  go_wp2_with fail
  refine (HF.out _).mono ?_
  rintro e w2 ⟨n, rfl, rfl⟩
  go_wp2_with fail
  go_ret2
  exact ⟨rfl, HBE.out _ (below_drewN hb _)⟩

set_option maxRecDepth 100000 in
set_option maxHeartbeats 8000000 in
theorem sRt8 (a : Option Addr) (m c1 : Nat) (x : Int) (w : World) (B : Nat) (hB : B ≤ w.heap.size) (hx : Ints w B a (lim m)) (hm0 : m ≠ 0) (hl : (lim m).length ≤ 190) (hx1 : -4000 ≤ x) (hx2 : x ≤ 2200) :
    Calls Tryz.prog 56 #[.agg #[.int .i64 1, .slice a (lim m).length c1, .int .i64 x]] w fun e w' => ∃ (K r : Nat) (ex : Int) (ok : Bool), 2 * ex = x - K ∧ IsRt (m * 2 ^ K) r ∧ 2 ^ 53 ≤ r ∧ ok = isF .f64 (fw false (stk (m * 2 ^ K) r) (ex - 1)) ∧ e = .returned (.tuple #[.float .f64 (fw false (stk (m * 2 ^ K) r) (ex - 1)), .bool ok]) ∧ Below w.heap.size w w' := by
  obtain ⟨W0, hW0⟩ : ∃ W0 : World, (w.alloc (.cells #[.int .i64 1, .slice a (lim m).length c1, .int .i64 x] 62)) = W0 := ⟨_, rfl⟩
  obtain ⟨p1, p3, p4⟩ := one_box w 62 #[.int .i64 1, .slice a (lim m).length c1, .int .i64 x]
  rw [hW0] at p1 p3 p4
  have HW0 := Lib.hid hW0
  have P3 := Lib.hid p3
  have P4 := Lib.hid p4
  have SS := Lib.hid (show ∀ W, Below W0.heap.size W0 W → (W.cell? ⟨w.heap.size, 0, none⟩ = some (.int .i64 1) ∧ W.cell? ⟨w.heap.size, 1, none⟩ = some (.slice a (lim m).length c1) ∧ W.cell? ⟨w.heap.size, 2, none⟩ = some (.int .i64 x)) from
    fun W hW => (p1.below hW).tri)
  have hT : Below W0.heap.size W0 W0 := Below.refl _ _
  have HBE := Lib.hid (show ∀ W, Below W0.heap.size W0 W → Below w.heap.size w W from fun W hW => p3.trans (hW.mono (by omega)))
  have IX := Lib.hid (show ∀ W, Below W0.heap.size W0 W → Ints W B a (lim m) ∧ B ≤ W.heap.size from fun W hW => ⟨hx.below ((p3.mono hB).trans (hW.mono (by omega))), by have := hW.size; omega⟩)
  obtain ⟨b, hb, hb1, hb2⟩ := blen_nat' (n := m) (by omega)
  have hb0 : (b : Int) = (m.log2 : Int) + 1 := by rw [← hb]; exact blen_log hm0
  have hbb : wrap64 (120 - (b : Int)) = 120 - (b : Int) := by unfold wrap64; omega
  have hbb2 : IntKind.i64.wrap (120 - (b : Int)) = 120 - (b : Int) := by rw [IntKind.wrap_i64]; omega
  obtain ⟨k0, hk0⟩ : ∃ k0 : Nat, max 0 (120 - (b : Int)) = (k0 : Int) := ⟨(max 0 (120 - (b : Int))).toNat, by omega⟩
  have hk0' : 120 ≤ b + k0 ∧ k0 ≤ 120 := by omega
  obtain ⟨y, hy⟩ : ∃ y : Int, y = x - (k0 : Int) := ⟨_, rfl⟩
  have hwy : wrap64 (x - (k0 : Int)) = y := by rw [hy]; unfold wrap64; omega
  have hwy2 : IntKind.i64.wrap (x - (k0 : Int)) = y := by rw [hy, IntKind.wrap_i64]; omega
  obtain ⟨par, hpar⟩ : ∃ par : Bool, (Int.tmod y 2 != 0) = par := ⟨_, rfl⟩
  obtain ⟨K, hK⟩ : ∃ K : Nat, (par = false ∧ K = k0) ∨ (par = true ∧ K = k0 + 1) := by
    cases par
    · exact ⟨k0, .inl ⟨rfl, rfl⟩⟩
    · exact ⟨k0 + 1, .inr ⟨rfl, rfl⟩⟩
  have hev : (x - (K : Int)) % 2 = 0 := by
    rcases hK with ⟨rfl, rfl⟩ | ⟨rfl, rfl⟩
    · have h1 : Int.tmod y 2 = 0 := by simpa using hpar
      have := Int.emod_emod_of_dvd y (show (2 : Int) ∣ 2 by exact ⟨1, rfl⟩)
      rw [← hy]
      exact Int.emod_eq_zero_of_dvd (Int.dvd_of_tmod_eq_zero h1)
    · have h1 : Int.tmod y 2 ≠ 0 := by simpa using hpar
      have h2 : ¬ y % 2 = 0 := fun h => h1 (Int.tmod_eq_zero_of_dvd (Int.dvd_of_emod_eq_zero h))
      rw [hy] at h2
      omega
  have hKb : K ≤ 121 ∧ 120 ≤ b + K := by omega
  obtain ⟨ex, hex⟩ : ∃ ex : Int, 2 * ex = x - (K : Int) := ⟨(x - (K : Int)) / 2, by omega⟩
  have hw2 : wrap64 (x - (K : Int)) = 2 * ex := by rw [hex]; unfold wrap64; omega
  have hdv : Int.tdiv (2 * ex) 2 = ex := Int.mul_tdiv_cancel_left ex (by omega)
  have hwk1 : wrap64 ((k0 : Int) + 1) = ((k0 + 1 : Nat) : Int) := by unfold wrap64; omega
  have hwx : wrap64 (ex - 1) = ex - 1 := by unfold wrap64; omega
  obtain ⟨n, hn⟩ : ∃ n, n = m * 2 ^ K := ⟨_, rfl⟩
  have hn0 : n ≠ 0 := by rw [hn]; exact Nat.mul_ne_zero hm0 (by have : 0 < 2 ^ K := Nat.pow_pos (by omega); omega)
  have hln : (lim n).length ≤ 200 := by have := lim_pow_len6 m K (by omega); rw [← hn] at this; omega
  obtain ⟨r, hr⟩ : ∃ r, r = rootN n := ⟨_, rfl⟩
  have hsp := rootN_spec n
  rw [← hr] at hsp
  have hbig : 2 ^ 53 ≤ r := by
    have h1 : 2 ^ 119 ≤ n := by
      rw [hn]
      refine Nat.le_trans (m := 2 ^ m.log2 * 2 ^ K) ?_ (Nat.mul_le_mul_right _ (log_le hm0))
      rw [← Nat.pow_add]
      exact Nat.pow_le_pow_right (by omega) (by omega)
    have h2 : 2 ^ 59 < r + 1 := by
      apply sq_lt
      rw [← Nat.pow_add]
      exact Nat.lt_of_lt_of_le (Nat.pow_lt_pow_right (by omega) (by omega)) (Nat.le_of_lt (Nat.lt_of_le_of_lt h1 hsp.2))
    omega
  have hr0 : r ≠ 0 := by omega
  have hlr : (lim r).length ≤ 200 := Nat.le_trans (lim_le_of_le (by rw [hr]; exact rootN_le n)) hln
  have hlrr : (lim (r * r)).length ≤ 400 := by have := lim_mul_len r r; omega
  obtain ⟨q, hq⟩ : ∃ q, q = up8 n r := ⟨_, rfl⟩
  obtain ⟨z, hz⟩ : ∃ z, z = pl8 n r ex := ⟨_, rfl⟩
  have hq0 : q ≠ 0 := by rw [hq]; unfold up8; split <;> omega
  have hq2 : q ≤ 2 * r + 1 := by rw [hq]; unfold up8; split <;> omega
  have hz2 : ex - 1 ≤ z ∧ z ≤ ex := by rw [hz]; unfold pl8; split <;> omega
  have hrn : r * r ≤ n := hsp.1
  have hlq : (lim q).length ≤ 200 := by
    refine Nat.le_trans (lim_le_of_le (show q ≤ n by
      have h3 : 3 * r ≤ r * r := Nat.mul_le_mul_right _ (by omega)
      omega)) hln
  obtain ⟨f, hf⟩ : ∃ f, f = fw false (stk n r) (ex - 1) := ⟨_, rfl⟩
  have hff : fw false (od q) (z + (tw q : Int)) = f := by
    rw [hf, ← up8_fw, ← hq, ← hz]
    have := fw_shift false (od q) (z + (tw q : Int)) (tw q)
    rw [od_twk hq0, show z + (tw q : Int) - (tw q : Int) = z by omega] at this
    exact this.symm
  have hoq : 1 ≤ od q := by
    rcases Nat.eq_zero_or_pos (od q) with h | h
    · have := od_twk hq0
      rw [h, Nat.zero_mul] at this
      omega
    · exact h
  have htq : tw q ≤ 2500 := by
    have h1 : 2 ^ tw q ≤ q := by
      have := od_twk hq0
      have h2 := Nat.mul_le_mul_right (2 ^ tw q) hoq
      omega
    rcases Nat.lt_or_ge (tw q) 2 with h2 | h2
    · omega
    · obtain ⟨t, ht⟩ : ∃ t, tw q = t + 1 := ⟨tw q - 1, by omega⟩
      rw [ht, Nat.pow_succ] at h1
      have h3 : 2 ^ t * 2 ^ t ≤ r * r := Nat.mul_le_mul (by omega) (by omega)
      rw [← Nat.pow_add] at h3
      have h4 : n < 2 ^ (b + K) := by
        rw [hn, Nat.pow_add]
        exact Nat.mul_lt_mul_of_pos_right hb2 (Nat.pow_pos (by omega))
      have h5 : t + t < b + K := (Nat.pow_lt_pow_iff_right (a := 2) (by omega)).1 (by omega)
      omega
  have hlo : (lim (od q)).length ≤ 200 := Nat.le_trans (lim_le_of_le (od_le q)) hlq
  have hdq : IsDy 1 (lim (od q)) (z + (tw q : Int)) := by
    refine dyB_iff.1 ?_
    rw [dy_odd (isWh_lim hlo (.inr ⟨by omega, .inl rfl⟩)) (by omega) (by omega) (by omega)]
    exact decide_eq_true (od_mul hq0).2
  have HEND := Lib.hid (show ∀ W, Below W0.heap.size W0 W → ∃ (K r : Nat) (ex : Int) (ok : Bool), 2 * ex = x - K ∧ IsRt (m * 2 ^ K) r ∧ 2 ^ 53 ≤ r ∧ ok = isF .f64 (fw false (stk (m * 2 ^ K) r) (ex - 1)) ∧ (Ending.returned (.tuple #[.float .f64 f, .bool (isF .f64 f)])) = .returned (.tuple #[.float .f64 (fw false (stk (m * 2 ^ K) r) (ex - 1)), .bool ok]) ∧ Below w.heap.size w W from
    fun W hW => ⟨K, r, ex, _, hex, by rw [← hn]; exact hsp, hbig, rfl, by rw [hf, hn], HBE.out W hW⟩)
  have hTm : ∀ W, Below W0.heap.size W0 W → (W.cell? ⟨w.heap.size, 0, none⟩ = some (.int .i64 1) ∧ W.cell? ⟨w.heap.size, 1, none⟩ = some (.slice a (lim m).length c1) ∧ W.cell? ⟨w.heap.size, 2, none⟩ = some (.int .i64 x)) := SS.out
  have HLE := Lib.hid (show Calls Tryz.prog 78 #[.agg #[.int .i64 1, .slice a (lim m).length c1]] W0 fun e w' => e = .returned (.int .i64 (b : Int)) ∧ Below W0.heap.size W0 w' from by
    have := sLength 1 a m c1 W0 B (IX.out _ hT).2 (IX.out _ hT).1 (by omega)
    rw [hb] at this
    exact this)
  have HLF := Lib.hid (show ∀ W, Below W0.heap.size W0 W → Calls Tryz.prog 79 #[.agg #[.int .i64 1, .slice a (lim m).length c1], .int .i64 (K : Int)] W fun e w' => ∃ a c, e = .returned (.agg #[.int .i64 1, .slice a (lim n).length c]) ∧ Own w' W0.heap.size a (lim n) ∧ Below W0.heap.size W0 w' from
    fun W hW => by
      have := sLeft 1 a m c1 K W B (IX.out W hW).2 (IX.out W hW).1 (by omega) (by omega)
      rw [← hn, sgnOf_pos hn0] at this
      exact this.mono fun e w' ⟨a, c, he, _, ho, hb⟩ => ⟨a, c, he, ho.mono hW.size, hW.trans (hb.mono hW.size)⟩)
  have sgn1 : Sg 1 n := .inr ⟨hn0, .inl rfl⟩
  have sgr1 : Sg 1 r := .inr ⟨hr0, .inl rfl⟩
  have HRT := Lib.hid (show ∀ (a : Option Addr) (c : Nat) W, Below W0.heap.size W0 W → Own W W0.heap.size a (lim n) → Calls Tryz.prog 80 #[.agg #[.int .i64 1, .slice a (lim n).length c]] W fun e w' => ∃ b d, e = .returned (.agg #[.int .i64 1, .slice b (lim r).length d]) ∧ (lim r).length ≤ d ∧ Own w' W0.heap.size b (lim r) ∧ Below W0.heap.size W0 w' ∧ Below W.heap.size W w' from
    fun a c W hW ho => by
      have := sRoot 1 a n c r W W.heap.size (Nat.le_refl _) ho.ints sgn1 (by omega) hln hsp.1 hsp.2
      rw [sgnOf_pos hr0] at this
      exact this.mono fun e w' ⟨a, c, he, hc, ho, hb⟩ => ⟨a, c, he, hc, ho.mono hW.size, hW.trans (hb.mono hW.size), hb⟩)
  have hrr0 : r * r ≠ 0 := Nat.mul_ne_zero hr0 hr0
  have HML := Lib.hid (show ∀ (a : Option Addr) (c : Nat) W, Own W W0.heap.size a (lim r) → Calls Tryz.prog 82 #[.agg #[.int .i64 1, .slice a (lim r).length c], .agg #[.int .i64 1, .slice a (lim r).length c]] W fun e w' => ∃ b d, e = .returned (.agg #[.int .i64 1, .slice b (lim (r * r)).length d]) ∧ Own w' W.heap.size b (lim (r * r)) ∧ Below W.heap.size W w' from
    fun a c W ho => by
      have := sMul 1 1 a a r r c c W _ _ (Nat.le_refl _) (Nat.le_refl _) ho.ints ho.ints sgr1 sgr1 (by omega) (by omega)
      rw [Int.one_mul, show (r : Int) * (r : Int) = ((r * r : Nat) : Int) by simp] at this
      unfold RetZ at this
      rw [← sgnOf_1k, Int.natAbs_natCast, sgnOf_pos hrr0] at this
      exact this.mono fun e w' ⟨a, c, he, hc, ho, hb⟩ => ⟨a, c, he, ho, hb⟩)
  have HCM := Lib.hid (show ∀ (a b : Option Addr) (c d : Nat) W, Own W W0.heap.size a (lim (r * r)) → Own W W0.heap.size b (lim n) → Calls Tryz.prog 81 #[.agg #[.int .i64 1, .slice a (lim (r * r)).length c], .agg #[.int .i64 1, .slice b (lim n).length d]] W fun e w' => e = .returned (.int .i64 (cmpZ ((r * r : Nat) : Int) (n : Int))) ∧ Below W.heap.size W w' from
    fun a b c d W ho hp => by
      have := sCompare 1 1 a b (r * r) n c d W _ _ (Nat.le_refl _) (Nat.le_refl _) ho.ints hp.ints (.inr ⟨hrr0, .inl rfl⟩) sgn1 (by omega) (by omega)
      rw [Int.one_mul, Int.one_mul] at this
      exact this)
  obtain ⟨r2, hr2⟩ : ∃ r2, r2 = 2 * r := ⟨_, rfl⟩
  have hlr2 : (lim r2).length ≤ 210 := by
    have := lim_pow_len6 r 1 (by omega)
    rw [show r * 2 ^ 1 = r2 by omega] at this
    omega
  have HL2 := Lib.hid (show ∀ (a : Option Addr) (c : Nat) W, Own W W0.heap.size a (lim r) → Calls Tryz.prog 79 #[.agg #[.int .i64 1, .slice a (lim r).length c], .int .i64 1] W fun e w' => ∃ a c, e = .returned (.agg #[.int .i64 1, .slice a (lim r2).length c]) ∧ (lim r2).length ≤ c ∧ Own w' W.heap.size a (lim r2) ∧ Below W.heap.size W w' from
    fun a c W ho => by
      have := sLeft 1 a r c 1 W _ (Nat.le_refl _) ho.ints (by omega) (by omega)
      rw [show r * 2 ^ 1 = r2 by omega, sgnOf_pos (by omega)] at this
      exact this.mono fun e w' ⟨a, c, he, hc, ho, hb⟩ => ⟨a, c, he, hc, ho, hb⟩)
  have HOF := Lib.hid (show ∀ W, Calls Tryz.prog 84 #[.int .i64 1] W fun e w' => ∃ b d, e = .returned (.agg #[.int .i64 1, .slice b 1 d]) ∧ 1 ≤ d ∧ Own w' W.heap.size b [1] ∧ Below W.heap.size W w' from fun W => by
    have := sOfP 1 (by omega) W
    unfold RetN at this
    rw [sgnOf_pos (by omega), lim_one] at this
    exact this)
  have HAD := Lib.hid (show ∀ (a b : Option Addr) (c d : Nat) W, Own W W0.heap.size a (lim r2) → (lim r2).length ≤ c → Own W W0.heap.size b [1] → 1 ≤ d → Calls Tryz.prog 83 #[.agg #[.int .i64 1, .slice a (lim r2).length c], .agg #[.int .i64 1, .slice b 1 d]] W fun e w' => ∃ x c, e = .returned (.agg #[.int .i64 1, .slice x (lim (r2 + 1)).length c]) ∧ (lim (r2 + 1)).length ≤ c ∧ Own w' W.heap.size x (lim (r2 + 1)) ∧ Below W.heap.size W w' from
    fun a b c d W ho hc hp hd => by
      have := sAdd 1 1 a b r2 1 c d W _ _ (Nat.le_refl _) (Nat.le_refl _) ho.ints (by rw [lim_one]; exact hp.ints) (.inr ⟨by omega, .inl rfl⟩) (.inr ⟨by omega, .inl rfl⟩) (by omega) (by rw [lim_one]; simp) hc (by rw [lim_one]; exact hd)
      rw [Int.one_mul, show (r2 : Int) + 1 * ((1 : Nat) : Int) = ((r2 + 1 : Nat) : Int) by simp, lim_one] at this
      unfold RetZ at this
      rw [← sgnOf_1k, Int.natAbs_natCast, sgnOf_pos (by omega)] at this
      exact this.mono fun e w' ⟨a, c, he, hc, ho, hb⟩ => ⟨a, c, he, hc, ho, hb⟩)
  obtain ⟨u, hu⟩ : ∃ u, u = od q := ⟨_, rfl⟩
  obtain ⟨ue, hue⟩ : ∃ ue : Int, ue = z + (tw q : Int) := ⟨_, rfl⟩
  rw [← hu] at hlo hdq hff hoq
  rw [← hue] at hdq hff
  have HMK := Lib.hid (show ∀ (a : Option Addr) (c : Nat) W, Below W0.heap.size W0 W → Own W W0.heap.size a (lim q) → Calls Tryz.prog 86 #[.agg #[.int .i64 1, .slice a (lim q).length c], .int .i64 z] W fun e w' => ∃ a c, e = .returned (.agg #[.int .i64 1, .slice a (lim u).length c, .int .i64 ue]) ∧ (lim u).length ≤ c ∧ Own w' W0.heap.size a (lim u) ∧ Below W0.heap.size W0 w' from
    fun a c W hW ho => by
      have := sMake3 1 a q c z W _ (Nat.le_refl _) ho.ints (.inr ⟨hq0, .inl rfl⟩) (by omega) (by omega) (by omega)
      rw [redS_pos hq0, ← hu, ← hue] at this
      exact this.mono fun e w' ⟨a, c, he, hc, ho, hb⟩ => ⟨a, c, he, hc, ho.mono hW.size, hW.trans (hb.mono hW.size)⟩)
  obtain ⟨ok, hok⟩ : ∃ ok, ok = isF .f64 f := ⟨_, rfl⟩
  rw [← hok] at HEND
  have HRD := Lib.hid (show ∀ (a : Option Addr) (c : Nat) W, Below W0.heap.size W0 W → (lim u).length ≤ c → Own W W0.heap.size a (lim u) → Calls Tryz.prog 85 #[.agg #[.int .i64 1, .slice a (lim u).length c, .int .i64 ue]] W fun e w' => e = .returned (.tuple #[.float .f64 f, .bool ok]) ∧ Below W0.heap.size W0 w' from
    fun a c W hW hc ho => by
      have := sRound64 1 a u c ue W _ (Nat.le_refl _) ho.ints hc hdq hlo (.inr ⟨by omega, .inl rfl⟩)
      rw [show decide ((1 : Int) < 0) = false from rfl, hff, ← hok] at this
      exact this.mono fun e w' ⟨he, hb⟩ => ⟨he, hW.trans (hb.mono hW.size)⟩)
  obtain ⟨sqr, hsqr⟩ : ∃ z, z = r * r := ⟨_, rfl⟩
  rw [← hsqr] at HML HCM
  have HQU := Lib.hid (show sqr ≠ n → q = r2 + 1 ∧ z = ex - 1 from fun h => by
    rw [hsqr] at h
    rw [hq, hz]
    unfold up8 pl8
    rw [if_neg h, if_neg h, hr2]
    exact ⟨rfl, rfl⟩)
  have HQE := Lib.hid (show sqr = n → q = r ∧ z = ex from fun h => by
    rw [hsqr] at h
    rw [hq, hz]
    unfold up8 pl8
    rw [if_pos h, if_pos h]
    exact ⟨rfl, rfl⟩)
  obtain ⟨cz, hczz⟩ : ∃ cz, cz = cmpZ (sqr : Int) (n : Int) := ⟨_, rfl⟩
  rw [← hczz] at HCM
  have HCZ := Lib.hid (show (q = r ∧ z = ex ∧ cz = 0) ∨ (q = r2 + 1 ∧ z = ex - 1 ∧ cz = -1) from by
    rcases Nat.lt_or_ge sqr n with h | h
    · obtain ⟨h1, h2⟩ := HQU.out (Nat.ne_of_lt h)
      exact .inr ⟨h1, h2, by rw [hczz]; exact cmpZ_lt (Int.ofNat_lt.2 h)⟩
    · have he : sqr = n := Nat.le_antisymm (by rw [hsqr]; exact hrn) h
      obtain ⟨h1, h2⟩ := HQE.out he
      exact .inl ⟨h1, h2, by rw [hczz, he]; exact cmpZ_eq rfl⟩)
  clear HQU HQE
  obtain ⟨x2, hx2'⟩ : ∃ x2 : Int, x2 = 2 * ex := ⟨_, rfl⟩
  rw [← hx2'] at hw2 hdv
  have hwe : wrap64 ex = ex := by unfold wrap64; omega
  have hwk : par = true → (k0 : Int) + 1 = (K : Int) := fun h => by
    rcases hK with ⟨h1, _⟩ | ⟨_, h2⟩
    · rw [h1] at h; cases h
    · rw [h2]; exact (Int.natCast_succ k0).symm
  have hkk : par = false → k0 = K := fun h => by
    rcases hK with ⟨_, h2⟩ | ⟨h1, _⟩
    · exact h2.symm
    · rw [h1] at h; cases h
  have hqb : wrap64 (Int.tdiv x2 2) = ex := by rw [hdv, hwe]
  have hqa : par = false → wrap64 (Int.tdiv y 2) = ex := fun h => by
    rw [show y = x2 by rw [hy, hkk h, hx2', hex], hqb]
  clear hdv hwe
  clear p1 p3 p4 hx hW0 hB IX hl hx1 hx2 hm0 hb hb0 hb1 hb2 hk0' hy hev hex hn hn0 hln hr hsp hbig hr0 hlr hlrr hq hz hq0 hq2 hz2 hrn hlq hf hff htq hlo hdq sgn1 sgr1 hrr0 hr2 hlr2 hu hue hok hsqr hczz hx2' hwk1 hoq hTm hK
  have hKb2 : (K : Int) ≤ 121 := by omega
  clear hKb
  obtain ⟨k1, k2, k3⟩ := SS.out _ hT
  go_enter Tryz.func56, Tryz.ntmps56
  go_wp2_with fail
  rw [HW0.out]
  refine HLE.out.mono ?_
  rintro e w1 ⟨rfl, hb1⟩
  clear k1 k2 k3
  obtain ⟨k1, k2, k3⟩ := SS.out _ hb1
  cases par
  · replace hqa := hqa rfl
    obtain rfl := hkk rfl
    clear hkk hwk hqb
    go_wp2_with fail
    refine (HLF.out _ hb1).mono ?_
    rintro e w2 ⟨a2, d2, rfl, ho2, hb2⟩
    clear k1 k2 k3 hb1
    have hbox2 := BoxAt.new w2 60 #[.int .i64 1, .slice a2 (lim n).length d2]
    go_wp2_with fail
    refine (HRT.out _ _ _ (below_alloc hb2 _) (ho2.alloc _)).mono ?_
    rintro e w3 ⟨a3, d3, rfl, hc3, ho3, hb3, hbb⟩
    have hb2s := hb2.size
    have hbx := hbox2.below hbb
    have ho2' := (ho2.alloc (.cells #[.int .i64 1, .slice a2 (lim n).length d2] 60)).below hbb
    have hszb := hbb.size
    simp only [size_al] at hszb
    obtain ⟨W1, hW1⟩ : ∃ W1 : World, w3.alloc (.cells #[.int .i64 1, .slice a3 (lim r).length d3] 60) = W1 := ⟨_, rfl⟩
    have q1 := BoxAt.new w3 60 #[.int .i64 1, .slice a3 (lim r).length d3]
    have q2 := hbx.alloc (.cells #[.int .i64 1, .slice a3 (lim r).length d3] 60)
    have q3 := ho3.alloc (.cells #[.int .i64 1, .slice a3 (lim r).length d3] 60)
    have q4 := ho2'.alloc (.cells #[.int .i64 1, .slice a3 (lim r).length d3] 60)
    have q5 := below_alloc hb3 (.cells #[.int .i64 1, .slice a3 (lim r).length d3] 60)
    have q6 : W1.heap.size = w3.heap.size + 1 := by rw [← hW1]; simp
    rw [hW1] at q1 q2 q3 q4 q5
    have HW1 := Lib.hid hW1
    have HB1 := Lib.hid q5
    have HS1 := Lib.hid (show w2.heap.size < w3.heap.size ∧ W1.heap.size = w3.heap.size + 1 ∧ W0.heap.size ≤ w2.heap.size from ⟨by omega, q6, hb2s⟩)
    have HB2 := Lib.hid (show BoxAt W1 w3.heap.size 60 #[.int .i64 1, .slice a3 (lim r).length d3] from q1)
    have SV := Lib.hid (show ∀ W, Below W1.heap.size W1 W → (W.cell? ⟨w3.heap.size, 0, none⟩ = some (.int .i64 1) ∧ W.cell? ⟨w3.heap.size, 1, none⟩ = some (.slice a3 (lim r).length d3) ∧ W.cell? ⟨w2.heap.size, 0, none⟩ = some (.int .i64 1) ∧ W.cell? ⟨w2.heap.size, 1, none⟩ = some (.slice a2 (lim n).length d2)) from
      fun W hW => ⟨(q1.below hW).cell 0, (q1.below hW).cell 1, (q2.below hW).cell 0, (q2.below hW).cell 1⟩)
    have HML1 := Lib.hid (show ∀ W, Below W1.heap.size W1 W → Calls Tryz.prog 82 #[.agg #[.int .i64 1, .slice a3 (lim r).length d3], .agg #[.int .i64 1, .slice a3 (lim r).length d3]] W fun e w' => ∃ b d, e = .returned (.agg #[.int .i64 1, .slice b (lim sqr).length d]) ∧ Own w' W0.heap.size b (lim sqr) ∧ Below W1.heap.size W1 w' from
      fun W hW => (HML.out _ _ W (q3.below hW)).mono fun e w' ⟨a, c, he, ho, hb⟩ => ⟨a, c, he, ho.mono (by have := hW.size; have := q5.size; omega), hW.trans (hb.mono hW.size)⟩)
    have HCM1 := Lib.hid (show ∀ (a : Option Addr) (c : Nat) W, Below W1.heap.size W1 W → Own W W0.heap.size a (lim sqr) → Calls Tryz.prog 81 #[.agg #[.int .i64 1, .slice a (lim sqr).length c], .agg #[.int .i64 1, .slice a2 (lim n).length d2]] W fun e w' => e = .returned (.int .i64 cz) ∧ Below W1.heap.size W1 w' from
      fun a c W hW ho => (HCM.out _ _ _ _ W ho (q4.below hW)).mono fun e w' ⟨he, hb⟩ => ⟨he, hW.trans (hb.mono hW.size)⟩)
    have HL21 := Lib.hid (show ∀ W, Below W1.heap.size W1 W → Calls Tryz.prog 79 #[.agg #[.int .i64 1, .slice a3 (lim r).length d3], .int .i64 1] W fun e w' => ∃ a c, e = .returned (.agg #[.int .i64 1, .slice a (lim r2).length c]) ∧ (lim r2).length ≤ c ∧ Own w' W0.heap.size a (lim r2) ∧ Below W1.heap.size W1 w' from
      fun W hW => (HL2.out _ _ W (q3.below hW)).mono fun e w' ⟨a, c, he, hc, ho, hb⟩ => ⟨a, c, he, hc, ho.mono (by have := hW.size; have := q5.size; omega), hW.trans (hb.mono hW.size)⟩)
    have HOF1 := Lib.hid (show ∀ W, Below W1.heap.size W1 W → Calls Tryz.prog 84 #[.int .i64 1] W fun e w' => ∃ b d, e = .returned (.agg #[.int .i64 1, .slice b 1 d]) ∧ 1 ≤ d ∧ Own w' W0.heap.size b [1] ∧ Below W.heap.size W w' ∧ Below W1.heap.size W1 w' from
      fun W hW => (HOF.out W).mono fun e w' ⟨b, d, he, hd, ho, hb⟩ => ⟨b, d, he, hd, ho.mono (by have := hW.size; have := q5.size; omega), hb, hW.trans (hb.mono hW.size)⟩)
    have HAD1 := Lib.hid (show ∀ (a b : Option Addr) (c d : Nat) W, Below W1.heap.size W1 W → Own W W0.heap.size a (lim r2) → (lim r2).length ≤ c → Own W W0.heap.size b [1] → 1 ≤ d → Calls Tryz.prog 83 #[.agg #[.int .i64 1, .slice a (lim r2).length c], .agg #[.int .i64 1, .slice b 1 d]] W fun e w' => ∃ x c, e = .returned (.agg #[.int .i64 1, .slice x (lim (r2 + 1)).length c]) ∧ Own w' W1.heap.size x (lim (r2 + 1)) ∧ Below W1.heap.size W1 w' from
      fun a b c d W hW ho hc hp hd => (HAD.out _ _ _ _ W ho hc hp hd).mono fun e w' ⟨x, c, he, _, ho, hb⟩ => ⟨x, c, he, ho.mono hW.size, hW.trans (hb.mono hW.size)⟩)
    have HQ3 := Lib.hid q3
    have hV : Below W1.heap.size W1 W1 := Below.refl _ _
    have hVd : Below W1.heap.size W1 W1.drew := hV.drew
    obtain ⟨k1, k2, k3⟩ := SS.out _ HB1.out
    clear q1 q2 q3 q4 q5 q6 hbx ho2' hszb hbox2 hb2 ho2 hbb ho3 hb3 hW1 hb2s hc3
    clear HML HCM HL2 HOF HAD HRT HLF HLE
    have hWW := HW1.out
    go_wp2_with fail
    clear hWW k1 k2 k3
    try clear hk0
    try clear hbb hbb2
    try clear hwy hwy2
    try clear hw2
    rw [hqa]
    clear hqa
    try clear hpar
    try clear hKb2
    try clear hwk
    go_region_held3 (fun W => W.cell? ⟨w3.heap.size, 0, none⟩ = some (.int .i64 1) ∧ W.cell? ⟨w3.heap.size, 1, none⟩ = some (.slice a3 (lim r).length d3) ∧ W.cell? ⟨w2.heap.size, 0, none⟩ = some (.int .i64 1) ∧ W.cell? ⟨w2.heap.size, 1, none⟩ = some (.slice a2 (lim n).length d2))
      (exact SV.out _ (by assumption))
      (first
      | (go_at_call 82; with_reducible refine (HML1.out _ (by assumption)).mono ?_; rintro e w4 ⟨a4, d4, rfl, ho4, hb4⟩)
      | (go_at_call 81; with_reducible refine (HCM1.out _ _ _ (by assumption) (by assumption)).mono ?_; rintro e w5 ⟨rfl, hb5⟩))
    all_goals
      have hsz5 := hb5.size
      clear ho4 hb4
      rcases HCZ.out with ⟨rfl, rfl, rfl⟩ | ⟨rfl, rfl, rfl⟩
      · clear HCZ
        have hbe := HB1.out.trans (hb5.mono HB1.out.size)
        have howe := HQ3.out.below hb5
        obtain ⟨y1, y2, y3, y4⟩ := SV.out _ hb5
        go_wp2_with fail
        refine (HMK.out _ _ _ hbe howe).mono ?_
        rintro e w8 ⟨a8, c8, rfl, hc8, ho8, hb8⟩
        clear howe hbe hb5 y1 y2 y3 y4
        go_wp2_with fail
        refine (HRD.out _ _ _ hb8 hc8 ho8).mono ?_
        rintro e w9 ⟨rfl, hb9⟩
        have HB9 := Lib.hid hb9
        clear hc8 ho8 hb8 hb9
        go_wp2_with fail
        go_ret2
        exact HEND.out _ HB9.out
      · clear HCZ
        obtain ⟨y1, y2, y3, y4⟩ := SV.out _ hb5
        go_wp2_with fail
        refine (HL21.out _ hb5).mono ?_
        rintro e w6 ⟨a6, c6, rfl, hc6, ho6, hb6⟩
        clear y1 y2 y3 y4
        go_wp2_with fail
        refine (HOF1.out _ hb6).mono ?_
        rintro e w7 ⟨a7, d7, rfl, hd7, ho7, hbb, hb7⟩
        replace ho6 := ho6.below hbb
        clear hbb
        go_wp2_with fail
        refine (HAD1.out _ _ _ _ _ hb7 ho6 hc6 ho7 hd7).mono ?_
        rintro e w8 ⟨x8, d8, rfl, ho8, hb8⟩
        have hx8 := HB2.out.below hb8
        obtain ⟨z1, z2, z3, z4⟩ := hx8.two
        have hbe := below_set2 (HB1.out.trans (hb8.mono HB1.out.size)) (show W0.heap.size ≤ w3.heap.size by have := HS1.out; omega) (.int .i64 1) (.slice x8 (lim (r2 + 1)).length d8)
        have howe := ((ho8.setFar (p := ⟨w3.heap.size, 0, none⟩) (by have := HS1.out; show w3.heap.size < _; omega) (.int .i64 1)).setFar (p := ⟨w3.heap.size, 1, none⟩) (by have := HS1.out; show w3.heap.size < _; omega) (.slice x8 (lim (r2 + 1)).length d8)).mono HB1.out.size
        clear hb5 hb6 ho6 hc6 hb7 ho7 hd7 ho8 hb8
        go_wp2_with fail
        refine (HMK.out _ _ _ hbe howe).mono ?_
        rintro e w9 ⟨a9, c9, rfl, hc9, ho9, hb9⟩
        clear howe hbe hx8 z1 z2 z3 z4
        go_wp2_with fail
        refine (HRD.out _ _ _ hb9 hc9 ho9).mono ?_
        rintro e w10 ⟨rfl, hb10⟩
        have HB9 := Lib.hid hb10
        clear hc9 ho9 hb9 hb10
        go_wp2_with fail
        go_ret2
        exact HEND.out _ HB9.out
  · replace hwk := hwk rfl
    clear hkk hqa
    go_wp2_with fail
    refine (HLF.out _ hb1).mono ?_
    rintro e w2 ⟨a2, d2, rfl, ho2, hb2⟩
    clear k1 k2 k3 hb1
    have hbox2 := BoxAt.new w2 60 #[.int .i64 1, .slice a2 (lim n).length d2]
    go_wp2_with fail
    refine (HRT.out _ _ _ (below_alloc hb2 _) (ho2.alloc _)).mono ?_
    rintro e w3 ⟨a3, d3, rfl, hc3, ho3, hb3, hbb⟩
    have hb2s := hb2.size
    have hbx := hbox2.below hbb
    have ho2' := (ho2.alloc (.cells #[.int .i64 1, .slice a2 (lim n).length d2] 60)).below hbb
    have hszb := hbb.size
    simp only [size_al] at hszb
    obtain ⟨W1, hW1⟩ : ∃ W1 : World, w3.alloc (.cells #[.int .i64 1, .slice a3 (lim r).length d3] 60) = W1 := ⟨_, rfl⟩
    have q1 := BoxAt.new w3 60 #[.int .i64 1, .slice a3 (lim r).length d3]
    have q2 := hbx.alloc (.cells #[.int .i64 1, .slice a3 (lim r).length d3] 60)
    have q3 := ho3.alloc (.cells #[.int .i64 1, .slice a3 (lim r).length d3] 60)
    have q4 := ho2'.alloc (.cells #[.int .i64 1, .slice a3 (lim r).length d3] 60)
    have q5 := below_alloc hb3 (.cells #[.int .i64 1, .slice a3 (lim r).length d3] 60)
    have q6 : W1.heap.size = w3.heap.size + 1 := by rw [← hW1]; simp
    rw [hW1] at q1 q2 q3 q4 q5
    have HW1 := Lib.hid hW1
    have HB1 := Lib.hid q5
    have HS1 := Lib.hid (show w2.heap.size < w3.heap.size ∧ W1.heap.size = w3.heap.size + 1 ∧ W0.heap.size ≤ w2.heap.size from ⟨by omega, q6, hb2s⟩)
    have HB2 := Lib.hid (show BoxAt W1 w3.heap.size 60 #[.int .i64 1, .slice a3 (lim r).length d3] from q1)
    have SV := Lib.hid (show ∀ W, Below W1.heap.size W1 W → (W.cell? ⟨w3.heap.size, 0, none⟩ = some (.int .i64 1) ∧ W.cell? ⟨w3.heap.size, 1, none⟩ = some (.slice a3 (lim r).length d3) ∧ W.cell? ⟨w2.heap.size, 0, none⟩ = some (.int .i64 1) ∧ W.cell? ⟨w2.heap.size, 1, none⟩ = some (.slice a2 (lim n).length d2)) from
      fun W hW => ⟨(q1.below hW).cell 0, (q1.below hW).cell 1, (q2.below hW).cell 0, (q2.below hW).cell 1⟩)
    have HML1 := Lib.hid (show ∀ W, Below W1.heap.size W1 W → Calls Tryz.prog 82 #[.agg #[.int .i64 1, .slice a3 (lim r).length d3], .agg #[.int .i64 1, .slice a3 (lim r).length d3]] W fun e w' => ∃ b d, e = .returned (.agg #[.int .i64 1, .slice b (lim sqr).length d]) ∧ Own w' W0.heap.size b (lim sqr) ∧ Below W1.heap.size W1 w' from
      fun W hW => (HML.out _ _ W (q3.below hW)).mono fun e w' ⟨a, c, he, ho, hb⟩ => ⟨a, c, he, ho.mono (by have := hW.size; have := q5.size; omega), hW.trans (hb.mono hW.size)⟩)
    have HCM1 := Lib.hid (show ∀ (a : Option Addr) (c : Nat) W, Below W1.heap.size W1 W → Own W W0.heap.size a (lim sqr) → Calls Tryz.prog 81 #[.agg #[.int .i64 1, .slice a (lim sqr).length c], .agg #[.int .i64 1, .slice a2 (lim n).length d2]] W fun e w' => e = .returned (.int .i64 cz) ∧ Below W1.heap.size W1 w' from
      fun a c W hW ho => (HCM.out _ _ _ _ W ho (q4.below hW)).mono fun e w' ⟨he, hb⟩ => ⟨he, hW.trans (hb.mono hW.size)⟩)
    have HL21 := Lib.hid (show ∀ W, Below W1.heap.size W1 W → Calls Tryz.prog 79 #[.agg #[.int .i64 1, .slice a3 (lim r).length d3], .int .i64 1] W fun e w' => ∃ a c, e = .returned (.agg #[.int .i64 1, .slice a (lim r2).length c]) ∧ (lim r2).length ≤ c ∧ Own w' W0.heap.size a (lim r2) ∧ Below W1.heap.size W1 w' from
      fun W hW => (HL2.out _ _ W (q3.below hW)).mono fun e w' ⟨a, c, he, hc, ho, hb⟩ => ⟨a, c, he, hc, ho.mono (by have := hW.size; have := q5.size; omega), hW.trans (hb.mono hW.size)⟩)
    have HOF1 := Lib.hid (show ∀ W, Below W1.heap.size W1 W → Calls Tryz.prog 84 #[.int .i64 1] W fun e w' => ∃ b d, e = .returned (.agg #[.int .i64 1, .slice b 1 d]) ∧ 1 ≤ d ∧ Own w' W0.heap.size b [1] ∧ Below W.heap.size W w' ∧ Below W1.heap.size W1 w' from
      fun W hW => (HOF.out W).mono fun e w' ⟨b, d, he, hd, ho, hb⟩ => ⟨b, d, he, hd, ho.mono (by have := hW.size; have := q5.size; omega), hb, hW.trans (hb.mono hW.size)⟩)
    have HAD1 := Lib.hid (show ∀ (a b : Option Addr) (c d : Nat) W, Below W1.heap.size W1 W → Own W W0.heap.size a (lim r2) → (lim r2).length ≤ c → Own W W0.heap.size b [1] → 1 ≤ d → Calls Tryz.prog 83 #[.agg #[.int .i64 1, .slice a (lim r2).length c], .agg #[.int .i64 1, .slice b 1 d]] W fun e w' => ∃ x c, e = .returned (.agg #[.int .i64 1, .slice x (lim (r2 + 1)).length c]) ∧ Own w' W1.heap.size x (lim (r2 + 1)) ∧ Below W1.heap.size W1 w' from
      fun a b c d W hW ho hc hp hd => (HAD.out _ _ _ _ W ho hc hp hd).mono fun e w' ⟨x, c, he, _, ho, hb⟩ => ⟨x, c, he, ho.mono hW.size, hW.trans (hb.mono hW.size)⟩)
    have HQ3 := Lib.hid q3
    have hV : Below W1.heap.size W1 W1 := Below.refl _ _
    have hVd : Below W1.heap.size W1 W1.drew := hV.drew
    obtain ⟨k1, k2, k3⟩ := SS.out _ HB1.out
    clear q1 q2 q3 q4 q5 q6 hbx ho2' hszb hbox2 hb2 ho2 hbb ho3 hb3 hW1 hb2s hc3
    clear HML HCM HL2 HOF HAD HRT HLF HLE
    have hWW := HW1.out
    go_wp2_with fail
    clear hWW k1 k2 k3
    try clear hk0
    try clear hbb hbb2
    try clear hwy hwy2
    try clear hw2
    rw [hqb]
    clear hqb
    try clear hpar
    try clear hKb2
    try clear hwk
    go_region_held3 (fun W => W.cell? ⟨w3.heap.size, 0, none⟩ = some (.int .i64 1) ∧ W.cell? ⟨w3.heap.size, 1, none⟩ = some (.slice a3 (lim r).length d3) ∧ W.cell? ⟨w2.heap.size, 0, none⟩ = some (.int .i64 1) ∧ W.cell? ⟨w2.heap.size, 1, none⟩ = some (.slice a2 (lim n).length d2))
      (exact SV.out _ (by assumption))
      (first
      | (go_at_call 82; with_reducible refine (HML1.out _ (by assumption)).mono ?_; rintro e w4 ⟨a4, d4, rfl, ho4, hb4⟩)
      | (go_at_call 81; with_reducible refine (HCM1.out _ _ _ (by assumption) (by assumption)).mono ?_; rintro e w5 ⟨rfl, hb5⟩))
    all_goals
      have hsz5 := hb5.size
      clear ho4 hb4
      rcases HCZ.out with ⟨rfl, rfl, rfl⟩ | ⟨rfl, rfl, rfl⟩
      · clear HCZ
        have hbe := HB1.out.trans (hb5.mono HB1.out.size)
        have howe := HQ3.out.below hb5
        obtain ⟨y1, y2, y3, y4⟩ := SV.out _ hb5
        go_wp2_with fail
        refine (HMK.out _ _ _ hbe howe).mono ?_
        rintro e w8 ⟨a8, c8, rfl, hc8, ho8, hb8⟩
        clear howe hbe hb5 y1 y2 y3 y4
        go_wp2_with fail
        refine (HRD.out _ _ _ hb8 hc8 ho8).mono ?_
        rintro e w9 ⟨rfl, hb9⟩
        have HB9 := Lib.hid hb9
        clear hc8 ho8 hb8 hb9
        go_wp2_with fail
        go_ret2
        exact HEND.out _ HB9.out
      · clear HCZ
        obtain ⟨y1, y2, y3, y4⟩ := SV.out _ hb5
        go_wp2_with fail
        refine (HL21.out _ hb5).mono ?_
        rintro e w6 ⟨a6, c6, rfl, hc6, ho6, hb6⟩
        clear y1 y2 y3 y4
        go_wp2_with fail
        refine (HOF1.out _ hb6).mono ?_
        rintro e w7 ⟨a7, d7, rfl, hd7, ho7, hbb, hb7⟩
        replace ho6 := ho6.below hbb
        clear hbb
        go_wp2_with fail
        refine (HAD1.out _ _ _ _ _ hb7 ho6 hc6 ho7 hd7).mono ?_
        rintro e w8 ⟨x8, d8, rfl, ho8, hb8⟩
        have hx8 := HB2.out.below hb8
        obtain ⟨z1, z2, z3, z4⟩ := hx8.two
        have hbe := below_set2 (HB1.out.trans (hb8.mono HB1.out.size)) (show W0.heap.size ≤ w3.heap.size by have := HS1.out; omega) (.int .i64 1) (.slice x8 (lim (r2 + 1)).length d8)
        have howe := ((ho8.setFar (p := ⟨w3.heap.size, 0, none⟩) (by have := HS1.out; show w3.heap.size < _; omega) (.int .i64 1)).setFar (p := ⟨w3.heap.size, 1, none⟩) (by have := HS1.out; show w3.heap.size < _; omega) (.slice x8 (lim (r2 + 1)).length d8)).mono HB1.out.size
        clear hb5 hb6 ho6 hc6 hb7 ho7 hd7 ho8 hb8
        go_wp2_with fail
        refine (HMK.out _ _ _ hbe howe).mono ?_
        rintro e w9 ⟨a9, c9, rfl, hc9, ho9, hb9⟩
        clear howe hbe hx8 z1 z2 z3 z4
        go_wp2_with fail
        refine (HRD.out _ _ _ hb9 hc9 ho9).mono ?_
        rintro e w10 ⟨rfl, hb10⟩
        have HB9 := Lib.hid hb10
        clear hc9 ho9 hb9 hb10
        go_wp2_with fail
        go_ret2
        exact HEND.out _ HB9.out

open Go Go.RowKit Ieee

theorem r512 : rawRung f64 1 ((512 : Nat) : Int) < 0x7ff0000000000000 := by decide +kernel
theorem fit_lt {m : Nat} {i : Int} (h : Fit m i) (hm : m ≠ 0) : i < 1024 ∧ m < 2 ^ (1024 - i).toNat := by
  obtain ⟨h1, h2, h3⟩ := h
  have hi : i < 1024 := by
    rcases Int.lt_or_le i 1024 with h | h
    · exact h
    · exfalso
      have h4 : 2 ^ 53 ≤ 2 ^ (i - 971).toNat := Nat.pow_le_pow_right (by omega) (by omega)
      have h5 := Nat.mul_le_mul (show 1 ≤ m by omega) h4
      omega
  refine ⟨hi, ?_⟩
  rcases Int.lt_or_le i 971 with h | h
  · exact Nat.lt_of_lt_of_le h1 (Nat.pow_le_pow_right (by omega) (by omega))
  · have e : (53 : Nat) = (1024 - i).toNat + (i - 971).toNat := by omega
    have h4 : m * 2 ^ (i - 971).toNat < 2 ^ (1024 - i).toNat * 2 ^ (i - 971).toNat := by
      rw [← Nat.pow_add, ← e]
      exact h3
    exact Nat.lt_of_mul_lt_mul_right h4
theorem isF_sq {s : Bool} {m : Nat} {i : Int} (h : Fit m i) (hs : (s && decide (m ≠ 0)) = false) : isF .f64 (sq (fw s m i)) = true := by
  by_cases hm : m = 0
  · subst hm
    have h4 : sq (fw s 0 i) = fw s 0 i := by unfold sq; rw [sqrt_zero]; rfl
    rw [h4]
    exact isF_fw s h
  · obtain rfl : s = false := by cases s <;> simp_all
    obtain ⟨c, r, e, e1, e2, e3, e4⟩ := sqrt_fw h hm
    have h4 : sq (fw false m i) = fw false (stk (m * 2 ^ c) r) (e - 1) := by unfold sq; rw [e1]; rfl
    obtain ⟨h5, h6⟩ := fit_lt h hm
    have hlt : m * 2 ^ c < 2 ^ (2 * ((512 : Nat) - e).toNat) := by
      rw [show 2 * (((512 : Nat) : Int) - e).toNat = (1024 - i).toNat + c by omega, Nat.pow_add]
      exact Nat.mul_lt_mul_of_pos_right h6 (Nat.pow_pos (by omega))
    have hs := stk_lt (B := 512) e3 (by omega) hlt
    have hr := rungs_lt f64 (B := 512) (q := e - 1) (by omega) hs
    rw [h4, isF_rung]
    have := r512
    exact decide_eq_true (by omega)
theorem isF_rtF {x : Nat} (hx : x < 2 ^ 64) : isF .f64 (rtF x).1 = true := by
  cases hf : isF .f64 x
  · rw [rtF_no hf]; decide +kernel
  · cases hl : (FloatKind.f64.format.order x 0 == some .lt)
    · rw [rtF_yes hf hl]
      obtain ⟨s, m, i, he, hF, hC⟩ := fin_fw hx hf
      rw [he]
      refine isF_sq hF ?_
      rw [← lt0_fw s hF, ← he]
      exact hl
    · rw [rtF_lt hf hl]; decide +kernel

set_option maxHeartbeats 1000000 in
theorem sL08Float (x : Nat) (hx : x < 2 ^ 64) (hf : isF .f64 x = true) (hl : (FloatKind.f64.format.order x 0 == some .lt) = false) (w : World) : Calls Tryz.prog 35 #[.float .f64 x] w fun e w' => e = .returned (.float .f64 (sq x)) ∧ Below w.heap.size w w' := by
  have hT : Below w.heap.size w w := Below.refl _ _
  obtain ⟨s, m, i, he, hF, hC⟩ := fin_fw hx hf
  have hz := zero_fw s hF
  by_cases hm : m = 0
  · subst hm
    rw [decide_eq_true rfl, ← he] at hz
    have h4 : sq x = x := by rw [he]; unfold sq; rw [sqrt_zero]; rfl
    rw [h4]
    clear he hF hC h4 hl hf hx
    go_enter Tryz.func35, Tryz.ntmps35
    go_wp2_with fail
    go_ret
    exact ⟨rfl, hT⟩
  · rw [decide_eq_false hm, ← he] at hz
    obtain rfl : s = false := by
      rw [he, lt0_fw s hF] at hl
      cases s
      · rfl
      · simp [hm] at hl
    have htw : tw m ≤ 53 := by
      have h1 : 2 ^ tw m ≤ m := by
        have := od_twk hm
        have h3 : 1 ≤ od m := by
          rcases Nat.eq_zero_or_pos (od m) with h | h
          · rw [h, Nat.zero_mul] at this; omega
          · exact h
        have h2 := Nat.mul_le_mul_right (2 ^ tw m) h3
        omega
      have := hF.1
      have h2 : tw m < 53 := (Nat.pow_lt_pow_iff_right (a := 2) (by omega)).1 (by omega)
      omega
    obtain ⟨u, hu⟩ : ∃ u, u = od m := ⟨_, rfl⟩
    obtain ⟨ue, hue⟩ : ∃ ue : Int, ue = i + (tw m : Int) := ⟨_, rfl⟩
    have hot := od_twk hm
    rw [← hu] at hot
    have hu0 : u ≠ 0 := by
      rintro rfl
      rw [Nat.zero_mul] at hot
      exact hm hot.symm
    have hlu : (lim u).length ≤ 3 := by
      have := redZ_lenF false (m := m) i hF.1
      unfold redZ at this
      rw [show (sg false m).natAbs = m from sgf_abs false m, redS_pos hm, ← hu] at this
      exact this
    have hfb := fit_lt hF hm
    have hfl := hF.2.1
    have HOF := Lib.hid (show Calls Tryz.prog 57 #[.float .f64 x] w fun e w' => ∃ a c, e = .returned (.agg #[.int .i64 1, .slice a (lim u).length c, .int .i64 ue]) ∧ Own w' w.heap.size a (lim u) ∧ Below w.heap.size w w' from by
      have := sL03Of false m i hF hC w
      rw [← he] at this
      unfold redZ at this
      have hsg : (sg false m).sign = 1 := by
        show ((m : Int)).sign = 1
        exact Int.sign_eq_one_of_pos (by omega)
      rw [show (sg false m).natAbs = m from sgf_abs false m, hsg, redS_pos hm, ← hu, ← hue] at this
      exact this.mono fun e w' ⟨a, c, he, _, ho, hb⟩ => ⟨a, c, he, ho, hb⟩)
    have HRT := Lib.hid (show ∀ (a : Option Addr) (c : Nat) W, Below w.heap.size w W → Own W w.heap.size a (lim u) → Calls Tryz.prog 56 #[.agg #[.int .i64 1, .slice a (lim u).length c, .int .i64 ue]] W fun e w' => ∃ ok, e = .returned (.tuple #[.float .f64 (sq x), .bool ok]) ∧ Below w.heap.size w w' from
      fun a c W hW ho => (sRt8 a u c ue W _ (Nat.le_refl _) ho.ints hu0 (by omega) (by omega) (by omega)).mono fun e w' ⟨K, r, ex, ok, g1, g2, g3, _, g5, g6⟩ => by
        refine ⟨ok, ?_, hW.trans (g6.mono hW.size)⟩
        rw [g5]
        obtain ⟨c', r', e', e1, e2, e3, e4⟩ := sqrt_fw hF hm
        have h4 : sq x = fw false (stk (m * 2 ^ c') r') (e' - 1) := by rw [he]; unfold sq; rw [e1]; rfl
        have h5 : m * 2 ^ c' = u * 2 ^ (tw m + c') := by rw [Nat.pow_add, ← Nat.mul_assoc, hot]
        rw [h5] at h4 e3
        have h6 := root_same (x := ue) (a1 := K) (a2 := tw m + c') (e1 := ex) (e2 := e') g1 (by omega) g2 e3 g3 e4
        rw [h4]
        unfold fw rungOf
        rw [h6])
    obtain ⟨y, hy⟩ : ∃ y, sq x = y := ⟨_, rfl⟩
    rw [hy] at HRT ⊢
    clear he hF hC hl hf hx hy hm htw hu hue hot hu0 hlu hfb hfl
    go_enter Tryz.func35, Tryz.ntmps35
    go_wp2_with fail
    refine HOF.out.mono ?_
    rintro e w1 ⟨a1, c1, rfl, ho1, hb1⟩
    go_wp2_with fail
    refine (HRT.out _ _ _ hb1 ho1).mono ?_
    rintro e w2 ⟨ok, rfl, hb2⟩
    go_wp2_with fail
    go_ret
    exact ⟨rfl, hb2⟩

set_option maxHeartbeats 1000000 in
theorem sRootOfFloat (x : Nat) (hx : x < 2 ^ 64) (w : World) : Calls Tryz.prog 7 #[.float .f64 x] w fun e w' => e = .returned (.tuple #[.float .f64 (rtF x).1, .int .i64 (rtF x).2]) ∧ Below w.heap.size w w' := by
  have hT : Below w.heap.size w w := Below.refl _ _
  have HRE := Lib.hid fun W => sReal_any x W
  cases hf : isF .f64 x
  · rw [hf] at HRE
    rw [rtF_no hf]
    clear hx hf
    go_enter Tryz.func7, Tryz.ntmps7
    go_wp2_with fail
    refine (HRE.out _).mono ?_
    rintro e w1 ⟨n, rfl, rfl⟩
    go_wp2_with fail
    go_ret2
    exact ⟨rfl, below_drewN hT n⟩
  · rw [hf] at HRE
    cases hl : (FloatKind.f64.format.order x 0 == some .lt)
    · rw [rtF_yes hf hl]
      have HL := Lib.hid fun W => sL08Float x hx hf hl W
      obtain ⟨y, hy⟩ : ∃ y, sq x = y := ⟨_, rfl⟩
      rw [hy] at HL ⊢
      clear hx hf hy
      go_enter Tryz.func7, Tryz.ntmps7
      go_wp2_with fail
      refine (HRE.out _).mono ?_
      rintro e w1 ⟨n, rfl, rfl⟩
      go_wp2_with fail
      refine (HL.out _).mono ?_
      rintro e w2 ⟨rfl, hb⟩
      have hb2 := (below_drewN hT n).trans hb
      clear hb
      go_wp2_with fail
      go_ret2
      exact ⟨rfl, hb2⟩
    · rw [rtF_lt hf hl]
      clear hx hf
      go_enter Tryz.func7, Tryz.ntmps7
      go_wp2_with fail
      refine (HRE.out _).mono ?_
      rintro e w1 ⟨n, rfl, rfl⟩
      go_wp2_with fail
      go_ret2
      exact ⟨rfl, below_drewN hT n⟩

theorem lt0N {x : Nat} {s : Bool} {m : Nat} {i : Int} (h : FloatKind.f32.format.read x = .number s m i) : (FloatKind.f32.format.order x 0 == some .lt) = (s && decide (m ≠ 0)) := by
  have h0 : FloatKind.f32.format.read 0 = .number false 0 (-149) := by decide +kernel
  have h1 : FloatKind.f32.format.order x 0 = some (compare (signed s m (i - min i (-149)).toNat) (signed false 0 (-149 - min i (-149)).toNat)) := by
    unfold Format.order
    rw [h, h0]
    rfl
  rw [h1, signed_false, Nat.zero_mul, compare_int]
  have h2 := vz_sign (s := s) (m := m) (i := i) (d := min i (-149))
  unfold vz at h2
  by_cases hl : signed s m (i - min i (-149)).toNat < 0
  · obtain ⟨a, b⟩ := h2.1 hl
    rw [if_pos (by omega), a]; simp [b]
  · rw [if_neg (by omega)]
    have h3 : (s && decide (m ≠ 0)) = false := by
      cases s
      · rfl
      · by_cases hm : m = 0
        · simp [hm]
        · exact absurd (h2.2 ⟨rfl, hm⟩) hl
    rw [h3]
    split <;> rfl
theorem rtN_fin (x : Nat) : ∃ s m i, FloatKind.f32.format.read (rtN x).1 = .number s m i := by
  cases e : FloatKind.f32.format.read x with
  | number s m i =>
    obtain ⟨h1, h2, h3⟩ := read_fin_f32 e
    rw [rtN_num e]
    exact (nr_root h1 h2 h3).2
  | infinity s => rw [rtN_no (fun _ _ _ h => by rw [e] at h; cases h)]; exact ⟨false, 0, -149, by decide +kernel⟩
  | nan s f => rw [rtN_no (fun _ _ _ h => by rw [e] at h; cases h)]; exact ⟨false, 0, -149, by decide +kernel⟩
theorem conv_num (t : TypeId) (ht : (Tryz.prog.underlying t).isSome = true) {x : Nat} {s : Bool} {m : Nat} {i : Int} (h : FloatKind.f32.format.read x = .number s m i) (W : World) : (convert t 24 (.float .f32 x)).run Tryz.prog W = .ok (.float .f64 (fw s m i)) W := by
  obtain ⟨y, n, h1, h2, h3⟩ := conv_wide t ht x W
  rcases h3 with ⟨s', m', i', e1, _, _, _, e5, e6⟩ | ⟨e1, _⟩
  · rw [h] at e1
    cases e1
    rw [h1, e5, e6]
    rfl
  · exact absurd h (e1 s m i)

set_option maxHeartbeats 1000000 in
theorem sRootOfFloatNarrow (x : Nat) (w : World) : Calls Tryz.prog 11 #[.float .f32 x] w fun e w' => e = .returned (.tuple #[.float .f32 (rtN x).1, .int .i64 (rtN x).2]) ∧ Below w.heap.size w w' := by
  have hT : Below w.heap.size w w := Below.refl _ _
  have ht : (Tryz.prog.underlying 29).isSome = true := by rw [Tryz.underlying29]; rfl
  by_cases hnum : ∃ s m i, FloatKind.f32.format.read x = .number s m i
  · obtain ⟨s, m, i, e⟩ := hnum
    obtain ⟨g1, g2, g3⟩ := read_fin_f32 e
    have hF : Fit m i := Fit.of (by omega) (by omega) (by omega)
    have hc := conv_num 29 ht e
    have hlN := lt0N e
    have hl := lt0_fw s hF
    have hfx := isF_fw s hF
    have hlt := fw_lt s m i
    have hrt := nr_root (s := s) g1 g2 g3
    have hcv : ∀ W : World, (convert 24 29 (.float .f64 (rtF (fw s m i)).1)).run Tryz.prog W = .ok (.float .f32 (nr (rtF (fw s m i)).1)) W := fun W =>
      run_convert_float_float W _ _ _ _ _ _ (by rw [Tryz.underlying24]; rfl) Tryz.underlying29 hrt.1
    rw [rtN_num e]
    obtain ⟨y, hy⟩ : ∃ y, fw s m i = y := ⟨_, rfl⟩
    rw [hy] at hc hl hfx hlt hcv ⊢
    rw [← hl] at hlN
    have HRE := Lib.hid fun W => sReal_any y W
    rw [hfx] at HRE
    cases h : (FloatKind.f64.format.order y 0 == some .lt)
    · rw [h] at hlN
      rw [rtF_yes hfx h] at hcv ⊢
      have HL := Lib.hid fun W => sL08Float y hlt hfx h W
      obtain ⟨z, hz⟩ : ∃ z, sq y = z := ⟨_, rfl⟩
      rw [hz] at HL hcv ⊢
      simp only at hcv ⊢
      obtain ⟨v, hv⟩ : ∃ v, nr z = v := ⟨_, rfl⟩
      rw [hv] at hcv ⊢
      clear hz hv hrt hl hfx hlt hF g1 g2 g3 e hy h ht
      go_enter Tryz.func11, Tryz.ntmps11
      go_wp2_with fail
      refine (HRE.out _).mono ?_
      rintro e w1 ⟨n, rfl, rfl⟩
      go_wp2_with fail
      refine (HL.out _).mono ?_
      rintro e w2 ⟨rfl, hb⟩
      have hb2 := (below_drewN hT n).trans hb
      clear hb
      go_wp2_with fail
      go_ret2
      exact ⟨rfl, hb2⟩
    · rw [h] at hlN
      rw [rtF_lt hfx h] at hcv ⊢
      have h0 : nr 0 = 0 := by decide +kernel
      simp only [h0] at hcv ⊢
      clear h0 hrt hl hfx hlt hF g1 g2 g3 e hy h ht
      go_enter Tryz.func11, Tryz.ntmps11
      go_wp2_with fail
      refine (HRE.out _).mono ?_
      rintro e w1 ⟨n, rfl, rfl⟩
      go_wp2_with fail
      go_ret2
      exact ⟨rfl, below_drewN hT n⟩
  · have hno : ∀ s m i, FloatKind.f32.format.read x ≠ .number s m i := fun s m i h => hnum ⟨s, m, i, h⟩
    obtain ⟨y, n, h1, h2, h3⟩ := conv_wide 29 ht x w
    have hfy : isF .f64 y = false := by
      rcases h3 with ⟨s, m, i, e1, _⟩ | ⟨_, e2⟩
      · exact absurd e1 (hno s m i)
      · exact e2
    have HRE := Lib.hid fun W => sReal_any y W
    rw [hfy] at HRE
    rw [rtN_no hno]
    clear hno hnum h3 hfy h2 ht
    go_enter Tryz.func11, Tryz.ntmps11
    go_wp2_with fail
    refine (HRE.out _).mono ?_
    rintro e w1 ⟨k, rfl, rfl⟩
    have hb := below_drewN hT (n + k)
    go_wp2_with fail
    go_ret2
    exact ⟨rfl, hb⟩

end Go.Proofs.YtgppagmejhgmaaaGreatDoor
