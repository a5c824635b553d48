/-
  Contracts: bits.TrailingZeros64, twos of magnitudes and of the model's whole numbers, bits. Conditions: the limbs can be read; the library's table is as its initialiser lays it. Contract: shifts of whole numbers. Conditions: the limbs can be read; the library's table is as its initialiser lays it. Contract: a bit of a whole number, by the model. Conditions: the limbs can be read. Contract: the twos of a whole number, by the model. Conditions: the limbs can be read, the number is not 0.
-/
import Derived.Test.YtgppagmejhgmaaaGreatDoorVe
import Derived.Test.YtgppagmejhgmaaaGreatDoorOd
import Derived.Test.YtgppagmejhgmaaaGreatDoorUe
import Derived.Test.YtgppagmejhgmaaaGreatDoorVl
namespace Go.Proofs.YtgppagmejhgmaaaGreatDoor
set_option linter.unusedVariables false
open Go Go.RowKit

/-- The library's table in its variable. -/
def Tab (w : World) : Prop := ∀ j, j < 64 → w.cell? ⟨1, j, none⟩ = some (.int .u8 ((Lib.deBruijn64tab.getD j 0 : Nat) : Int))
theorem cell_lt {w : World} {p : Addr} {v : Value} (h : w.cell? p = some v) : p.block < w.heap.size := by
  unfold World.cell? at h
  split at h
  · rename_i e; exact (Array.getElem?_eq_some_iff.1 e).1
  · cases h
theorem Tab.lt {w : World} (h : Tab w) : 1 < w.heap.size := cell_lt (h 0 (by decide))
theorem Tab.below {w w' : World} (h : Tab w) (hb : Below w.heap.size w w') : Tab w' := fun j hj => (hb.cell (p := ⟨1, j, none⟩) h.lt).trans (h j hj)
theorem Tab.drewN {w : World} (h : Tab w) (n : Nat) : Tab (w.drewN n) := h
theorem Tab.alloc {w : World} (h : Tab w) (o : Obj) : Tab (w.alloc o) := h.below ((Below.refl _ _).alloc (Nat.le_refl _) _)

set_option maxHeartbeats 1000000 in
theorem tz_core (x k idx : Nat) (w : World) (hx0 : ((x : Int) == 0) = false)
    (key : IntKind.u64.wrap (bits BinOp.and IntKind.u64 (x : Int) (IntKind.u64.wrap (-(x : Int))) * 285870213051353865) / 288230376151711744 = (idx : Int))
    (hi : idx < 64) (hk : k < 64) (hcell : w.cell? ⟨1, idx, none⟩ = some (.int .u8 k)) :
    Calls Tryz.prog 125 #[.int .u64 x] w fun e w' => e = .returned (.int .i64 k) ∧ w = w' := by
  go_enter Tryz.func125, Tryz.ntmps125
  go_wp2_with (simp only [key])
  go_ret
  exact ⟨rfl, rfl⟩
theorem tz_key (x a : Nat) (hx : x < 18446744073709551616) (hx0 : x ≠ 0) (hlow : x &&& (18446744073709551616 - x) = a) :
    IntKind.u64.wrap (bits BinOp.and IntKind.u64 (x : Int) (IntKind.u64.wrap (-(x : Int))) * 285870213051353865) / 288230376151711744 = ((a * 285870213051353865 % 18446744073709551616 / 288230376151711744 : Nat) : Int) := by
  have e1 : IntKind.u64.wrap (-(x : Int)) = ((18446744073709551616 - x : Nat) : Int) := by rw [IntKind.wrap_u64]; omega
  rw [e1, u64_and_nat x _ hx (by omega), hlow, IntKind.wrap_u64]
  omega
theorem tzAll (x : Nat) (hx0 : x ≠ 0) (hx : x < 18446744073709551616) (w : World) (hT : Tab w) :
    Calls Tryz.prog 125 #[.int .u64 x] w fun e w' => e = .returned (.int .i64 (Lib.ctz 64 x)) ∧ w = w' := by
  obtain ⟨hlow, hk⟩ := Lib.lowest_bit 64 x hx0 hx
  obtain ⟨hi, htab⟩ := Lib.deBruijn64_at _ hk
  have hcell := hT _ hi
  rw [htab] at hcell
  exact tz_core x _ _ w (by simp; omega) (tz_key x _ hx hx0 hlow) hi hk hcell

theorem ctz_lt {x : Nat} (hx0 : x ≠ 0) (hx : x < 18446744073709551616) : Lib.ctz 64 x < 64 := (Lib.lowest_bit 64 x hx0 hx).2
theorem zeros_val {L : List Nat} (h : ∀ (j : Nat) (h : j < L.length), L[j] = 0) : val L = 0 := by
  have e : L = List.replicate L.length 0 := by
    apply List.ext_getElem
    · simp
    · intro i h1 h2; rw [List.getElem_replicate]; exact h i h1
  rw [e, val_zeros]
theorem tw_first {n k : Nat} (hk : k < (dig n).length) (hz : ∀ (j : Nat) (h : j < (dig n).length), j < k → (dig n)[j] = 0) (hx : (dig n)[k] ≠ 0) : tw n = 24 * k + Lib.ctz 64 (dig n)[k] := by
  have h1 := val_split (dig n) k (by omega)
  have h2 := val_drop (dig n) k hk
  have h3 : val ((dig n).take k) = 0 := zeros_val fun j h => by
    rw [List.getElem_take]
    rw [List.length_take] at h
    exact hz j (by omega) (by omega)
  rw [h3, h2, val_dig, Nat.zero_add] at h1
  have := tw_limb (x := (dig n)[k]) (r := val ((dig n).drop (k + 1))) (i := k) hx (small_dig n k hk)
  rwa [← h1] at this

set_option maxRecDepth 100000 in
set_option maxHeartbeats 2000000 in
theorem iTwos (a : Option Addr) (n c1 : Nat) (w : World) (B : Nat) (hx : Ints w B a (lim n)) (hl : (lim n).length ≤ 1048576) (hT : Tab w) :
    Calls Tryz.prog 99 #[.slice a (lim n).length c1] w fun e w' => e = .returned (.int .i64 (tw n)) ∧ w = w' := by
  have HX := Lib.hid hx
  have HT := Lib.hid hT
  have HLL := Lib.hid (lim_length n)
  have hl2 : ((lim n).length : Int) ≤ 1048576 := by omega
  clear hx hT
  go_enter Tryz.func99, Tryz.ntmps99
  go_wp2
  go_loop [7] (fun i => ∃ k : Nat, k ≤ (lim n).length ∧ i = .int .i64 (k : Int) ∧ Hid (∀ (j : Nat) (h : j < (dig n).length), j < k → (dig n)[j] = 0)) (fun i => (lim n).length - (intOf i).toNat)
  case atStart => exact ⟨0, Nat.zero_le _, rfl, fun j h hj => absurd hj (Nat.not_lt_zero _)⟩
  case round =>
    obtain ⟨k, hk, rfl, hz⟩ := hrel
    by_cases hkn : k < (lim n).length
    · have hkd : k < (dig n).length := by rw [← HLL.out]; exact hkn
      obtain ⟨b, o, ha, hcB, hcell⟩ := HX.out k hkn
      simp only [lim, ofN_at] at hcell
      subst ha
      have htw := tw_first hkd hz.out
      obtain ⟨x, hxk⟩ : ∃ x : Nat, x = (dig n)[k] := ⟨_, rfl⟩
      rw [← hxk] at hcell htw
      have hxb : x < 16777216 := by rw [hxk]; exact small_dig n k hkd
      have HXK := Lib.hid hxk
      have hkI : (k : Int) < ((lim n).length : Int) := by omega
      clear hxk
      by_cases hx0 : x = 0
      · subst hx0
        clear htw hxb
        go_wp2
        go_round
        case rel =>
          refine ⟨k + 1, by omega, by go_num, fun j h hj => ?_⟩
          by_cases hjk : j = k
          · subst hjk; exact HXK.out.symm
          · exact hz.out j h (by omega)
        case measure => simp [intOf]; omega
      · have hne : ((x : Int) != 0) = true := by simpa using hx0
        have hTW := Lib.hid (htw hx0)
        have HTZ := Lib.hid (tzAll x hx0 (by omega) w HT.out)
        have hct := ctz_lt hx0 (show x < 18446744073709551616 by omega)
        obtain ⟨q, hq⟩ : ∃ q, q = Lib.ctz 64 x := ⟨_, rfl⟩
        rw [← hq] at hTW HTZ hct
        have hxI : (x : Int) ≤ 16777215 := by omega
        have hqI : (q : Int) ≤ 64 := by omega
        clear htw hq hxb hx0 hct
        go_wp2_with (go_at_call 125; refine HTZ.out.mono ?_; rintro e w' ⟨rfl, rfl⟩)
        go_ret
        exact ⟨by rw [hTW.out]; first | rfl | (congr 2; omega), rfl⟩
    · obtain rfl : k = (lim n).length := by omega
      have h0 : n = 0 := by
        have := zeros_val (L := dig n) (fun j h => hz.out j h (by rw [HLL.out]; exact h))
        rwa [val_dig] at this
      subst h0
      have HZ := Lib.hid tw_zero
      go_wp2
      go_ret
      exact ⟨by rw [HZ.out]; rfl, rfl⟩

def shZ (z k : Int) : Int := if 0 ≤ k then z * 2 ^ k.toNat else z / 2 ^ (-k).toNat
theorem shZ_up (z : Int) (K : Nat) : shZ z (K : Int) = z * 2 ^ K := by
  unfold shZ
  rw [if_pos (by omega)]
  simp
theorem shZ_down (z : Int) (K : Nat) (h : 0 < K) : shZ z (-(K : Int)) = z / 2 ^ K := by
  unfold shZ
  rw [if_neg (by omega)]
  simp
theorem tw_lt_iff {m K : Nat} (h : m ≠ 0) : tw m < K ↔ m % 2 ^ K ≠ 0 := by
  obtain ⟨j, hj⟩ := tw_spec h
  constructor
  · intro hlt h0
    obtain ⟨d, hd⟩ : ∃ d, K = tw m + (d + 1) := ⟨K - tw m - 1, by omega⟩
    have h1 := Nat.div_add_mod m (2 ^ K)
    rw [h0, Nat.add_zero] at h1
    generalize m / 2 ^ K = c at *
    generalize tw m = t at *
    have h2 : 2 ^ t * (2 * j + 1) = 2 ^ t * (2 * (2 ^ d * c)) := by
      rw [← hj, ← h1, hd, Nat.pow_add, Nat.pow_succ', Nat.mul_assoc, Nat.mul_assoc]
    have h3 := Nat.eq_of_mul_eq_mul_left (Nat.pow_pos (by omega)) h2
    omega
  · intro hne
    apply Nat.lt_of_not_le
    intro hle
    apply hne
    obtain ⟨d, hd⟩ : ∃ d, tw m = K + d := ⟨tw m - K, by omega⟩
    rw [hj, hd, Nat.pow_add, Nat.mul_assoc]
    exact Nat.mul_mod_right _ _
theorem neg_ediv (m P : Nat) (hP : 0 < P) : (-(m : Int)) / (P : Int) = -((if m % P = 0 then m / P else m / P + 1 : Nat) : Int) := by
  have h1 := Nat.div_add_mod m P
  have h2 := Nat.mod_lt m hP
  generalize m / P = q at *
  generalize m % P = r at *
  have hPI : (P : Int) ≠ 0 := by omega
  split
  · rename_i h0
    have e : -(m : Int) = (P : Int) * -(q : Int) := by
      rw [← h1, h0, Int.mul_neg]; simp
    rw [e, Int.mul_ediv_cancel_left _ hPI]
  · rename_i h0
    have e : -(m : Int) = ((P - r : Nat) : Int) + (P : Int) * -((q + 1 : Nat) : Int) := by
      have e1 : (m : Int) = (P : Int) * (q : Int) + (r : Int) := by rw [← h1]; simp
      rw [e1]
      have e2 : ((P - r : Nat) : Int) = (P : Int) - (r : Int) := by omega
      rw [e2, Int.natCast_succ]
      grind
    rw [e, Int.add_mul_ediv_left _ _ hPI, Int.ediv_eq_zero_of_lt (by omega) (by omega), Int.zero_add]
theorem lim_one : lim 1 = [1] := by
  rw [lim, dig_pos (by decide)]
  have : dig (1 / 16777216) = [] := by rw [show 1 / 16777216 = 0 by decide, dig_zero]
  rw [this]
  rfl
theorem ints_one (w : World) (z : Int) (t : TypeId) : Ints (w.alloc (.cells #[.int .i64 z] t)) (w.alloc (.cells #[.int .i64 z] t)).heap.size (some ⟨w.heap.size, 0, none⟩) [z] := fun i hi => by
  have h0 : i = 0 := by simpa using hi
  subst h0
  refine ⟨w.heap.size, 0, rfl, by simp, ?_⟩
  simp
/-- The absolute value of a shift down. -/
def dnN (s : Int) (m K : Nat) : Nat := if s < 0 ∧ tw m < K then m / 2 ^ K + 1 else m / 2 ^ K
theorem dnN_eq {s : Int} {m K : Nat} (hs : Sg s m) : s * (dnN s m K : Int) = s * (m : Int) / 2 ^ K := by
  have hP : 0 < 2 ^ K := Nat.pow_pos (by omega)
  have hPI : (2 : Int) ^ K = ((2 ^ K : Nat) : Int) := by simp
  rw [hPI]
  unfold Sg at hs
  rcases hs with ⟨rfl, rfl⟩ | ⟨hm, rfl | rfl⟩
  · simp
  · unfold dnN
    rw [if_neg (by omega), Int.one_mul, Int.one_mul]
    exact Int.natCast_ediv m (2 ^ K)
  · rw [Int.neg_mul, Int.one_mul, Int.neg_mul, Int.one_mul, neg_ediv m _ hP]
    congr 2
    unfold dnN
    by_cases h : tw m < K
    · rw [if_pos ⟨by omega, h⟩, if_neg ((tw_lt_iff hm).1 h)]
    · rw [if_neg (fun hh => h hh.2), if_pos (by
        apply Decidable.byContradiction
        intro hc
        exact h ((tw_lt_iff hm).2 hc))]

set_option maxRecDepth 100000 in
set_option maxHeartbeats 4000000 in
theorem iShiftUp (s : Int) (a : Option Addr) (m c1 K : Nat) (w : World) (B : Nat) (hB : B ≤ w.heap.size) (hx : Ints w B a (lim m)) (hs : Sg s m) (hl : (lim m).length ≤ 1048576) (hk : K ≤ 100000000) :
    Calls Tryz.prog 90 #[.agg #[.int .i64 s, .slice a (lim m).length c1], .int .i64 (K : Int)] w (RetZ (s * (m : Int) * 2 ^ K) w) := by
  obtain ⟨W0, hW0⟩ : ∃ W0 : World, (w.alloc (.cells #[.int .i64 s, .slice a (lim m).length c1] 60)).alloc (.cells #[.int .i64 0, .slice none 0 0] 60) = W0 := ⟨_, rfl⟩
  obtain ⟨p1, p5, p3, p4⟩ := two_box w 60 #[.int .i64 s, .slice a (lim m).length c1] #[.int .i64 0, .slice none 0 0]
  rw [hW0] at p1 p3 p4 p5
  have HW0 := Lib.hid hW0
  have P3 := Lib.hid p3
  have P4 := Lib.hid p4
  have SS := Lib.hid (show ∀ W, Below W0.heap.size W0 W → (W.cell? ⟨w.heap.size, 0, none⟩ = some (.int .i64 s) ∧ W.cell? ⟨w.heap.size, 1, none⟩ = some (.slice a (lim m).length c1)) from
    fun W hW => ⟨(p1.below hW).cell 0, (p1.below hW).cell 1⟩)
  have SR := Lib.hid (show ∀ W, Below W0.heap.size W0 W → (W.cell? ⟨w.heap.size + 1, 0, none⟩ = some (.int .i64 0) ∧ W.cell? ⟨w.heap.size + 1, 1, none⟩ = some (.slice none 0 0) ∧ W.frozen? ⟨w.heap.size + 1, 0, none⟩ = false ∧ W.frozen? ⟨w.heap.size + 1, 1, none⟩ = false) from
    fun W hW => (p5.below hW).two)
  have ST := Lib.hid (show ∀ W u v, Below W0.heap.size W0 W → (fun W : World => W.cell? ⟨w.heap.size, 0, none⟩ = some (.int .i64 s) ∧ W.cell? ⟨w.heap.size, 1, none⟩ = some (.slice a (lim m).length c1)) ((W.setCell ⟨w.heap.size + 1, 0, none⟩ u).setCell ⟨w.heap.size + 1, 1, none⟩ v) from fun W u v hW =>
    ⟨(((p1.below hW).far (by simp <;> omega) _).far (by simp <;> omega) _).cell 0, (((p1.below hW).far (by simp <;> omega) _).far (by simp <;> omega) _).cell 1⟩)
  have HS := Lib.hid (show ∀ (s : Int) (a : Option Addr) (n c : Nat) W, Below W0.heap.size W0 W → Calls Tryz.prog 65 #[.agg #[.int .i64 s, .slice a n c]] W fun e w' => e = .returned (.slice a n c) ∧ Below W0.heap.size W0 w' from
    fun s a n c W hW => (iSize s a n c W).mono fun e w' ⟨he, hb⟩ => ⟨he, hW.trans (hb.mono hW.size)⟩)
  have HG := Lib.hid (show ∀ (s : Int) (k : Nat) (a : Option Addr) (c : Nat) W, (lim k).length ≤ c → Own W W0.heap.size a (lim k) → Below W0.heap.size W0 W → Calls Tryz.prog 95 #[.int .i64 s, .slice a (lim k).length c] W fun e w' => ∃ a c, e = .returned (.agg #[.int .i64 (sgnOf s k), .slice a (lim k).length c]) ∧ (lim k).length ≤ c ∧ Own w' W0.heap.size a (lim k) ∧ Below W0.heap.size W0 w' from
    fun s k a c W h1 h2 hW => (iSigned s k a c W W0.heap.size h1 h2).mono fun e w' ⟨a, c, he, hc, ho, hb⟩ => ⟨a, c, he, hc, ho, hW.trans (hb.mono hW.size)⟩)
  have hT : Below W0.heap.size W0 W0 := Below.refl _ _
  have hT' : Below W0.heap.size W0 W0.drew := hT.drew
  have HUP := Lib.hid (show ∀ W, Below W0.heap.size W0 W → Calls Tryz.prog 116 #[.slice a (lim m).length c1, .int .i64 (K : Int)] W fun e w' => ∃ a c, e = .returned (.slice a (lim (m * 2 ^ K)).length c) ∧ (lim (m * 2 ^ K)).length ≤ c ∧ Own w' W0.heap.size a (lim (m * 2 ^ K)) ∧ Below W0.heap.size W0 w' from
    fun W hW => (iShiftedUp a m c1 K W B (by have := hW.size; omega) (hx.below ((p3.mono hB).trans (hW.mono (by omega)))) hl (by omega)).mono fun e w' ⟨a, c, he, hc, ho, hb⟩ => ⟨a, c, he, hc, ho.mono hW.size, hW.trans (hb.mono hW.size)⟩)
  obtain ⟨z, hz⟩ : ∃ z, z = s * (m : Int) * 2 ^ K := ⟨_, rfl⟩
  obtain ⟨N, hN⟩ : ∃ N, N = m * 2 ^ K := ⟨_, rfl⟩
  have hfin : sgnOf s N = z.sign ∧ N = z.natAbs := sgnOf_eq (by
    unfold Sg at hs
    rcases hs with ⟨rfl, _⟩ | ⟨_, h | h⟩
    · right; right; rw [hN]; simp
    · exact .inl h
    · exact .inr (.inl h)) (by rw [hz, hN]; simp [Int.mul_assoc])
  have HF := Lib.hid hfin
  rw [← hN] at HUP
  rw [← hz]
  have hkI : (0 : Int) ≤ (K : Int) := by omega
  have hkI2 : (K : Int) ≤ 100000000 := by omega
  clear p1 p3 p4 p5 hx hl hW0 hB hfin hs hz hN hk
  go_enter Tryz.func90, Tryz.ntmps90
  go_wp2_with fail
  rw [HW0.out]
  go_region_held3 (fun W => W.cell? ⟨w.heap.size, 0, none⟩ = some (.int .i64 s) ∧ W.cell? ⟨w.heap.size, 1, none⟩ = some (.slice a (lim m).length c1))
    (first | exact SS.out _ (by assumption) | exact ST.out _ _ _ (by assumption))
    (first
    | (go_at_call 65; refine (HS.out _ _ _ _ _ (by assumption)).mono ?_; rintro e w' ⟨rfl, hb⟩)
    | (go_at_call 116; refine (HUP.out _ (by assumption)).mono ?_; rintro e w' ⟨a', c', rfl, hc', ho', hb⟩)
    | (go_at_call 95; refine (HG.out _ _ _ _ _ (by assumption) (by assumption) (by assumption)).mono ?_; rintro e w' ⟨a', c', rfl, hc', ho', hb⟩; obtain ⟨q1, q2, q3, q4⟩ := SR.out _ hb))
  go_wp2_with fail
  refine bodyPost_ret (v := .agg #[.int .i64 (sgnOf s N), .slice a' (lim N).length c']) (by simp [results, Tryz.results90, go_sem, *]) rfl ?_
  exact retZ_end2 P3.out P4.out (by assumption) _ _ (by assumption) (by assumption) HF.out
set_option maxRecDepth 100000 in
set_option maxHeartbeats 4000000 in
theorem iShiftDown (s : Int) (a : Option Addr) (m c1 K : Nat) (w : World) (B : Nat) (hB : B ≤ w.heap.size) (hx : Ints w B a (lim m)) (hs : Sg s m) (hl : (lim m).length ≤ 1048576) (hk : K ≤ 100000000) (hk0 : 0 < K) (hTab : Tab w) :
    Calls Tryz.prog 90 #[.agg #[.int .i64 s, .slice a (lim m).length c1], .int .i64 (-(K : Int))] w (RetZ (s * (m : Int) / 2 ^ K) w) := by
  obtain ⟨W0, hW0⟩ : ∃ W0 : World, (w.alloc (.cells #[.int .i64 s, .slice a (lim m).length c1] 60)).alloc (.cells #[.int .i64 0, .slice none 0 0] 60) = W0 := ⟨_, rfl⟩
  obtain ⟨p1, p5, p3, p4⟩ := two_box w 60 #[.int .i64 s, .slice a (lim m).length c1] #[.int .i64 0, .slice none 0 0]
  rw [hW0] at p1 p3 p4 p5
  have HW0 := Lib.hid hW0
  have P3 := Lib.hid p3
  have P4 := Lib.hid p4
  have SS := Lib.hid (show ∀ W, Below W0.heap.size W0 W → (W.cell? ⟨w.heap.size, 0, none⟩ = some (.int .i64 s) ∧ W.cell? ⟨w.heap.size, 1, none⟩ = some (.slice a (lim m).length c1)) from
    fun W hW => ⟨(p1.below hW).cell 0, (p1.below hW).cell 1⟩)
  have SR := Lib.hid (show ∀ W, Below W0.heap.size W0 W → (W.cell? ⟨w.heap.size + 1, 0, none⟩ = some (.int .i64 0) ∧ W.cell? ⟨w.heap.size + 1, 1, none⟩ = some (.slice none 0 0) ∧ W.frozen? ⟨w.heap.size + 1, 0, none⟩ = false ∧ W.frozen? ⟨w.heap.size + 1, 1, none⟩ = false) from
    fun W hW => (p5.below hW).two)
  have ST := Lib.hid (show ∀ W u v, Below W0.heap.size W0 W → (fun W : World => W.cell? ⟨w.heap.size, 0, none⟩ = some (.int .i64 s) ∧ W.cell? ⟨w.heap.size, 1, none⟩ = some (.slice a (lim m).length c1)) ((W.setCell ⟨w.heap.size + 1, 0, none⟩ u).setCell ⟨w.heap.size + 1, 1, none⟩ v) from fun W u v hW =>
    ⟨(((p1.below hW).far (by simp <;> omega) _).far (by simp <;> omega) _).cell 0, (((p1.below hW).far (by simp <;> omega) _).far (by simp <;> omega) _).cell 1⟩)
  have HS := Lib.hid (show ∀ (s : Int) (a : Option Addr) (n c : Nat) W, Below W0.heap.size W0 W → Calls Tryz.prog 65 #[.agg #[.int .i64 s, .slice a n c]] W fun e w' => e = .returned (.slice a n c) ∧ Below W0.heap.size W0 w' from
    fun s a n c W hW => (iSize s a n c W).mono fun e w' ⟨he, hb⟩ => ⟨he, hW.trans (hb.mono hW.size)⟩)
  have HG := Lib.hid (show ∀ (s : Int) (k : Nat) (a : Option Addr) (c : Nat) W, (lim k).length ≤ c → Own W W0.heap.size a (lim k) → Below W0.heap.size W0 W → Calls Tryz.prog 95 #[.int .i64 s, .slice a (lim k).length c] W fun e w' => ∃ a c, e = .returned (.agg #[.int .i64 (sgnOf s k), .slice a (lim k).length c]) ∧ (lim k).length ≤ c ∧ Own w' W0.heap.size a (lim k) ∧ Below W0.heap.size W0 w' from
    fun s k a c W h1 h2 hW => (iSigned s k a c W W0.heap.size h1 h2).mono fun e w' ⟨a, c, he, hc, ho, hb⟩ => ⟨a, c, he, hc, ho, hW.trans (hb.mono hW.size)⟩)
  have hT : Below W0.heap.size W0 W0 := Below.refl _ _
  have hT' : Below W0.heap.size W0 W0.drew := hT.drew
  have HTB := Lib.hid (show ∀ W, Below W0.heap.size W0 W → Tab W from fun W hW => (hTab.below p3).below hW)
  have HDN := Lib.hid (show ∀ W, Below W0.heap.size W0 W → Calls Tryz.prog 117 #[.slice a (lim m).length c1, .int .i64 (K : Int)] W fun e w' => ∃ a c, e = .returned (.slice a (lim (m / 2 ^ K)).length c) ∧ (lim (m / 2 ^ K)).length ≤ c ∧ Own w' W0.heap.size a (lim (m / 2 ^ K)) ∧ Below W0.heap.size W0 w' from
    fun W hW => (iShiftedDown a m c1 K W B (by have := hW.size; omega) (hx.below ((p3.mono hB).trans (hW.mono (by omega)))) hl (by omega)).mono fun e w' ⟨a, c, he, hc, ho, hb⟩ => ⟨a, c, he, hc, ho.mono hW.size, hW.trans (hb.mono hW.size)⟩)
  have HTW := Lib.hid (show ∀ W, Below W0.heap.size W0 W → Calls Tryz.prog 99 #[.slice a (lim m).length c1] W fun e w' => e = .returned (.int .i64 (tw m : Int)) ∧ W = w' from
    fun W hW => iTwos a m c1 W B (hx.below ((p3.mono hB).trans (hW.mono (by omega)))) hl (HTB.out W hW))
  have hdl : (lim (m / 2 ^ K)).length ≤ 1048576 := Nat.le_trans (lim_le_of_le (Nat.div_le_self _ _)) hl
  have HPL := Lib.hid (show ∀ (b d : Option Addr) (e f : Nat) W, Below W0.heap.size W0 W → Ints W W.heap.size b (lim (m / 2 ^ K)) → Ints W W.heap.size d [1] → Calls Tryz.prog 118 #[.slice b (lim (m / 2 ^ K)).length e, .slice d 1 f] W fun e w' => ∃ a c, e = .returned (.slice a (lim (m / 2 ^ K + 1)).length c) ∧ (lim (m / 2 ^ K + 1)).length ≤ c ∧ Own w' W0.heap.size a (lim (m / 2 ^ K + 1)) ∧ Below W0.heap.size W0 w' from
    fun b d e f W hW h1 h2 => by
      have h := iMagPlus b d (m / 2 ^ K) 1 e f W _ _ (Nat.le_refl _) (Nat.le_refl _) h1 (by rw [lim_one]; exact h2) hdl (by rw [lim_one]; simp)
      rw [lim_one] at h
      exact h.mono fun e w' ⟨a, c, he, hc, ho, hb⟩ => ⟨a, c, he, hc, ho.mono hW.size, hW.trans (hb.mono hW.size)⟩)
  obtain ⟨z, hz⟩ : ∃ z, z = s * (m : Int) / 2 ^ K := ⟨_, rfl⟩
  obtain ⟨N, hN⟩ : ∃ N, N = dnN s m K := ⟨_, rfl⟩
  have hfin : sgnOf s N = z.sign ∧ N = z.natAbs := sgnOf_eq (by
    have h2 := hs
    unfold Sg at h2
    rcases h2 with ⟨rfl, rfl⟩ | ⟨_, h | h⟩
    · right; right; rw [hN]; simp [dnN]
    · exact .inl h
    · exact .inr (.inl h)) (by rw [hz, hN]; exact dnN_eq hs)
  have HF := Lib.hid hfin
  have HNN := Lib.hid (show N = if s < 0 ∧ tw m < K then m / 2 ^ K + 1 else m / 2 ^ K from hN)
  have HTL := Lib.hid (show tw m ≤ 25165824 from by
    by_cases h0 : m = 0
    · subst h0; rw [tw_zero]; omega
    · have := tw_len h0; rw [← lim_length] at this; omega)
  rw [← hz]
  obtain ⟨M, hM⟩ : ∃ M, M = m / 2 ^ K := ⟨_, rfl⟩
  rw [← hM] at HDN HPL HNN
  obtain ⟨t, ht⟩ : ∃ t, t = tw m := ⟨_, rfl⟩
  rw [← ht] at HTW HNN HTL
  have hkI2 : (K : Int) ≤ 100000000 := by omega
  have hk0I : (0 : Int) < (K : Int) := by omega
  have htI : (t : Int) ≤ 25165824 := by have := HTL.out; omega
  obtain ⟨k1, k2⟩ := SS.out _ hT
  clear p1 p3 p4 p5 hx hl hW0 hB hfin hs hz hN hk hk0 hdl hM ht hTab hT'
  by_cases hs0 : s < 0
  · by_cases htk : t < K
    · rw [if_pos ⟨hs0, htk⟩] at HNN
      have htkI : (t : Int) < (K : Int) := by omega
      have HL1 := Lib.hid lim_one
      go_enter Tryz.func90, Tryz.ntmps90
      go_wp2_with fail
      rw [HW0.out]
      refine (HS.out _ _ _ _ _ hT).mono ?_
      rintro e w1 ⟨rfl, hb1⟩
      clear k1 k2
      go_wp2_with fail
      refine (HDN.out _ hb1).mono ?_
      rintro e w2 ⟨a2, d2, rfl, hc2, ho2, hb2⟩
      obtain ⟨k1, k2⟩ := SS.out _ hb2
      have HC2 := Lib.hid hc2
      have HO2 := Lib.hid ho2
      clear hc2 ho2
      go_wp2_with fail
      refine (iSize s a (lim m).length c1 w2).mono ?_
      rintro e w3 ⟨rfl, hb3'⟩
      have hb3 := hb2.trans (hb3'.mono hb2.size)
      have HO3 := Lib.hid (HO2.out.below hb3')
      clear hb3' k1 k2
      go_wp2_with fail
      refine (HTW.out _ hb3).mono ?_
      rintro e w4 ⟨rfl, rfl⟩
      have hb4 := hb3.alloc hb3.size (.cells #[.int .i64 1] 2)
      have HIO := Lib.hid (ints_one w3 1 2)
      go_wp2_with fail
      refine (HPL.out _ _ _ _ _ hb4 (HO3.out.alloc _).ints HIO.out).mono ?_
      rintro e w5 ⟨a5, d5, rfl, hc5, ho5, hb5⟩
      have HC5 := Lib.hid hc5
      have HO5 := Lib.hid ho5
      obtain ⟨k1, k2⟩ := SS.out _ hb5
      clear hc5 ho5
      rw [← HNN.out] at HC5 HO5 ⊢
      go_wp2_with fail
      refine (HG.out _ _ _ _ _ HC5.out HO5.out hb5).mono ?_
      rintro e w6 ⟨a6, d6, rfl, hc6, ho6, hb6⟩
      obtain ⟨q1, q2, q3, q4⟩ := SR.out _ hb6
      go_wp2_with fail
      refine bodyPost_ret (v := .agg #[.int .i64 (sgnOf s N), .slice a6 (lim N).length d6]) (by simp [results, Tryz.results90, go_sem, *]) rfl ?_
      exact retZ_end2 P3.out P4.out hb6 _ _ ho6 hc6 HF.out
    · rw [if_neg (fun h => htk h.2)] at HNN
      have htkI : decide ((t : Int) < (K : Int)) = false := decide_eq_false (by omega)
      obtain rfl : N = M := HNN.out
      go_enter Tryz.func90, Tryz.ntmps90
      go_wp2_with fail
      rw [HW0.out]
      refine (HS.out _ _ _ _ _ hT).mono ?_
      rintro e w1 ⟨rfl, hb1⟩
      clear k1 k2
      go_wp2_with fail
      refine (HDN.out _ hb1).mono ?_
      rintro e w2 ⟨a2, d2, rfl, hc2, ho2, hb2⟩
      obtain ⟨k1, k2⟩ := SS.out _ hb2
      have HC2 := Lib.hid hc2
      have HO2 := Lib.hid ho2
      clear hc2 ho2
      go_wp2_with fail
      refine (iSize s a (lim m).length c1 w2).mono ?_
      rintro e w3 ⟨rfl, hb3'⟩
      have hb3 := hb2.trans (hb3'.mono hb2.size)
      have HO3 := Lib.hid (HO2.out.below hb3')
      clear hb3' k1 k2
      go_wp2_with fail
      refine (HTW.out _ hb3).mono ?_
      rintro e w4 ⟨rfl, rfl⟩
      obtain ⟨k1, k2⟩ := SS.out _ hb3
      go_wp2_with fail
      refine (HG.out _ _ _ _ _ HC2.out HO3.out hb3).mono ?_
      rintro e w6 ⟨a6, d6, rfl, hc6, ho6, hb6⟩
      obtain ⟨q1, q2, q3, q4⟩ := SR.out _ hb6
      go_wp2_with fail
      refine bodyPost_ret (v := .agg #[.int .i64 (sgnOf s N), .slice a6 (lim N).length d6]) (by simp [results, Tryz.results90, go_sem, *]) rfl ?_
      exact retZ_end2 P3.out P4.out hb6 _ _ ho6 hc6 HF.out
  · rw [if_neg (fun h => hs0 h.1)] at HNN
    have hs0d : decide (s < 0) = false := decide_eq_false hs0
    obtain rfl : N = M := HNN.out
    go_enter Tryz.func90, Tryz.ntmps90
    go_wp2_with fail
    rw [HW0.out]
    refine (HS.out _ _ _ _ _ hT).mono ?_
    rintro e w1 ⟨rfl, hb1⟩
    clear k1 k2
    go_wp2_with fail
    refine (HDN.out _ hb1).mono ?_
    rintro e w2 ⟨a2, d2, rfl, hc2, ho2, hb2⟩
    obtain ⟨k1, k2⟩ := SS.out _ hb2
    have HC2 := Lib.hid hc2
    have HO2 := Lib.hid ho2
    clear hc2 ho2
    go_wp2_with fail
    refine (HG.out _ _ _ _ _ HC2.out HO2.out hb2).mono ?_
    rintro e w6 ⟨a6, d6, rfl, hc6, ho6, hb6⟩
    obtain ⟨q1, q2, q3, q4⟩ := SR.out _ hb6
    go_wp2_with fail
    refine bodyPost_ret (v := .agg #[.int .i64 (sgnOf s N), .slice a6 (lim N).length d6]) (by simp [results, Tryz.results90, go_sem, *]) rfl ?_
    exact retZ_end2 P3.out P4.out hb6 _ _ ho6 hc6 HF.out

set_option maxRecDepth 100000 in
set_option maxHeartbeats 2000000 in
theorem sBit (s : Int) (a : Option Addr) (n c1 k : Nat) (w : World) (B : Nat) (hB : B ≤ w.heap.size) (hx : Ints w B a (lim n)) (hl : (lim n).length ≤ 1048576) (hk : k ≤ 1073741824) :
    Calls Tryz.prog 131 #[.agg #[.int .i64 s, .slice a (lim n).length c1], .int .i64 (k : Int)] w (RetB (.int .i64 ((n / 2 ^ k % 2 : Nat) : Int)) w) := by
  have hbit := bit_limb (small_dig n) k
  rw [val_dig] at hbit
  rw [hbit]
  have hd : Int.tdiv (k : Int) 24 = ((k / 24 : Nat) : Int) := by simp [Int.tdiv_eq_ediv_of_nonneg]
  have hm : Int.tmod (k : Int) 24 = ((k % 24 : Nat) : Int) := by simp [Int.tmod_eq_emod_of_nonneg]
  have HLL := Lib.hid (lim_length n)
  have hr := Nat.mod_lt k (show 0 < 24 by omega)
  obtain ⟨i, hi⟩ : ∃ i, i = k / 24 := ⟨_, rfl⟩
  obtain ⟨r, hr'⟩ : ∃ r, r = k % 24 := ⟨_, rfl⟩
  rw [← hi] at hd ⊢
  rw [← hr'] at hm hr ⊢
  have hib : (i : Int) ≤ 1073741824 := by omega
  have hkb : (k : Int) ≤ 1073741824 := by omega
  have hl2 : ((lim n).length : Int) ≤ 1048576 := by omega
  by_cases hin : i < (lim n).length
  · have hid : i < (dig n).length := by rw [← HLL.out]; exact hin
    obtain ⟨b, o, ha, hcB, hcell⟩ := hx i hin
    simp only [lim, ofN_at] at hcell
    subst ha
    rw [getD_of_lt hid]
    have hxb := small_dig n i hid
    obtain ⟨x, hxk⟩ : ∃ x : Nat, x = (dig n)[i] := ⟨_, rfl⟩
    rw [← hxk] at hcell hxb ⊢
    have hc1 : ∀ p, (w.alloc (.cells p 60)).cell? ⟨b, o + i, none⟩ = some (.int .i64 x) := fun p => by
      rw [World.cell?_alloc_lt w _ ⟨b, o + i, none⟩ (by show b < _; omega)]; exact hcell
    have hsh : (x : Int) / 2 ^ r = ((x / 2 ^ r : Nat) : Int) := by
      rw [show (2 : Int) ^ r = ((2 ^ r : Nat) : Int) by simp]
      generalize 2 ^ r = p
      exact (Int.natCast_ediv x p).symm
    have hy : x / 2 ^ r ≤ x := Nat.div_le_self _ _
    obtain ⟨y, hy'⟩ : ∃ y, y = x / 2 ^ r := ⟨_, rfl⟩
    rw [← hy'] at hsh hy ⊢
    have hyI : (y : Int) ≤ 16777215 := by omega
    have hand := i64_and1 y
    have hiI : (i : Int) < ((lim n).length : Int) := by omega
    have hrI : (r : Int) ≤ 23 := by omega
    clear hcell hxk hxb hy hy' hi hr' hr hbit hx hid hk hin
    go_enter Tryz.func131, Tryz.ntmps131
    go_wp2
    go_ret
    exact ⟨by first | rfl | (congr 2; omega), (Below.refl _ _).alloc (Nat.le_refl _) _⟩
  · rw [getD_of_ge (by rw [← HLL.out]; omega)]
    have h0 : (0 / 2 ^ r % 2 : Nat) = 0 := by simp
    rw [h0]
    have hge : ((lim n).length : Int) ≤ (i : Int) := by omega
    clear hx hi hr' hr hbit hk hin h0
    go_enter Tryz.func131, Tryz.ntmps131
    go_wp2
    go_ret
    exact ⟨rfl, (Below.refl _ _).alloc (Nat.le_refl _) _⟩

set_option maxRecDepth 100000 in
set_option maxHeartbeats 2000000 in
theorem sTwos (s : Int) (a : Option Addr) (n c1 : Nat) (w : World) (B : Nat) (hB : B ≤ w.heap.size) (hx : Ints w B a (lim n)) (hl : (lim n).length ≤ 1048576) (h0 : n ≠ 0) :
    Calls Tryz.prog 108 #[.agg #[.int .i64 s, .slice a (lim n).length c1]] w (RetB (.int .i64 (tw n : Int)) w) := by
  obtain ⟨W0, hW0⟩ : ∃ W0 : World, w.alloc (.cells #[.int .i64 s, .slice a (lim n).length c1] 60) = W0 := ⟨_, rfl⟩
  obtain ⟨p1, p3, p4⟩ := one_box w 60 #[.int .i64 s, .slice a (lim n).length c1]
  rw [hW0] at p1 p3 p4
  have HW0 := Lib.hid hW0
  have P3 := Lib.hid p3
  have P4 := Lib.hid p4
  have SS := Lib.hid (show ∀ W, Below W0.heap.size W0 W → (W.cell? ⟨w.heap.size, 0, none⟩ = some (.int .i64 s) ∧ W.cell? ⟨w.heap.size, 1, none⟩ = some (.slice a (lim n).length c1)) from
    fun W hW => ⟨(p1.below hW).cell 0, (p1.below hW).cell 1⟩)
  have IX := Lib.hid (show ∀ W, Below W0.heap.size W0 W → Ints W B a (lim n) ∧ B ≤ W.heap.size from fun W hW => ⟨hx.below ((p3.mono hB).trans (hW.mono (by omega))), by have := hW.size; omega⟩)
  have HTL := Lib.hid (show tw n ≤ 25165824 from by have := tw_len h0; rw [← lim_length] at this; omega)
  have HB := Lib.hid (show ∀ (k : Nat) W, k ≤ 1073741824 → Below W0.heap.size W0 W → Calls Tryz.prog 131 #[.agg #[.int .i64 s, .slice a (lim n).length c1], .int .i64 (k : Int)] W fun e w' => e = .returned (.int .i64 ((n / 2 ^ k % 2 : Nat) : Int)) ∧ Below W0.heap.size W0 w' from
    fun k W hk hW => (sBit s a n c1 k W B (IX.out W hW).2 (IX.out W hW).1 hl hk).mono fun e w' ⟨he, hb⟩ => ⟨he, hW.trans (hb.mono hW.size)⟩)
  have H0 := Lib.hid h0
  have HEND := Lib.hid (show ∀ v W, Below W0.heap.size W0 W → RetB v w (.returned v) W from fun v W hW => ⟨rfl, P3.out.trans (hW.mono (by omega))⟩)
  clear p1 p3 p4 hx hW0 hB hl IX h0
  go_enter Tryz.func108, Tryz.ntmps108
  go_wp2
  rw [HW0.out]
  go_loopw [3] (fun q wr => ∃ k : Nat, q = .int .i64 (k : Int) ∧ Hid (k ≤ tw n) ∧ Below W0.heap.size W0 wr) (fun q _ => tw n - (intOf q).toNat)
  case atStart => exact ⟨0, rfl, Nat.zero_le _, Below.refl _ _⟩
  case round =>
    obtain ⟨k, rfl, hk, hbel⟩ := hrel
    obtain ⟨k1, k2⟩ := SS.out _ hbel
    have HC := Lib.hid (HB.out k wr (by have := hk.out; have := HTL.out; omega) hbel)
    have hkb : (k : Int) ≤ 25165824 := by have := hk.out; have := HTL.out; omega
    have HM := Lib.hid (fun h => tw_more H0.out hk.out h)
    have HD := Lib.hid (fun h => tw_done H0.out hk.out h)
    obtain ⟨t, ht⟩ : ∃ t, t = n / 2 ^ k % 2 := ⟨_, rfl⟩
    rw [← ht] at HC HM HD
    have htb : t = 0 ∨ t = 1 := by omega
    clear ht hbel
    go_wp2_with fail
    refine HC.out.mono ?_
    rintro e w1 ⟨rfl, hb⟩
    clear k1 k2
    rcases htb with rfl | rfl
    · have HK := Lib.hid (HM.out rfl)
      go_wp2_with fail
      go_roundw
      case rel => exact ⟨k + 1, by go_num, HK, hb⟩
      case measure => have := HK.out; simp [intOf]; omega
    · have HK := Lib.hid (HD.out (by decide))
      go_wp2_with fail
      go_ret
      rw [← HK.out]
      exact HEND.out _ _ hb
end Go.Proofs.YtgppagmejhgmaaaGreatDoor
