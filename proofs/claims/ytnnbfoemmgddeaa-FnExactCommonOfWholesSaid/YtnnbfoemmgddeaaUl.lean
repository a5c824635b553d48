/-
  Contracts: magnitudes divided by a part. Conditions: the limbs can be read.
-/
import Derived.Test.YtnnbfoemmgddeaaUj
namespace Go.Proofs.Ytnnbfoemmgddeaa
set_option linter.unusedVariables false
open Go Go.RowKit

theorem i64_or_nat (a b : Nat) (ha : a < 9223372036854775808) (hb : b < 9223372036854775808) : bits .or .i64 (a : Int) (b : Int) = ((a ||| b : Nat) : Int) := by
  have hx : a ||| b < 2 ^ 63 := Nat.or_lt_two_pow (by omega) (by omega)
  show IntKind.i64.wrap ((BitVec.ofInt 64 (a : Int) ||| BitVec.ofInt 64 (b : Int)).toNat : Int) = _
  rw [BitVec.toNat_or, ofInt_u64 a (by omega), ofInt_u64 b (by omega), IntKind.wrap_i64]
  omega
theorem i64_or_add (x r : Nat) (hx : x < 16777216) (hr : r < 274877906944) : bits .or .i64 ((r : Int) * 16777216) (x : Int) = ((r * 16777216 + x : Nat) : Int) := by
  have h := i64_or_nat (r * 16777216) x (by omega) (by omega)
  have e : ((r * 16777216 : Nat) : Int) = (r : Int) * 16777216 := by omega
  rw [e] at h
  rw [h]
  have := Nat.shiftLeft_add_eq_or_of_lt (show x < 2 ^ 24 from hx) r
  rw [Nat.shiftLeft_eq] at this
  rw [this]

structure PartInv (L : List Nat) (p : Nat) (Q : List Nat) (k r : Nat) : Prop where
  len : Q.length = L.length
  small : Small Q
  rest : r < p
  eq : val (L.drop k) = p * val (Q.drop k) + r
theorem partInv_start (L : List Nat) {p : Nat} (hp : 0 < p) : PartInv L p (List.replicate L.length 0) L.length 0 :=
  ⟨by simp, fun i hi => by simp, hp, by simp [val]⟩
theorem partInv_step {L Q : List Nat} {p k r : Nat} (h : PartInv L p Q (k + 1) r) (hk : k < L.length) (hL : Small L) :
    PartInv L p (Q.set k ((r * 16777216 + L[k]) / p)) k ((r * 16777216 + L[k]) % p) ∧ (r * 16777216 + L[k]) / p < 16777216 := by
  have hx := hL k hk
  have hr := h.rest
  have hp : 0 < p := by omega
  have hq : (r * 16777216 + L[k]) / p < 16777216 := by
    rw [Nat.div_lt_iff_lt_mul hp]
    have h1 : (r + 1) * 16777216 ≤ p * 16777216 := Nat.mul_le_mul_right _ hr
    rw [Nat.mul_comm 16777216 p]
    omega
  have hkQ : k < Q.length := by rw [h.len]; exact hk
  refine ⟨⟨by simp [h.len], fun i hi => ?_, Nat.mod_lt _ hp, ?_⟩, hq⟩
  · rw [List.getElem_set]
    split
    · exact hq
    · exact h.small i (by simpa using hi)
  · rw [val_drop L k hk, val_drop (Q.set k _) k (by simpa using hkQ), List.getElem_set_self, List.drop_set_of_lt (by omega), h.eq]
    have h1 := Nat.div_add_mod (r * 16777216 + L[k]) p
    generalize (r * 16777216 + L[k]) / p = q at *
    generalize (r * 16777216 + L[k]) % p = t at *
    generalize val (Q.drop (k + 1)) = v at *
    grind
theorem partInv_end {L Q : List Nat} {p r : Nat} (h : PartInv L p Q 0 r) : val Q = val L / p ∧ r = val L % p := by
  have h1 := h.eq
  rw [List.drop_zero, List.drop_zero] at h1
  have hr := h.rest
  rw [h1]
  constructor
  · rw [Nat.mul_add_div (by omega), Nat.div_eq_of_lt hr]; omega
  · rw [Nat.mul_add_mod, Nat.mod_eq_of_lt hr]

set_option maxRecDepth 100000 in
set_option maxHeartbeats 2000000 in
theorem iByPart (a : Option Addr) (m c1 p : Nat) (w : World) (B : Nat) (hB : B ≤ w.heap.size) (hx : Ints w B a (lim m)) (hl : (lim m).length ≤ 1048576) (hp : 0 < p) (hp2 : p ≤ 100000000000) :
    Calls Try.prog 166 #[.slice a (lim m).length c1, .int .i64 (p : Int)] w fun e w' => ∃ a' c', e = .returned (.tuple #[.slice a' (lim (m / p)).length c', .int .i64 ((m % p : Nat) : Int)]) ∧ (lim (m / p)).length ≤ c' ∧ Own w' w.heap.size a' (lim (m / p)) ∧ Below w.heap.size w w' := by
  have HX := Lib.hid hx
  have HP2 := Lib.hid hp2
  have hmk := mk_mag (lim m).length (by omega)
  have hlI : ((lim m).length : Int) ≤ 1048576 := by omega
  have hp0 : ((p : Int) == 0) = false := beq_eq_false_iff_ne.2 (by omega)
  have hpp : (0 : Int) < (p : Int) := by omega
  have HL := Lib.hid (lim_length m)
  clear hx hp2 hl
  go_enter Try.func166, Try.ntmps166
  go_wp2
  clear hmk
  go_loopw [7, 8] (fun q i wr => ∃ (k r : Nat) (Q : List Nat), k ≤ (lim m).length ∧ i = .int .i64 ((k : Int) - 1) ∧ q = .int .i64 (r : Int) ∧ PartInv (dig m) p Q k r ∧ RowI wr w.heap.size (ofN Q) ∧ Below w.heap.size w wr) (fun _ i _ => (intOf i + 1).toNat)
  case atStart => exact ⟨(lim m).length, 0, _, Nat.le_refl _, rfl, rfl, by rw [HL.out]; exact partInv_start (dig m) hp, by rw [← HL.out, ofN_zeros]; exact RowI.made w _, (Below.refl _ _).alloc (Nat.le_refl _) _⟩
  case round =>
    obtain ⟨k, r, Q, hk, rfl, rfl, hinv, hrow, hbel⟩ := hrel
    have HI := Lib.hid hinv
    have HR := Lib.hid hrow
    have HB := Lib.hid hbel
    clear hinv hrow hbel
    by_cases hk0 : 0 < k
    · have hkd : k - 1 < (dig m).length := by rw [← HL.out]; omega
      obtain ⟨b, o, ha, hcB, hcell⟩ := HX.out (k - 1) (by omega)
      simp only [lim, ofN_at] at hcell
      subst ha
      have hI2 : PartInv (dig m) p Q ((k - 1) + 1) r := by rw [show k - 1 + 1 = k by omega]; exact HI.out
      obtain ⟨hst, hqb⟩ := partInv_step hI2 hkd (small_dig m)
      obtain ⟨x, hxk⟩ : ∃ x : Nat, x = (dig m)[k - 1] := ⟨_, rfl⟩
      rw [← hxk] at hcell hst hqb
      have hxb : x < 16777216 := by rw [hxk]; exact small_dig m (k - 1) hkd
      have hrb := HI.out.rest
      have hor := i64_or_add x r hxb (by have := HP2.out; omega)
      obtain ⟨t, ht⟩ : ∃ t : Nat, t = r * 16777216 + x := ⟨_, rfl⟩
      rw [← ht] at hor hst hqb
      have hq : Int.tdiv (t : Int) (p : Int) = ((t / p : Nat) : Int) := by rw [Int.tdiv_eq_ediv_of_nonneg (by omega)]; rfl
      have hm : Int.tmod (t : Int) (p : Int) = ((t % p : Nat) : Int) := by rw [Int.tmod_eq_emod_of_nonneg (by omega)]; rfl
      have HST := Lib.hid hst
      have HQB := Lib.hid hqb
      have hqb2 : t / p ≤ 16777215 := by omega
      have hx1 : wr.cell? ⟨b, o + (k - 1), none⟩ = some (.int .i64 x) := by rw [HB.out.cell (p := ⟨b, o + (k - 1), none⟩) (by show b < _; omega)]; exact hcell
      have hkQ : k - 1 < (ofN Q).length := by rw [ofN_length, HI.out.len]; exact hkd
      have h2 := HR.out.cell (k - 1) hkQ
      have h3 := HR.out.frozen (k - 1)
      have HKQ := Lib.hid hkQ
      have hi1 : ((k : Int) - 1).toNat = k - 1 := by omega
      have hi2 : (0 : Int) ≤ (k : Int) - 1 := by omega
      have hi3 : (k : Int) - 1 < ((lim m).length : Int) := by omega
      have hrI : (r : Int) ≤ 100000000000 := by have := HP2.out; omega
      obtain ⟨q, hq'⟩ : ∃ q, q = t / p := ⟨_, rfl⟩
      obtain ⟨r', hr'⟩ : ∃ r', r' = t % p := ⟨_, rfl⟩
      rw [← hq'] at hq HST hqb2
      rw [← hr'] at hm HST
      have hqI : (q : Int) ≤ 16777215 := by omega
      clear hst hqb hcell hxk hxb hrb ht hI2 hkd hq' hr' hqb2
      go_wp2
      go_roundw
      case rel =>
        refine ⟨k - 1, r', Q.set (k - 1) q, by omega, by first | rfl | (congr 1; omega), rfl, HST.out, ?_, HB.out.setCell (Nat.le_refl _) _⟩
        rw [← ofN_set]
        exact HR.out.set_ (k - 1) HKQ.out _
      case measure => simp [intOf]; omega
    · obtain rfl : k = 0 := by omega
      have hlenQ := HI.out.len
      obtain ⟨d1, d2⟩ := partInv_end HI.out
      rw [val_dig] at d1 d2
      have HS := Lib.hid HI.out.small
      have hQ : Q.length = (lim m).length := by rw [hlenQ, HL.out]
      have HT := Lib.hid (iTrimmed (some ⟨w.heap.size, 0, none⟩) Q (lim m).length wr _ HR.out.ints HS.out (by omega) (by omega))
      have HEND := Lib.hid (show ∃ a' c', Ending.returned (.tuple #[.slice (some ⟨w.heap.size, 0, none⟩) (dig (val Q)).length (lim m).length, .int .i64 (r : Int)]) = .returned (.tuple #[.slice a' (lim (m / p)).length c', .int .i64 ((m % p : Nat) : Int)]) ∧ (lim (m / p)).length ≤ c' ∧ Own wr w.heap.size a' (lim (m / p)) ∧ Below w.heap.size w wr from by
        have hle := dig_length_val_le HS.out
        rw [← d1, ← d2]
        refine ⟨_, _, by rw [lim_length (val Q)], by rw [lim_length (val Q)]; omega, Own.row ?_ (Nat.le_refl _), HB.out⟩
        have := HR.out.take (dig (val Q)).length
        rwa [ofN_take, take_dig_len HS.out] at this)
      rw [hQ] at HT
      obtain ⟨len, hlen⟩ : ∃ len, len = (dig (val Q)).length := ⟨_, rfl⟩
      rw [← hlen] at HT HEND
      clear d1 d2 hlen hk hk0 hQ hlenQ
      go_wp2_with fail
      refine HT.out.mono ?_
      rintro e w' ⟨rfl, rfl⟩
      go_wp2_with fail
      go_ret2
      exact HEND.out
end Go.Proofs.Ytnnbfoemmgddeaa
