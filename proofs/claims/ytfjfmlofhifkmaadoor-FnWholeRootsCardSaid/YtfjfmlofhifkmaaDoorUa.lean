/-
  Contracts: products of magnitudes. Conditions: the limbs can be read.
-/
import Derived.Test.YtfjfmlofhifkmaaDoorTg
namespace Go.Proofs.YtfjfmlofhifkmaaDoor
set_option linter.unusedVariables false
open Go Go.RowKit

theorem mk_mag_add (n m : Nat) (h : 8 * (n + m) ≤ 281474976710656) : ∀ w, (Instr.makeSlice 83 (.int .i64 ((n : Int) + (m : Int))) (.int .i64 ((n : Int) + (m : Int)))).run Tryd.prog w = .ok (.slice (some ⟨w.heap.size, 0, none⟩) (n + m) (n + m)) (w.alloc (.cells (madeCells #[.int .i64 0] (n + m)) 2)) := fun w => by
  have := mk_mag (n + m) h w
  rwa [Int.natCast_add] at this

theorem col_bound {xs ys L : List Nat} {i k j : Nat} (h : ColInv xs ys L i k) (hi : i < 4096) (hj : j < L.length) : (L[j] : Int) ≤ 1152921504606846976 := by
  rcases Nat.lt_or_ge j (i + k) with h1 | h1
  · have := h.lo j hj h1
    have h2 : (i + 1) * 281474976710656 ≤ 4096 * 281474976710656 := Nat.mul_le_mul_right _ (by omega)
    omega
  · have := h.hi j hj h1
    have h2 : i * 281474976710656 ≤ 4096 * 281474976710656 := Nat.mul_le_mul_right _ (by omega)
    omega

set_option maxRecDepth 100000 in
set_option maxHeartbeats 2000000 in
theorem iTimes (a b : Option Addr) (xs ys : List Nat) (c1 c2 : Nat) (w : World) (B C : Nat) (hB : B ≤ w.heap.size) (hC : C ≤ w.heap.size) (hx : Ints w B a (ofN xs)) (hy : Ints w C b (ofN ys)) (sx : Small xs) (sy : Small ys)
    (hl : xs.length ≤ 4095) (hl' : ys.length ≤ 1048576) :
    Calls Tryd.prog 106 #[.slice a xs.length c1, .slice b ys.length c2] w (RetL (lim (val xs * val ys)) w) := by
  have HX := Lib.hid hx
  have HY := Lib.hid hy
  have SX := Lib.hid sx
  have SY := Lib.hid sy
  have hmk := mk_mag_add xs.length ys.length (by omega)
  have hl2 : xs.length ≤ 4611686018427387903 := by omega
  have hl3 : ys.length ≤ 4611686018427387903 := by omega
  have HL := Lib.hid hl
  have HL' := Lib.hid hl'
  clear hx hy sx sy hl hl'
  have hm := i64_mask24
  go_enter Tryd.func106, Tryd.ntmps106
  go_wp2
  clear hmk
  go_loopw [21] (fun i wr => ∃ (k : Nat) (L : List Nat), k ≤ xs.length ∧ i = .int .i64 k ∧ ColInv xs ys L k 0 ∧ RowI wr w.heap.size (ofN L) ∧ Below w.heap.size w wr) (fun i _ => xs.length - (intOf i).toNat)
  case atStart => exact ⟨0, _, Nat.zero_le _, rfl, colInv_start xs ys, by rw [ofN_zeros]; exact RowI.made w _, (Below.refl _ _).alloc (Nat.le_refl _) _⟩
  case round =>
    obtain ⟨k, L, hk, rfl, hinv, hrow, hbel⟩ := hrel
    have HI := Lib.hid hinv
    have HR := Lib.hid hrow
    have HB := Lib.hid hbel
    clear hrow hbel hinv
    by_cases hkn : k < xs.length
    · obtain ⟨c', o, ha, hcB, hcell⟩ := HX.out k (by rw [ofN_length]; exact hkn)
      rw [ofN_at] at hcell
      subst ha
      obtain ⟨x, hxk⟩ : ∃ x : Nat, x = xs[k] := ⟨_, rfl⟩
      rw [← hxk] at hcell
      have hxb : x < 16777216 := by have := SX.out k hkn; omega
      have HXK := Lib.hid hxk
      have hkI : (k : Int) < (xs.length : Int) := by omega
      have h1 : wr.cell? ⟨c', o + k, none⟩ = some (.int .i64 x) := by rw [HB.out.cell (p := ⟨c', o + k, none⟩) (by show c' < _; omega)]; exact hcell
      clear hcell hxk
      go_wp2
      clear h1
      obtain ⟨wo, rfl⟩ : ∃ wo : World, wo = wr := ⟨_, rfl⟩
      go_loopw [28] (fun i wq => ∃ (q : Nat) (L : List Nat), q ≤ ys.length ∧ i = .int .i64 q ∧ ColInv xs ys L k q ∧ RowI wq w.heap.size (ofN L) ∧ Below w.heap.size w wq) (fun i _ => ys.length - (intOf i).toNat)
      case atStart => exact ⟨0, L, Nat.zero_le _, rfl, HI.out, HR.out, HB.out⟩
      case round =>
        clear HI HR HB L
        obtain ⟨q, L, hq, rfl, hinv, hrow, hbel⟩ := hrel
        have HI := Lib.hid hinv
        have HR := Lib.hid hrow
        have HB := Lib.hid hbel
        clear hrow hbel hinv
        by_cases hqn : q < ys.length
        · obtain ⟨c'', o', ha', hcC, hcell'⟩ := HY.out q (by rw [ofN_length]; exact hqn)
          rw [ofN_at] at hcell'
          subst ha'
          obtain ⟨y, hyk⟩ : ∃ y : Nat, y = ys[q] := ⟨_, rfl⟩
          rw [← hyk] at hcell'
          have hyb : y < 16777216 := by have := SY.out q hqn; omega
          have HYK := Lib.hid hyk
          have hqI : (q : Int) < (ys.length : Int) := by omega
          have h1' : wr.cell? ⟨c'', o' + q, none⟩ = some (.int .i64 y) := by rw [HB.out.cell (p := ⟨c'', o' + q, none⟩) (by show c'' < _; omega)]; exact hcell'
          have hlen := HI.out.len
          have hkq : k + q < L.length := by omega
          obtain ⟨v, hvk⟩ : ∃ v : Nat, v = L[k + q] := ⟨_, rfl⟩
          have h2 := HR.out.cell (k + q) (by rw [ofN_length]; exact hkq)
          rw [ofN_at, ← hvk] at h2
          have h3 := HR.out.frozen (k + q)
          have hvb : (v : Int) ≤ 1152921504606846976 := by rw [hvk]; exact col_bound HI.out (by have := HL.out; omega) hkq
          have hp0 : (0 : Int) ≤ (x : Int) * (y : Int) := Int.mul_nonneg (by omega) (by omega)
          have hp1 : (x : Int) * (y : Int) ≤ 281474976710656 := by
            have := Nat.mul_le_mul (Nat.le_of_lt hxb) (Nat.le_of_lt hyb)
            rw [← Int.natCast_mul]
            omega
          have hkqI : (k : Int) + (q : Int) < (xs.length : Int) + (ys.length : Int) := by omega
          have ht1 : ((k : Int) + (q : Int)).toNat = k + q := by omega
          have hs := colInv_step HI.out SX.out SY.out hkn hqn
          rw [← hvk, ← HXK.out, ← HYK.out] at hs
          have HSP := Lib.hid hs
          have HLEN := Lib.hid hlen
          clear hcell' hyk hvk hs hlen hkq
          go_wp2
          go_roundw
          case rel =>
            refine ⟨q + 1, L.set (k + q) (v + x * y), by omega, by go_num, HSP.out, ?_, HB.out.setCell (Nat.le_refl _) _⟩
            rw [← ofN_set, Int.natCast_add, Int.natCast_mul]
            exact HR.out.set_ (k + q) (by rw [ofN_length]; have := HLEN.out; omega) _
          case measure => simp [intOf]; omega
        · obtain rfl : q = ys.length := by omega
          have HN := Lib.hid (colInv_next HI.out hkn)
          go_wp2
          go_roundw
          case rel => exact ⟨k + 1, L, by omega, by go_num, HN.out, HR.out, HB.out⟩
          case measure => simp [intOf]; omega
    · obtain rfl : k = xs.length := by omega
      have hval := Lib.hid (colInv_done HI.out)
      have hlen := Lib.hid HI.out.len
      have hM : Hid (∀ (j : Nat) (h : j < L.length), L[j] ≤ 1152921504606846976) := Lib.hid (fun j hj => by
        have h := HI.out.hi j hj
        by_cases h0 : xs.length ≤ j
        · have := h (by omega)
          have h2 : xs.length * 281474976710656 ≤ 4096 * 281474976710656 := Nat.mul_le_mul_right _ (by have := HL.out; omega)
          omega
        · have := HI.out.lo j hj (by omega)
          have h2 : (xs.length + 1) * 281474976710656 ≤ 4096 * 281474976710656 := Nat.mul_le_mul_right _ (by have := HL.out; omega)
          omega)
      go_wp2
      obtain ⟨wo, rfl⟩ : ∃ wo : World, wo = wr := ⟨_, rfl⟩
      go_loopw [48, 10] (fun i q wr => ∃ (k : Nat) (M : List Nat) (cr : Nat), k ≤ L.length ∧ i = .int .i64 k ∧ q = .int .i64 cr ∧ CarInv L M 1152921504606846976 cr k ∧ RowI wr w.heap.size (ofN M) ∧ Below w.heap.size w wr) (fun i _ _ => L.length - (intOf i).toNat)
      case atStart => exact ⟨0, L, 0, Nat.zero_le _, rfl, rfl, carInv_start L _, HR.out, HB.out⟩
      case round =>
        clear HR HB
        obtain ⟨k, M, cr, hk, rfl, rfl, hinv, hrow, hbel⟩ := hrel
        have HI2 := Lib.hid hinv
        have HR := Lib.hid hrow
        have HB := Lib.hid hbel
        clear hrow hbel hinv
        by_cases hkn : k < L.length
        · have hMl : k < M.length := by rw [HI2.out.len]; exact hkn
          obtain ⟨v, hvk⟩ : ∃ v : Nat, v = M[k] := ⟨_, rfl⟩
          have h2 := HR.out.cell k (by rw [ofN_length]; exact hMl)
          rw [ofN_at, ← hvk] at h2
          have h3 := HR.out.frozen k
          have hvb : (v : Int) ≤ 1152921504606846976 := by
            rw [hvk, HI2.out.same k hMl hkn (Nat.le_refl _)]
            have := hM.out k hkn
            omega
          have hcb : (cr : Int) ≤ 1152921504606846976 := by have := HI2.out.hi; omega
          have hs := carInv_step HI2.out hM.out hMl
          rw [← hvk] at hs
          have HSP := Lib.hid hs
          have hkI : (k : Int) < (xs.length : Int) + (ys.length : Int) := by have := hlen.out; omega
          clear hvk hs
          go_wp2
          go_roundw
          case rel =>
            refine ⟨k + 1, M.set k ((cr + v) % 16777216), (cr + v) / 16777216, by omega, by go_num, by first | rfl | (congr 1), HSP.out, ?_, HB.out.setCell (Nat.le_refl _) _⟩
            rw [← ofN_set]
            exact HR.out.set_ k (by rw [ofN_length]; exact hMl) _
          case measure => simp [intOf]; omega
        · obtain rfl : k = L.length := by omega
          have hML := HI2.out.len
          obtain ⟨d1, d2⟩ := carInv_done (hML ▸ HI2.out) (by rw [hval.out, hlen.out]; exact mul_lt_pow SX.out SY.out)
          have D1 := Lib.hid d1
          have D2 := Lib.hid (d2.trans hval.out)
          have hML2 := Lib.hid (hML.trans hlen.out)
          have HT := Lib.hid (iTrimmed (some ⟨w.heap.size, 0, none⟩) M (xs.length + ys.length) wr _ HR.out.ints D1.out (by rw [hML2.out]; exact Nat.le_refl _) (by omega))
          have HEND := Lib.hid (show RetL (lim (val xs * val ys)) w (.returned (.slice (some ⟨w.heap.size, 0, none⟩) (dig (val M)).length (xs.length + ys.length))) wr from by
            have hle := dig_length_val_le D1.out
            rw [hML2.out] at hle
            rw [← D2.out]
            refine ⟨_, _, by rw [lim_length], by rw [lim_length]; exact hle, Own.row ?_ (Nat.le_refl _), HB.out⟩
            have := HR.out.take (dig (val M)).length
            rwa [ofN_take, take_dig_len D1.out] at this)
          rw [hML2.out] at HT
          have hkL : (L.length : Int) = (xs.length : Int) + (ys.length : Int) := by have := hlen.out; omega
          have HKL := Lib.hid hkL
          clear hML d1 d2 hkL
          rw [HKL.out]
          go_wp2_with fail
          refine HT.out.mono ?_
          rintro e w' ⟨rfl, rfl⟩
          go_wp2_with fail
          go_ret
          exact HEND.out

theorem iTimes' (a b : Option Addr) (m n : Nat) (c1 c2 : Nat) (w : World) (B C : Nat) (hB : B ≤ w.heap.size) (hC : C ≤ w.heap.size) (hx : Ints w B a (lim m)) (hy : Ints w C b (lim n))
    (hl : (lim m).length ≤ 4095) (hl' : (lim n).length ≤ 1048576) :
    Calls Tryd.prog 106 #[.slice a (lim m).length c1, .slice b (lim n).length c2] w (RetL (lim (m * n)) w) := by
  rw [lim_length] at hl hl' ⊢
  rw [lim_length]
  have := iTimes a b (dig m) (dig n) c1 c2 w B C hB hC hx hy (small_dig m) (small_dig n) hl hl'
  rwa [val_dig, val_dig] at this
end Go.Proofs.YtfjfmlofhifkmaaDoor
