/-
  Contracts: products of magnitudes. Conditions: the limbs can be read. Contracts: products of whole numbers of the program. Conditions: the limbs can be read. Contracts: products of whole numbers of the model. Conditions: the limbs can be read.
-/
import Derived.Test.YtgppagmejhgmaaaGreatDoorTg
namespace Go.Proofs.YtgppagmejhgmaaaGreatDoor
set_option linter.unusedVariables false
open Go Go.RowKit

theorem mk_mag_add (n m : Nat) (h : 8 * (n + m) ≤ 281474976710656) : ∀ w, (Instr.makeSlice 92 (.int .i64 ((n : Int) + (m : Int))) (.int .i64 ((n : Int) + (m : Int)))).run Tryz.prog w = .ok (.slice (some ⟨w.heap.size, 0, none⟩) (n + m) (n + m)) (w.alloc (.cells (madeCells #[.int .i64 0] (n + m)) 2)) := fun w => by
  have := mk_mag (n + m) h w
  rwa [Int.natCast_add] at this

theorem col_bound {xs ys L : List Nat} {i k j : Nat} (h : ColInv xs ys L i k) (hi : i < 4096) (hj : j < L.length) : (L[j] : Int) ≤ 1152921504606846976 := by
  rcases Nat.lt_or_ge j (i + k) with h1 | h1
  · have := h.lo j hj h1
    have h2 : (i + 1) * 281474976710656 ≤ 4096 * 281474976710656 := Nat.mul_le_mul_right _ (by omega)
    omega
  · have := h.hi j hj h1
    have h2 : i * 281474976710656 ≤ 4096 * 281474976710656 := Nat.mul_le_mul_right _ (by omega)
    omega

set_option maxRecDepth 100000 in
set_option maxHeartbeats 2000000 in
theorem iTimes (a b : Option Addr) (xs ys : List Nat) (c1 c2 : Nat) (w : World) (B C : Nat) (hB : B ≤ w.heap.size) (hC : C ≤ w.heap.size) (hx : Ints w B a (ofN xs)) (hy : Ints w C b (ofN ys)) (sx : Small xs) (sy : Small ys)
    (hl : xs.length ≤ 4095) (hl' : ys.length ≤ 1048576) :
    Calls Tryz.prog 115 #[.slice a xs.length c1, .slice b ys.length c2] w (RetL (lim (val xs * val ys)) w) := by
  have HX := Lib.hid hx
  have HY := Lib.hid hy
  have SX := Lib.hid sx
  have SY := Lib.hid sy
  have hmk := mk_mag_add xs.length ys.length (by omega)
  have hl2 : xs.length ≤ 4611686018427387903 := by omega
  have hl3 : ys.length ≤ 4611686018427387903 := by omega
  have HL := Lib.hid hl
  have HL' := Lib.hid hl'
  clear hx hy sx sy hl hl'
  have hm := i64_mask24
  go_enter Tryz.func115, Tryz.ntmps115
  go_wp2
  clear hmk
  go_loopw [21] (fun i wr => ∃ (k : Nat) (L : List Nat), k ≤ xs.length ∧ i = .int .i64 k ∧ ColInv xs ys L k 0 ∧ RowI wr w.heap.size (ofN L) ∧ Below w.heap.size w wr) (fun i _ => xs.length - (intOf i).toNat)
  case atStart => exact ⟨0, _, Nat.zero_le _, rfl, colInv_start xs ys, by rw [ofN_zeros]; exact RowI.made w _, (Below.refl _ _).alloc (Nat.le_refl _) _⟩
  case round =>
    obtain ⟨k, L, hk, rfl, hinv, hrow, hbel⟩ := hrel
    have HI := Lib.hid hinv
    have HR := Lib.hid hrow
    have HB := Lib.hid hbel
    clear hrow hbel hinv
    by_cases hkn : k < xs.length
    · obtain ⟨c', o, ha, hcB, hcell⟩ := HX.out k (by rw [ofN_length]; exact hkn)
      rw [ofN_at] at hcell
      subst ha
      obtain ⟨x, hxk⟩ : ∃ x : Nat, x = xs[k] := ⟨_, rfl⟩
      rw [← hxk] at hcell
      have hxb : x < 16777216 := by have := SX.out k hkn; omega
      have HXK := Lib.hid hxk
      have hkI : (k : Int) < (xs.length : Int) := by omega
      have h1 : wr.cell? ⟨c', o + k, none⟩ = some (.int .i64 x) := by rw [HB.out.cell (p := ⟨c', o + k, none⟩) (by show c' < _; omega)]; exact hcell
      clear hcell hxk
      go_wp2
      clear h1
      obtain ⟨wo, rfl⟩ : ∃ wo : World, wo = wr := ⟨_, rfl⟩
      go_loopw [28] (fun i wq => ∃ (q : Nat) (L : List Nat), q ≤ ys.length ∧ i = .int .i64 q ∧ ColInv xs ys L k q ∧ RowI wq w.heap.size (ofN L) ∧ Below w.heap.size w wq) (fun i _ => ys.length - (intOf i).toNat)
      case atStart => exact ⟨0, L, Nat.zero_le _, rfl, HI.out, HR.out, HB.out⟩
      case round =>
        clear HI HR HB L
        obtain ⟨q, L, hq, rfl, hinv, hrow, hbel⟩ := hrel
        have HI := Lib.hid hinv
        have HR := Lib.hid hrow
        have HB := Lib.hid hbel
        clear hrow hbel hinv
        by_cases hqn : q < ys.length
        · obtain ⟨c'', o', ha', hcC, hcell'⟩ := HY.out q (by rw [ofN_length]; exact hqn)
          rw [ofN_at] at hcell'
          subst ha'
          obtain ⟨y, hyk⟩ : ∃ y : Nat, y = ys[q] := ⟨_, rfl⟩
          rw [← hyk] at hcell'
          have hyb : y < 16777216 := by have := SY.out q hqn; omega
          have HYK := Lib.hid hyk
          have hqI : (q : Int) < (ys.length : Int) := by omega
          have h1' : wr.cell? ⟨c'', o' + q, none⟩ = some (.int .i64 y) := by rw [HB.out.cell (p := ⟨c'', o' + q, none⟩) (by show c'' < _; omega)]; exact hcell'
          have hlen := HI.out.len
          have hkq : k + q < L.length := by omega
          obtain ⟨v, hvk⟩ : ∃ v : Nat, v = L[k + q] := ⟨_, rfl⟩
          have h2 := HR.out.cell (k + q) (by rw [ofN_length]; exact hkq)
          rw [ofN_at, ← hvk] at h2
          have h3 := HR.out.frozen (k + q)
          have hvb : (v : Int) ≤ 1152921504606846976 := by rw [hvk]; exact col_bound HI.out (by have := HL.out; omega) hkq
          have hp0 : (0 : Int) ≤ (x : Int) * (y : Int) := Int.mul_nonneg (by omega) (by omega)
          have hp1 : (x : Int) * (y : Int) ≤ 281474976710656 := by
            have := Nat.mul_le_mul (Nat.le_of_lt hxb) (Nat.le_of_lt hyb)
            rw [← Int.natCast_mul]
            omega
          have hkqI : (k : Int) + (q : Int) < (xs.length : Int) + (ys.length : Int) := by omega
          have ht1 : ((k : Int) + (q : Int)).toNat = k + q := by omega
          have hs := colInv_step HI.out SX.out SY.out hkn hqn
          rw [← hvk, ← HXK.out, ← HYK.out] at hs
          have HSP := Lib.hid hs
          have HLEN := Lib.hid hlen
          clear hcell' hyk hvk hs hlen hkq
          go_wp2
          go_roundw
          case rel =>
            refine ⟨q + 1, L.set (k + q) (v + x * y), by omega, by go_num, HSP.out, ?_, HB.out.setCell (Nat.le_refl _) _⟩
            rw [← ofN_set, Int.natCast_add, Int.natCast_mul]
            exact HR.out.set_ (k + q) (by rw [ofN_length]; have := HLEN.out; omega) _
          case measure => simp [intOf]; omega
        · obtain rfl : q = ys.length := by omega
          have HN := Lib.hid (colInv_next HI.out hkn)
          go_wp2
          go_roundw
          case rel => exact ⟨k + 1, L, by omega, by go_num, HN.out, HR.out, HB.out⟩
          case measure => simp [intOf]; omega
    · obtain rfl : k = xs.length := by omega
      have hval := Lib.hid (colInv_done HI.out)
      have hlen := Lib.hid HI.out.len
      have hM : Hid (∀ (j : Nat) (h : j < L.length), L[j] ≤ 1152921504606846976) := Lib.hid (fun j hj => by
        have h := HI.out.hi j hj
        by_cases h0 : xs.length ≤ j
        · have := h (by omega)
          have h2 : xs.length * 281474976710656 ≤ 4096 * 281474976710656 := Nat.mul_le_mul_right _ (by have := HL.out; omega)
          omega
        · have := HI.out.lo j hj (by omega)
          have h2 : (xs.length + 1) * 281474976710656 ≤ 4096 * 281474976710656 := Nat.mul_le_mul_right _ (by have := HL.out; omega)
          omega)
      go_wp2
      obtain ⟨wo, rfl⟩ : ∃ wo : World, wo = wr := ⟨_, rfl⟩
      go_loopw [48, 10] (fun i q wr => ∃ (k : Nat) (M : List Nat) (cr : Nat), k ≤ L.length ∧ i = .int .i64 k ∧ q = .int .i64 cr ∧ CarInv L M 1152921504606846976 cr k ∧ RowI wr w.heap.size (ofN M) ∧ Below w.heap.size w wr) (fun i _ _ => L.length - (intOf i).toNat)
      case atStart => exact ⟨0, L, 0, Nat.zero_le _, rfl, rfl, carInv_start L _, HR.out, HB.out⟩
      case round =>
        clear HR HB
        obtain ⟨k, M, cr, hk, rfl, rfl, hinv, hrow, hbel⟩ := hrel
        have HI2 := Lib.hid hinv
        have HR := Lib.hid hrow
        have HB := Lib.hid hbel
        clear hrow hbel hinv
        by_cases hkn : k < L.length
        · have hMl : k < M.length := by rw [HI2.out.len]; exact hkn
          obtain ⟨v, hvk⟩ : ∃ v : Nat, v = M[k] := ⟨_, rfl⟩
          have h2 := HR.out.cell k (by rw [ofN_length]; exact hMl)
          rw [ofN_at, ← hvk] at h2
          have h3 := HR.out.frozen k
          have hvb : (v : Int) ≤ 1152921504606846976 := by
            rw [hvk, HI2.out.same k hMl hkn (Nat.le_refl _)]
            have := hM.out k hkn
            omega
          have hcb : (cr : Int) ≤ 1152921504606846976 := by have := HI2.out.hi; omega
          have hs := carInv_step HI2.out hM.out hMl
          rw [← hvk] at hs
          have HSP := Lib.hid hs
          have hkI : (k : Int) < (xs.length : Int) + (ys.length : Int) := by have := hlen.out; omega
          clear hvk hs
          go_wp2
          go_roundw
          case rel =>
            refine ⟨k + 1, M.set k ((cr + v) % 16777216), (cr + v) / 16777216, by omega, by go_num, by first | rfl | (congr 1), HSP.out, ?_, HB.out.setCell (Nat.le_refl _) _⟩
            rw [← ofN_set]
            exact HR.out.set_ k (by rw [ofN_length]; exact hMl) _
          case measure => simp [intOf]; omega
        · obtain rfl : k = L.length := by omega
          have hML := HI2.out.len
          obtain ⟨d1, d2⟩ := carInv_done (hML ▸ HI2.out) (by rw [hval.out, hlen.out]; exact mul_lt_pow SX.out SY.out)
          have D1 := Lib.hid d1
          have D2 := Lib.hid (d2.trans hval.out)
          have hML2 := Lib.hid (hML.trans hlen.out)
          have HT := Lib.hid (iTrimmed (some ⟨w.heap.size, 0, none⟩) M (xs.length + ys.length) wr _ HR.out.ints D1.out (by rw [hML2.out]; exact Nat.le_refl _) (by omega))
          have HEND := Lib.hid (show RetL (lim (val xs * val ys)) w (.returned (.slice (some ⟨w.heap.size, 0, none⟩) (dig (val M)).length (xs.length + ys.length))) wr from by
            have hle := dig_length_val_le D1.out
            rw [hML2.out] at hle
            rw [← D2.out]
            refine ⟨_, _, by rw [lim_length], by rw [lim_length]; exact hle, Own.row ?_ (Nat.le_refl _), HB.out⟩
            have := HR.out.take (dig (val M)).length
            rwa [ofN_take, take_dig_len D1.out] at this)
          rw [hML2.out] at HT
          have hkL : (L.length : Int) = (xs.length : Int) + (ys.length : Int) := by have := hlen.out; omega
          have HKL := Lib.hid hkL
          clear hML d1 d2 hkL
          rw [HKL.out]
          go_wp2_with fail
          refine HT.out.mono ?_
          rintro e w' ⟨rfl, rfl⟩
          go_wp2_with fail
          go_ret
          exact HEND.out

theorem iTimes' (a b : Option Addr) (m n : Nat) (c1 c2 : Nat) (w : World) (B C : Nat) (hB : B ≤ w.heap.size) (hC : C ≤ w.heap.size) (hx : Ints w B a (lim m)) (hy : Ints w C b (lim n))
    (hl : (lim m).length ≤ 4095) (hl' : (lim n).length ≤ 1048576) :
    Calls Tryz.prog 115 #[.slice a (lim m).length c1, .slice b (lim n).length c2] w (RetL (lim (m * n)) w) := by
  rw [lim_length] at hl hl' ⊢
  rw [lim_length]
  have := iTimes a b (dig m) (dig n) c1 c2 w B C hB hC hx hy (small_dig m) (small_dig n) hl hl'
  rwa [val_dig, val_dig] at this

theorem sg_mul {s t : Int} {m n : Nat} (hs : Sg s m) (ht : Sg t n) : sgnOf (s * t) (m * n) = ((s * m) * (t * n)).sign ∧ m * n = ((s * m) * (t * n)).natAbs := by
  refine sgnOf_eq ?_ ?_
  · unfold Sg at hs ht
    rcases hs with ⟨rfl, rfl⟩ | ⟨hs, rfl | rfl⟩ <;> rcases ht with ⟨rfl, rfl⟩ | ⟨ht, rfl | rfl⟩ <;> simp
  · rw [Int.natCast_mul]
    grind
theorem len_mul {s t : Int} {m n : Nat} (hs : Sg s m) (ht : Sg t n) (hm : (lim m).length ≤ 200) (hn : (lim n).length ≤ 200) : (lim ((s * (m : Int)) * (t * n)).natAbs).length ≤ 1048576 := by
  rw [← (sg_mul hs ht).2]
  have := lim_mul_len m n
  omega

set_option maxHeartbeats 2000000 in
theorem iWTimes (s t : Int) (a b : Option Addr) (m n c1 c2 : Nat) (w : World) (B C : Nat) (hB : B ≤ w.heap.size) (hC : C ≤ w.heap.size) (hx : Ints w B a (lim m)) (hy : Ints w C b (lim n)) (hs : Sg s m) (ht : Sg t n)
    (hl : (lim m).length ≤ 4095) (hl' : (lim n).length ≤ 4095) :
    Calls Tryz.prog 89 #[.agg #[.int .i64 s, .slice a (lim m).length c1], .agg #[.int .i64 t, .slice b (lim n).length c2]] w (RetZ ((s * m) * (t * n)) w) := by

  obtain ⟨W0, hW0⟩ : ∃ W0 : World, ((w.alloc (.cells #[.int .i64 s, .slice a (lim m).length c1] 60)).alloc (.cells #[.int .i64 t, .slice b (lim n).length c2] 60)).alloc (.cells #[.int .i64 0, .slice none 0 0] 60) = W0 := ⟨_, rfl⟩
  obtain ⟨p1, p2, p5, p3, p4⟩ := three_box w 60 #[.int .i64 s, .slice a (lim m).length c1] #[.int .i64 t, .slice b (lim n).length c2] #[.int .i64 0, .slice none 0 0]
  rw [hW0] at p1 p2 p3 p4 p5
  have HW0 := Lib.hid hW0
  have P3 := Lib.hid p3
  have P4 := Lib.hid p4
  have SS := Lib.hid (show ∀ W, Below W0.heap.size W0 W → (W.cell? ⟨w.heap.size, 0, none⟩ = some (.int .i64 s) ∧ W.cell? ⟨w.heap.size, 1, none⟩ = some (.slice a (lim m).length c1) ∧ W.cell? ⟨w.heap.size + 1, 0, none⟩ = some (.int .i64 t) ∧ W.cell? ⟨w.heap.size + 1, 1, none⟩ = some (.slice b (lim n).length c2)) from
    fun W hW => ⟨(p1.below hW).cell 0, (p1.below hW).cell 1, (p2.below hW).cell 0, (p2.below hW).cell 1⟩)
  have SR := Lib.hid (show ∀ W, Below W0.heap.size W0 W → (W.cell? ⟨w.heap.size + 1 + 1, 0, none⟩ = some (.int .i64 0) ∧ W.cell? ⟨w.heap.size + 1 + 1, 1, none⟩ = some (.slice none 0 0) ∧ W.frozen? ⟨w.heap.size + 1 + 1, 0, none⟩ = false ∧ W.frozen? ⟨w.heap.size + 1 + 1, 1, none⟩ = false) from
    fun W hW => (p5.below hW).two)
  have ST := Lib.hid (show ∀ W u v, Below W0.heap.size W0 W → (fun W : World => W.cell? ⟨w.heap.size, 0, none⟩ = some (.int .i64 s) ∧ W.cell? ⟨w.heap.size, 1, none⟩ = some (.slice a (lim m).length c1) ∧ W.cell? ⟨w.heap.size + 1, 0, none⟩ = some (.int .i64 t) ∧ W.cell? ⟨w.heap.size + 1, 1, none⟩ = some (.slice b (lim n).length c2)) ((W.setCell ⟨w.heap.size + 1 + 1, 0, none⟩ u).setCell ⟨w.heap.size + 1 + 1, 1, none⟩ v) from fun W u v hW =>
    ⟨(((p1.below hW).far (by simp <;> omega) _).far (by simp <;> omega) _).cell 0, (((p1.below hW).far (by simp <;> omega) _).far (by simp <;> omega) _).cell 1, (((p2.below hW).far (by simp <;> omega) _).far (by simp <;> omega) _).cell 0, (((p2.below hW).far (by simp <;> omega) _).far (by simp <;> omega) _).cell 1⟩)
  have HS := Lib.hid (show ∀ (s : Int) (a : Option Addr) (n c : Nat) W, Below W0.heap.size W0 W → Calls Tryz.prog 65 #[.agg #[.int .i64 s, .slice a n c]] W fun e w' => e = .returned (.slice a n c) ∧ Below W0.heap.size W0 w' from
    fun s a n c W hW => (iSize s a n c W).mono fun e w' ⟨he, hb⟩ => ⟨he, hW.trans (hb.mono hW.size)⟩)
  have HG := Lib.hid (show ∀ (s : Int) (k : Nat) (a : Option Addr) (c : Nat) W, (lim k).length ≤ c → Own W W0.heap.size a (lim k) → Below W0.heap.size W0 W → Calls Tryz.prog 95 #[.int .i64 s, .slice a (lim k).length c] W fun e w' => ∃ a c, e = .returned (.agg #[.int .i64 (sgnOf s k), .slice a (lim k).length c]) ∧ (lim k).length ≤ c ∧ Own w' W0.heap.size a (lim k) ∧ Below W0.heap.size W0 w' from
    fun s k a c W h1 h2 hW => (iSigned s k a c W W0.heap.size h1 h2).mono fun e w' ⟨a, c, he, hc, ho, hb⟩ => ⟨a, c, he, hc, ho, hW.trans (hb.mono hW.size)⟩)
  have hT : Below W0.heap.size W0 W0 := Below.refl _ _
  have hT' : Below W0.heap.size W0 W0.drew := hT.drew
  have IX := Lib.hid (show ∀ W, Below W0.heap.size W0 W → Ints W B a (lim m) ∧ Ints W C b (lim n) ∧ B ≤ W.heap.size ∧ C ≤ W.heap.size from fun W hW => ⟨hx.below ((p3.mono hB).trans (hW.mono (by omega))), hy.below ((p3.mono hC).trans (hW.mono (by omega))), by have := hW.size; omega, by have := hW.size; omega⟩)
  have HPL := Lib.hid (show ∀ W, Below W0.heap.size W0 W → Calls Tryz.prog 115 #[.slice a (lim m).length c1, .slice b (lim n).length c2] W fun e w' => ∃ a c, e = .returned (.slice a (lim (m * n)).length c) ∧ (lim (m * n)).length ≤ c ∧ Own w' W0.heap.size a (lim (m * n)) ∧ Below W0.heap.size W0 w' from
    fun W hW => (iTimes' a b m n c1 c2 W B C (IX.out W hW).2.2.1 (IX.out W hW).2.2.2 (IX.out W hW).1 (IX.out W hW).2.1 hl (by omega)).mono fun e w' ⟨a, c, he, hc, ho, hb⟩ => ⟨a, c, he, hc, ho.mono hW.size, hW.trans (hb.mono hW.size)⟩)
  have HF := Lib.hid (sg_mul hs ht)
  have hst : (-1 ≤ s ∧ s ≤ 1) ∧ (-1 ≤ t ∧ t ≤ 1) := by unfold Sg at hs ht; omega
  obtain ⟨⟨hs1, hs2⟩, ht1, ht2⟩ := hst
  have hwr : IntKind.i64.wrap (s * t) = s * t := by
    have h1 : s = -1 ∨ s = 0 ∨ s = 1 := by omega
    rw [IntKind.wrap_i64]
    rcases h1 with rfl | rfl | rfl <;> omega
  obtain ⟨z, hz⟩ : ∃ z, z = (s * (m : Int)) * (t * n) := ⟨_, rfl⟩
  rw [← hz] at HF ⊢
  clear p1 p2 p3 p4 p5 hx hy hl hl' hW0 hB hC IX hs ht hz
  go_enter Tryz.func89, Tryz.ntmps89
  go_wp2_with fail
  rw [HW0.out]
  go_region_held3 (fun W => W.cell? ⟨w.heap.size, 0, none⟩ = some (.int .i64 s) ∧ W.cell? ⟨w.heap.size, 1, none⟩ = some (.slice a (lim m).length c1) ∧ W.cell? ⟨w.heap.size + 1, 0, none⟩ = some (.int .i64 t) ∧ W.cell? ⟨w.heap.size + 1, 1, none⟩ = some (.slice b (lim n).length c2))
    (first | exact SS.out _ (by assumption) | exact ST.out _ _ _ (by assumption))
    (first
    | (go_at_call 65; refine (HS.out _ _ _ _ _ (by assumption)).mono ?_; rintro e w' ⟨rfl, hb⟩)
    | (go_at_call 115; refine (HPL.out _ (by assumption)).mono ?_; rintro e w' ⟨a', c', rfl, hc', ho', hb⟩)
    | (go_at_call 95; refine (HG.out _ _ _ _ _ (by assumption) (by assumption) (by assumption)).mono ?_; rintro e w' ⟨a', c', rfl, hc', ho', hb⟩; obtain ⟨q1, q2, q3, q4⟩ := SR.out _ hb))
  go_wp2_with fail
  refine bodyPost_ret (v := .agg #[.int .i64 (sgnOf (s * t) (m * n)), .slice a' (lim (m * n)).length c']) (by simp [results, Tryz.results89, go_sem, *]) rfl ?_
  exact retZ_end P3.out P4.out (by assumption) _ _ (by assumption) (by assumption) HF.out

/-- Schoolbook multiplication: rounds i are done, and of the next one k, with the carry c. -/
structure MulInv (xs ys L : List Nat) (i k c : Nat) : Prop where
  len : L.length = xs.length + ys.length + 1
  small : Small L
  zero : ∀ (j : Nat) (h : j < L.length), i + ys.length ≤ j → L[j] = 0
  hi : c < 16777216
  sum : val L + 16777216 ^ (i + k) * c = val (xs.take i) * val ys + 16777216 ^ i * (xs.getD i 0 * val (ys.take k))
theorem mulInv_start (xs ys : List Nat) : MulInv xs ys (List.replicate (xs.length + ys.length + 1) 0) 0 0 0 :=
  ⟨by simp, small_zeros _, fun j h _ => by simp, by omega, by simp [val_zeros, val]⟩
theorem mul_small {x y : Nat} (hx : x < 16777216) (hy : y < 16777216) : x * y ≤ 281474943156225 := by
  have := Nat.mul_le_mul (show x ≤ 16777215 by omega) (show y ≤ 16777215 by omega)
  omega
theorem mulInv_step {xs ys L : List Nat} {i k c : Nat} (h : MulInv xs ys L i k c) (hx : Small xs) (hy : Small ys) (hi : i < xs.length) (hk : k < ys.length) :
    MulInv xs ys (L.set (i + k) ((c + L[i + k]'(by have := h.len; omega) + xs[i] * ys[k]) % 16777216)) i (k + 1) ((c + L[i + k]'(by have := h.len; omega) + xs[i] * ys[k]) / 16777216) := by
  have hl := h.len
  have hik : i + k < L.length := by omega
  have hp := mul_small (hx i hi) (hy k hk)
  have hL := h.small (i + k) hik
  have hc := h.hi
  have hs := h.sum
  have hv := val_set (xs := L) (i + k) hik ((c + L[i + k] + xs[i] * ys[k]) % 16777216)
  refine ⟨by simpa using hl, small_set h.small _ (by omega), fun j hj hij => ?_, by omega, ?_⟩
  · rw [List.getElem_set_ne (by omega)]; exact h.zero j (by simpa using hj) hij
  · rw [val_take_succ ys k hk]
    rw [getD_of_lt hi] at hs ⊢
    have h3 : (c + L[i + k] + xs[i] * ys[k]) % 16777216 + 16777216 * ((c + L[i + k] + xs[i] * ys[k]) / 16777216) = c + L[i + k] + xs[i] * ys[k] := by omega
    generalize (c + L[i + k] + xs[i] * ys[k]) % 16777216 = r at *
    generalize (c + L[i + k] + xs[i] * ys[k]) / 16777216 = q at *
    rw [show i + (k + 1) = i + k + 1 by omega, Nat.pow_succ]
    rw [Nat.pow_add] at hv hs ⊢
    generalize xs[i] = x at *
    generalize ys[k] = y at *
    generalize L[i + k] = z at *
    grind
theorem mulInv_next {xs ys L : List Nat} {i c : Nat} (h : MulInv xs ys L i ys.length c) (hi : i < xs.length) : MulInv xs ys (L.set (i + ys.length) c) (i + 1) 0 0 := by
  have hl := h.len
  have hz := h.zero (i + ys.length) (by omega) (Nat.le_refl _)
  have hv := val_set (xs := L) (i + ys.length) (by omega) c
  have hs := h.sum
  refine ⟨by simpa using hl, small_set h.small _ h.hi, fun j hj hij => ?_, by omega, ?_⟩
  · rw [List.getElem_set_ne (by omega)]; exact h.zero j (by simpa using hj) (by omega)
  · rw [val_take_succ xs i hi]
    rw [getD_of_lt hi, List.take_length] at hs
    rw [hz] at hv
    have e0 : val (ys.take 0) = 0 := by rw [List.take_zero]; rfl
    rw [e0]
    generalize val (L.set (i + ys.length) c) = A at *
    generalize 16777216 ^ (i + ys.length) = p at *
    generalize 16777216 ^ (i + 1 + 0) = p1
    generalize 16777216 ^ (i + 1) = p2
    generalize 16777216 ^ i = p3 at *
    rw [Nat.mul_zero, Nat.mul_zero, Nat.mul_zero, Nat.add_zero, Nat.add_zero, Nat.add_mul, Nat.mul_assoc]
    rw [Nat.mul_zero, Nat.add_zero] at hv
    omega
theorem mulInv_done {xs ys L : List Nat} (h : MulInv xs ys L xs.length 0 0) : val L = val xs * val ys := by
  have hs := h.sum
  rw [List.take_length, getD_of_ge (Nat.le_refl _)] at hs
  simpa using hs
theorem mk_ints3 (n m : Nat) (h : 8 * (n + m + 1) ≤ 281474976710656) : ∀ w, (Instr.makeSlice 58 (.int .i64 ((n : Int) + (m : Int) + 1)) (.int .i64 ((n : Int) + (m : Int) + 1))).run Tryz.prog w = .ok (.slice (some ⟨w.heap.size, 0, none⟩) (n + m + 1) (n + m + 1)) (w.alloc (.cells (madeCells #[.int .i64 0] (n + m + 1)) 2)) := fun w => by
  have := mk_ints (n + m + 1) h w
  rwa [Int.natCast_succ, Int.natCast_add] at this

set_option maxRecDepth 100000 in
set_option maxHeartbeats 4000000 in
theorem sMul (s t : Int) (a b : Option Addr) (m n c1 c2 : Nat) (w : World) (B C : Nat) (hB : B ≤ w.heap.size) (hC : C ≤ w.heap.size) (hx : Ints w B a (lim m)) (hy : Ints w C b (lim n)) (hs : Sg s m) (ht : Sg t n)
    (hl : (lim m).length ≤ 4095) (hl' : (lim n).length ≤ 4095) :
    Calls Tryz.prog 82 #[.agg #[.int .i64 s, .slice a (lim m).length c1], .agg #[.int .i64 t, .slice b (lim n).length c2]] w (RetZ ((s * m) * (t * n)) w) := by

  obtain ⟨W0, hW0⟩ : ∃ W0 : World, ((w.alloc (.cells #[.int .i64 s, .slice a (lim m).length c1] 60)).alloc (.cells #[.int .i64 t, .slice b (lim n).length c2] 60)).alloc (.cells #[.int .i64 0, .slice none 0 0] 60) = W0 := ⟨_, rfl⟩
  obtain ⟨p1, p2, p5, p3, p4⟩ := three_box w 60 #[.int .i64 s, .slice a (lim m).length c1] #[.int .i64 t, .slice b (lim n).length c2] #[.int .i64 0, .slice none 0 0]
  rw [hW0] at p1 p2 p3 p4 p5
  have HW0 := Lib.hid hW0
  have P3 := Lib.hid p3
  have P4 := Lib.hid p4
  have SS := Lib.hid (show ∀ W, Below W0.heap.size W0 W → (W.cell? ⟨w.heap.size, 0, none⟩ = some (.int .i64 s) ∧ W.cell? ⟨w.heap.size, 1, none⟩ = some (.slice a (lim m).length c1) ∧ W.cell? ⟨w.heap.size + 1, 0, none⟩ = some (.int .i64 t) ∧ W.cell? ⟨w.heap.size + 1, 1, none⟩ = some (.slice b (lim n).length c2)) from
    fun W hW => ⟨(p1.below hW).cell 0, (p1.below hW).cell 1, (p2.below hW).cell 0, (p2.below hW).cell 1⟩)
  have SR := Lib.hid (show ∀ W, Below W0.heap.size W0 W → (W.cell? ⟨w.heap.size + 1 + 1, 0, none⟩ = some (.int .i64 0) ∧ W.cell? ⟨w.heap.size + 1 + 1, 1, none⟩ = some (.slice none 0 0) ∧ W.frozen? ⟨w.heap.size + 1 + 1, 0, none⟩ = false ∧ W.frozen? ⟨w.heap.size + 1 + 1, 1, none⟩ = false) from
    fun W hW => (p5.below hW).two)
  have ST := Lib.hid (show ∀ W u v, Below W0.heap.size W0 W → (fun W : World => W.cell? ⟨w.heap.size, 0, none⟩ = some (.int .i64 s) ∧ W.cell? ⟨w.heap.size, 1, none⟩ = some (.slice a (lim m).length c1) ∧ W.cell? ⟨w.heap.size + 1, 0, none⟩ = some (.int .i64 t) ∧ W.cell? ⟨w.heap.size + 1, 1, none⟩ = some (.slice b (lim n).length c2)) ((W.setCell ⟨w.heap.size + 1 + 1, 0, none⟩ u).setCell ⟨w.heap.size + 1 + 1, 1, none⟩ v) from fun W u v hW =>
    ⟨(((p1.below hW).far (by simp <;> omega) _).far (by simp <;> omega) _).cell 0, (((p1.below hW).far (by simp <;> omega) _).far (by simp <;> omega) _).cell 1, (((p2.below hW).far (by simp <;> omega) _).far (by simp <;> omega) _).cell 0, (((p2.below hW).far (by simp <;> omega) _).far (by simp <;> omega) _).cell 1⟩)
  have hT : Below W0.heap.size W0 W0 := Below.refl _ _
  have hT' : Below W0.heap.size W0 W0.drew := hT.drew
  have IX := Lib.hid (show ∀ W, Below W0.heap.size W0 W → Ints W B a (lim m) ∧ Ints W C b (lim n) ∧ B ≤ W.heap.size ∧ C ≤ W.heap.size from fun W hW => ⟨hx.below ((p3.mono hB).trans (hW.mono (by omega))), hy.below ((p3.mono hC).trans (hW.mono (by omega))), by have := hW.size; omega, by have := hW.size; omega⟩)
  have HF := Lib.hid (sg_mul hs ht)
  obtain ⟨xs, hxs⟩ : ∃ xs, xs = dig m := ⟨_, rfl⟩
  obtain ⟨ys, hys⟩ : ∃ ys, ys = dig n := ⟨_, rfl⟩
  have hlx : (lim m).length = xs.length := by rw [lim_length, hxs]
  have hly : (lim n).length = ys.length := by rw [lim_length, hys]
  have hvx : val xs * val ys = m * n := by rw [hxs, hys, val_dig, val_dig]
  have HVX := Lib.hid hvx
  have SX := Lib.hid (show Small xs from hxs ▸ small_dig m)
  have SY := Lib.hid (show Small ys from hys ▸ small_dig n)
  have hmk := mk_ints3 xs.length ys.length (by omega)
  rw [hlx, hly] at SS ST HW0 ⊢
  have IX2 := Lib.hid (show ∀ W, Below W0.heap.size W0 W → Ints W B a (ofN xs) ∧ Ints W C b (ofN ys) from fun W hW => ⟨by rw [hxs]; exact (IX.out W hW).1, by rw [hys]; exact (IX.out W hW).2.1⟩)
  have HMK := Lib.hid (show ∀ (s : Int) (v : Nat) (L : List Nat) (a : Option Addr) (c N : Nat) W, N = L.length → val L = v → Small L → L.length ≤ c → L.length ≤ 8388608 → Ints W W.heap.size a (ofN L) → Below W0.heap.size W0 W → Calls Tryz.prog 103 #[.int .i64 s, .slice a N c] W fun e w' => ∃ a c, e = .returned (.agg #[.int .i64 (sgnOf s v), .slice a (lim v).length c]) ∧ (lim v).length ≤ c ∧ Own w' W0.heap.size a (lim v) ∧ Below W0.heap.size W0 w' from
    fun s v L a c N W hN hv hs hc hl hi hW => by
      subst hN
      have := sMake s a L c W W.heap.size (Nat.le_refl _) hi hs hc hl
      rw [hv] at this
      exact this.mono fun e w' ⟨a, c, he, hc, ho, hb⟩ => ⟨a, c, he, hc, ho.mono hW.size, hW.trans (hb.mono hW.size)⟩)
  have hst : (-1 ≤ s ∧ s ≤ 1) ∧ (-1 ≤ t ∧ t ≤ 1) := by unfold Sg at hs ht; omega
  obtain ⟨⟨hs1, hs2⟩, ht1, ht2⟩ := hst
  have hwr : IntKind.i64.wrap (s * t) = s * t := by
    have h1 : s = -1 ∨ s = 0 ∨ s = 1 := by omega
    rw [IntKind.wrap_i64]
    rcases h1 with rfl | rfl | rfl <;> omega
  obtain ⟨z, hz⟩ : ∃ z, z = (s * (m : Int)) * (t * n) := ⟨_, rfl⟩
  obtain ⟨v, hv⟩ : ∃ v, v = m * n := ⟨_, rfl⟩
  rw [← hz, ← hv] at HF
  rw [← hv] at HVX
  rw [← hz]
  have HL := Lib.hid (show xs.length ≤ 4095 by omega)
  have HL' := Lib.hid (show ys.length ≤ 4095 by omega)
  have hl2 : xs.length ≤ 4611686018427387 := by omega
  have hl3 : ys.length ≤ 4611686018427387 := by omega
  have hsz0 : W0.heap.size = w.heap.size + 3 := p4
  have HS0 := Lib.hid hsz0
  clear p1 p2 p3 p4 p5 hx hy hl hl' hW0 hB hC IX hs ht hz hv hvx hlx hly hxs hys hsz0 hT'
  go_enter Tryz.func82, Tryz.ntmps82
  go_wp2
  clear hmk
  rw [HW0.out]
  have RM := RowI.made W0 (xs.length + ys.length + 1)
  rw [HS0.out] at RM
  go_loopw [6] (fun i wr => ∃ (k : Nat) (L : List Nat), k ≤ xs.length ∧ i = .int .i64 k ∧ MulInv xs ys L k 0 0 ∧ RowI wr (w.heap.size + 1 + 1 + 1) (ofN L) ∧ Below W0.heap.size W0 wr) (fun i _ => xs.length - (intOf i).toNat)
  case atStart => exact ⟨0, _, Nat.zero_le _, rfl, mulInv_start xs ys, by rw [ofN_zeros]; exact RM, below_alloc hT _⟩
  case round =>
    clear RM hT
    obtain ⟨k, L, hk, rfl, hinv, hrow, hbel⟩ := hrel
    have HI := Lib.hid hinv
    have HR := Lib.hid hrow
    have HB := Lib.hid hbel
    obtain ⟨k1, k2, k3, k4⟩ := SS.out _ hbel
    clear hrow hbel hinv
    by_cases hkn : k < xs.length
    · have hkI : (k : Int) < (xs.length : Int) := by omega
      go_wp2
      clear k1 k2 k3 k4
      obtain ⟨wo, rfl⟩ : ∃ wo : World, wo = wr := ⟨_, rfl⟩
      go_loopw [8, 7] (fun i q wq => ∃ (j : Nat) (L : List Nat) (cr : Nat), j ≤ ys.length ∧ i = .int .i64 j ∧ q = .int .i64 cr ∧ MulInv xs ys L k j cr ∧ RowI wq (w.heap.size + 1 + 1 + 1) (ofN L) ∧ Below W0.heap.size W0 wq) (fun i _ _ => ys.length - (intOf i).toNat)
      case atStart => exact ⟨0, L, 0, Nat.zero_le _, rfl, rfl, HI.out, HR.out, HB.out⟩
      case round =>
        clear HI HR HB L
        obtain ⟨j, L, cr, hj, rfl, rfl, hinv, hrow, hbel⟩ := hrel
        have HI := Lib.hid hinv
        have HR := Lib.hid hrow
        have HB := Lib.hid hbel
        obtain ⟨k1, k2, k3, k4⟩ := SS.out _ hbel
        have hlen := Lib.hid hinv.len
        have hcb : (cr : Int) < 16777216 := by have := hinv.hi; omega
        clear hrow hbel hinv
        by_cases hjn : j < ys.length
        · obtain ⟨i1, i2⟩ := IX2.out _ HB.out
          obtain ⟨c', o, ha, _, hcell⟩ := i1 k (by rw [ofN_length]; exact hkn)
          obtain ⟨c'', o', ha', _, hcell'⟩ := i2 j (by rw [ofN_length]; exact hjn)
          rw [ofN_at] at hcell hcell'
          subst ha ha'
          obtain ⟨x, hxk⟩ : ∃ x : Nat, x = xs[k] := ⟨_, rfl⟩
          obtain ⟨y, hyk⟩ : ∃ y : Nat, y = ys[j] := ⟨_, rfl⟩
          have hkj : k + j < L.length := by rw [hlen.out]; omega
          obtain ⟨u, huk⟩ : ∃ u : Nat, u = L[k + j] := ⟨_, rfl⟩
          have h2 := HR.out.cell (k + j) (by rw [ofN_length]; exact hkj)
          rw [ofN_at, ← huk] at h2
          rw [← hxk] at hcell
          rw [← hyk] at hcell'
          have h3 := HR.out.frozen (k + j)
          have hxb : x < 16777216 := by have := SX.out k hkn; omega
          have hyb : y < 16777216 := by have := SY.out j hjn; omega
          have hub : (u : Int) < 16777216 := by have := HI.out.small (k + j) hkj; omega
          have hp0 : (0 : Int) ≤ (x : Int) * (y : Int) := Int.mul_nonneg (by omega) (by omega)
          have hp1 : (x : Int) * (y : Int) ≤ 281474943156225 := by
            have := mul_small hxb hyb
            rw [← Int.natCast_mul]
            omega
          have hs := mulInv_step HI.out SX.out SY.out hkn hjn
          rw [← huk, ← hxk, ← hyk] at hs
          have HSP := Lib.hid hs
          have hjI : (j : Int) < (ys.length : Int) := by omega
          have hkjI : (k : Int) + (j : Int) < (xs.length : Int) + (ys.length : Int) + 1 := by omega
          have ht1 : ((k : Int) + (j : Int)).toNat = k + j := by omega
          clear hs huk hxk hyk i1 i2 hkj
          go_wp2
          go_quiet (fail)
          go_wp2
          go_roundw
          case rel =>
            refine ⟨j + 1, L.set (k + j) ((cr + u + x * y) % 16777216), (cr + u + x * y) / 16777216, by omega, by go_num, by first | rfl | (congr 1), HSP.out, ?_, (below_drewN HB.out _).setCell (by rw [HS0.out]; show _ ≤ w.heap.size + 1 + 1 + 1; omega) _⟩
            rw [← ofN_set]
            exact (HR.out.drewN _).set_ (k + j) (by rw [ofN_length, hlen.out]; omega) _
          case measure => simp [intOf]; omega
        · obtain rfl : j = ys.length := by omega
          have HN := Lib.hid (mulInv_next HI.out hkn)
          have hkj : k + ys.length < L.length := by rw [hlen.out]; omega
          have h2 := HR.out.cell (k + ys.length) (by rw [ofN_length]; exact hkj)
          have h3 := HR.out.frozen (k + ys.length)
          have hkjI : (k : Int) + (ys.length : Int) < (xs.length : Int) + (ys.length : Int) + 1 := by omega
          have ht1 : ((k : Int) + (ys.length : Int)).toNat = k + ys.length := by omega
          go_wp2
          go_roundw
          case rel =>
            refine ⟨k + 1, L.set (k + ys.length) cr, by omega, by go_num, HN.out, ?_, HB.out.setCell (by rw [HS0.out]; show _ ≤ w.heap.size + 1 + 1 + 1; omega) _⟩
            rw [← ofN_set]
            exact HR.out.set_ (k + ys.length) (by rw [ofN_length]; exact hkj) _
          case measure => simp [intOf]; omega
    · obtain rfl : k = xs.length := by omega
      have hval := mulInv_done HI.out
      rw [HVX.out] at hval
      have HVL := Lib.hid hval
      have hlen := Lib.hid HI.out.len
      have HMA := Lib.hid (show ∀ W, Below W0.heap.size W0 W → RowI W (w.heap.size + 1 + 1 + 1) (ofN L) → Calls Tryz.prog 103 #[.int .i64 (s * t), .slice (some ⟨w.heap.size + 1 + 1 + 1, 0, none⟩) (xs.length + ys.length + 1) (xs.length + ys.length + 1)] W fun e w' => ∃ a c, e = .returned (.agg #[.int .i64 (sgnOf (s * t) v), .slice a (lim v).length c]) ∧ (lim v).length ≤ c ∧ Own w' W0.heap.size a (lim v) ∧ Below W0.heap.size W0 w' from
        fun W hW hR => HMK.out _ v L _ _ _ W hlen.out.symm HVL.out HI.out.small (by rw [hlen.out]; exact Nat.le_refl _) (by rw [hlen.out]; have := HL.out; have := HL'.out; omega) hR.ints hW)
      clear hval k1 k2 k3 k4
      obtain ⟨k1, k2, k3, k4⟩ := SS.out _ HB.out
      go_wp2_with fail
      refine (HMA.out _ HB.out HR.out).mono ?_
      rintro e w' ⟨a', c', rfl, hc', ho', hb⟩
      have HC' := Lib.hid hc'
      have HO' := Lib.hid ho'
      clear hc' ho' k1 k2 k3 k4
      obtain ⟨q1, q2, q3, q4⟩ := SR.out _ hb
      go_wp2_with fail
      refine bodyPost_ret (v := .agg #[.int .i64 (sgnOf (s * t) v), .slice a' (lim v).length c']) (by simp [results, Tryz.results82, go_sem, *]) rfl ?_
      exact retZ_end P3.out P4.out hb _ _ HO'.out HC'.out HF.out

end Go.Proofs.YtgppagmejhgmaaaGreatDoor
