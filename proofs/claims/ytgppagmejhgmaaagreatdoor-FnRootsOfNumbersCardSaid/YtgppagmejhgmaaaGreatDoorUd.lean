/-
  Contracts: the length of whole numbers, of the program and of the model. Conditions: the limbs can be read.
-/
import Derived.Test.YtgppagmejhgmaaaGreatDoorTg
import Derived.Shelf.Strconv.Itoa0
namespace Go.Proofs.YtgppagmejhgmaaaGreatDoor
set_option linter.unusedVariables false
open Go Go.RowKit

theorem tab_fin : ∀ n : Fin 256, (Lib.len8tab[n.val]'(by have h : Lib.len8tab.size = 256 := by decide +kernel
                                                         omega)).toNat = Lib.bitLen n.val := by decide +kernel
theorem tab_len (y : Int) (h0 : 0 ≤ y) (h1 : y < 256) (h : y.toNat < Lib.len8tab.size) : wrap64 ((Lib.len8tab[y.toNat]'h).toNat : Int) = (Lib.bitLen y.toNat : Int) ∧ Lib.bitLen y.toNat ≤ 8 := by
  have e := tab_fin ⟨y.toNat, by omega⟩
  have l := Lib.bitLen_le8 ⟨y.toNat, by omega⟩
  simp only at e l
  rw [e]
  exact ⟨by unfold wrap64; omega, l⟩

set_option maxRecDepth 100000 in
set_option maxHeartbeats 1000000 in
theorem len64 (x : Int) (w : World) (h0 : 0 ≤ x) (hx : x < 16777216) : Calls Tryz.prog 98 #[.int .u64 x] w fun e w' => e = .returned (.int .i64 (Lib.bitLen x.toNat : Nat)) ∧ w = w' := by
  have hsz : Lib.len8tab.size = 256 := by decide +kernel
  go_enter Tryz.func98, Tryz.ntmps98
  go_wp2
  all_goals (go_ret; refine ⟨congrArg Ending.returned (congrArg (Value.int IntKind.i64) ?_), rfl⟩)
  · have hy : x / 65536 < 256 := by omega
    obtain ⟨e1, e2⟩ := tab_len (x / 65536) (by omega) hy (by omega)
    have s := Lib.bitLen_shift16 x.toNat (by omega) (by omega)
    have e3 : (x / 65536).toNat = x.toNat / 65536 := by omega
    rw [e1, e3]
    rw [e3] at e2
    unfold wrap64
    omega
  · have hy : x / 256 < 256 := by omega
    obtain ⟨e1, e2⟩ := tab_len (x / 256) (by omega) hy (by omega)
    have s := Lib.bitLen_shift8 x.toNat (by omega) (by omega)
    have e3 : (x / 256).toNat = x.toNat / 256 := by omega
    rw [e1, e3]
    rw [e3] at e2
    unfold wrap64
    omega
  · have hy : x < 256 := by omega
    obtain ⟨e1, e2⟩ := tab_len x (by omega) hy (by omega)
    rw [e1]
    unfold wrap64
    omega

/-- The number of bits, by the limbs. -/
def blen (n : Nat) : Int := if n = 0 then 0 else 24 * (((dig n).length : Int) - 1) + (Lib.bitLen ((dig n).getD ((dig n).length - 1) 0) : Int)
theorem blen_pos {n : Nat} (h : n ≠ 0) : blen n = 24 * (((dig n).length : Int) - 1) + (Lib.bitLen ((dig n).getD ((dig n).length - 1) 0) : Int) := if_neg h
theorem bitLen_le24 {x : Nat} (h : x < 16777216) : Lib.bitLen x ≤ 24 := by
  by_cases h1 : 65536 ≤ x
  · have := Lib.bitLen_shift16 x h1 (by omega)
    have := Lib.bitLen_le8 ⟨x / 65536, by omega⟩
    simp only at this
    omega
  · by_cases h2 : 256 ≤ x
    · have := Lib.bitLen_shift8 x h2 (by omega)
      have := Lib.bitLen_le8 ⟨x / 256, by omega⟩
      simp only at this
      omega
    · have := Lib.bitLen_le8 ⟨x, by omega⟩
      simp only at this
      omega

/-- The last limb, as it lies in memory. -/
theorem last_limb {n : Nat} (h : n ≠ 0) {w : World} {B : Nat} {a : Option Addr} (hx : Ints w B a (lim n)) : ∃ (x : Nat) (c o : Nat), x = (dig n).getD ((dig n).length - 1) 0 ∧ x < 16777216 ∧ x ≠ 0 ∧ a = some ⟨c, o, none⟩ ∧ c < B ∧ w.cell? ⟨c, o + ((lim n).length - 1), none⟩ = some (.int .i64 x) := by
  have hp := dig_length_pos h
  obtain ⟨c, o, ha, hc, hcell⟩ := hx ((lim n).length - 1) (by rw [lim_length]; omega)
  have hlast := (norm_dig n).2 hp
  have e : (dig n).getD ((dig n).length - 1) 0 = (dig n)[(dig n).length - 1] := getD_of_lt (by omega)
  refine ⟨_, c, o, rfl, ?_, ?_, ha, hc, ?_⟩
  · rw [e]; exact small_dig n _ _
  · rw [e]; exact hlast
  · rw [hcell]
    simp only [lim, ofN_at, ofN_length]
    rw [e]

set_option maxHeartbeats 1000000 in
theorem iMagLength (a : Option Addr) (n c : Nat) (w : World) (B : Nat) (hx : Ints w B a (lim n)) (hl : (lim n).length ≤ 1048576) :
    Calls Tryz.prog 66 #[.slice a (lim n).length c] w fun e w' => e = .returned (.int .i64 (blen n)) ∧ w = w' := by
  by_cases h0 : n = 0
  · have hz := lim_len_zero.2 h0
    subst h0
    rw [hz]
    clear hx hl hz
    go_enter Tryz.func66, Tryz.ntmps66
    go_wp2
    go_ret
    exact ⟨rfl, rfl⟩
  · obtain ⟨x, c', o, hxe, hxb, hx0, ha, _, hcell⟩ := last_limb h0 hx
    subst ha
    have hp : 0 < (lim n).length := by rw [lim_length]; exact dig_length_pos h0
    have hz : (((lim n).length : Int) == 0) = false := beq_eq_false_iff_ne.2 (by omega)
    have hi1 : (((lim n).length : Int) - 1).toNat = (lim n).length - 1 := by omega
    have hi2 : (0 : Int) ≤ ((lim n).length : Int) - 1 := by omega
    have HE := Lib.hid (blen_pos h0)
    rw [← hxe, ← lim_length] at HE
    have H64 := Lib.hid fun W => len64 (x : Int) W (by omega) (by omega)
    have hxI : (x : Int) < 16777216 := by omega
    have hbl := bitLen_le24 hxb
    rw [Int.toNat_natCast] at H64
    obtain ⟨q, hq⟩ : ∃ q, q = Lib.bitLen x := ⟨_, rfl⟩
    rw [← hq] at H64 HE hbl
    have hl2 : ((lim n).length : Int) ≤ 1048576 := by omega
    have hq2 : (q : Int) ≤ 24 := by omega
    clear hx hl hxe h0 hq
    go_enter Tryz.func66, Tryz.ntmps66
    go_wp2_with fail
    refine (H64.out _).mono ?_
    rintro e w' ⟨rfl, rfl⟩
    go_wp2_with fail
    go_ret
    exact ⟨by rw [HE.out]; rfl, rfl⟩

set_option maxRecDepth 100000 in
set_option maxHeartbeats 1000000 in
theorem sLength (s : Int) (a : Option Addr) (n c : Nat) (w : World) (B : Nat) (hB : B ≤ w.heap.size) (hx : Ints w B a (lim n)) (hl : (lim n).length ≤ 1048576) :
    Calls Tryz.prog 78 #[.agg #[.int .i64 s, .slice a (lim n).length c]] w (RetB (.int .i64 (blen n)) w) := by
  by_cases h0 : n = 0
  · have hz := lim_len_zero.2 h0
    subst h0
    rw [hz]
    clear hx hl hz
    go_enter Tryz.func78, Tryz.ntmps78
    go_wp2
    go_ret
    exact ⟨rfl, (by repeat (first | exact Below.refl _ _ | assumption | refine Below.alloc ?_ (by simp <;> omega) _ | refine Below.setCell ?_ (by simp <;> omega) _ | refine below_drewN ?_ _))⟩
  · obtain ⟨x, c', o, hxe, hxb, hx0, ha, hcB, hcell⟩ := last_limb h0 hx
    subst ha
    have hp : 0 < (lim n).length := by rw [lim_length]; exact dig_length_pos h0
    have hz : (((lim n).length : Int) == 0) = false := beq_eq_false_iff_ne.2 (by omega)
    have hi1 : (((lim n).length : Int) - 1).toNat = (lim n).length - 1 := by omega
    have hi2 : (0 : Int) ≤ ((lim n).length : Int) - 1 := by omega
    have HE := Lib.hid (blen_pos h0)
    rw [← hxe, ← lim_length] at HE
    have hc2 : ∀ o', (w.alloc o').cell? ⟨c', o + ((lim n).length - 1), none⟩ = some (.int .i64 x) := fun o' => by rw [World.cell?_alloc_lt w _ ⟨c', o + ((lim n).length - 1), none⟩ (by show c' < _; omega)]; exact hcell
    have hxI : (x : Int) < 16777216 := by omega
    have hbl := bitLen_le24 hxb
    have hl2 : ((lim n).length : Int) ≤ 1048576 := by omega
    have HBL := Lib.hid hbl
    have HXB := Lib.hid hxb
    clear hx hl hxe h0 hcell hbl hxb hx0
    go_enter Tryz.func78, Tryz.ntmps78
    go_wp2
    clear hxI
    go_loop [4, 5] (fun q t => ∃ (v : Nat) (b : Int), t = .int .i64 v ∧ q = .int .i64 b ∧ v ≤ x ∧ Hid (b + (Lib.bitLen v : Int) = 24 * (((lim n).length : Int) - 1) + (Lib.bitLen x : Int)) ∧ 0 ≤ b) (fun _ t => (intOf t).toNat)
    case atStart => exact ⟨x, _, rfl, rfl, Nat.le_refl _, by show _ = _; first | rfl | (rw [Int.mul_comm]), by omega⟩
    case round =>
      obtain ⟨v, b, rfl, rfl, hvx, heq, hb0⟩ := hrel
      by_cases hv : v = 0
      · subst hv
        have HEQ := Lib.hid (show b = blen n from by rw [HE.out]; have := heq.out; have e : Lib.bitLen 0 = 0 := by decide +kernel
                                                     rw [e] at this; omega)
        clear heq
        go_wp2
        go_ret
        exact ⟨by rw [← HEQ.out]; rfl, (by repeat (first | exact Below.refl _ _ | assumption | refine Below.alloc ?_ (by simp <;> omega) _ | refine Below.setCell ?_ (by simp <;> omega) _ | refine below_drewN ?_ _))⟩
      · have hv0 : (0 : Int) < (v : Int) := by omega
        have hvb : (v : Int) ≤ 4611686018427387904 := by have := HXB.out; omega
        have hhalf := Lib.bitLen_half v hv (by have := HXB.out; omega)
        have hlt : (b : Int) ≤ 4611686018427387904 := by
          have h1 := heq.out
          have h2 := HBL.out
          have h3 := bitLen_le24 (x := v) (by have := HXB.out; omega)
          omega
        have HHF := Lib.hid hhalf
        clear hhalf
        go_wp2
        go_round
        case rel => exact ⟨v / 2, b + 1, by first | rfl | (congr 1; omega), by go_num, by omega, by show _ = _; have := heq.out; have h2 := HHF.out; omega, by omega⟩
        case measure => simp [intOf]; omega

noncomputable def lenR (s : Int) (xs : List Int) : Int × Int := @ite _ (IsWh s xs) (Classical.propDecidable _) (blen (val (xs.map Int.toNat)), 0) (0, 1)
theorem lenR_yes {s : Int} {xs : List Int} (h : IsWh s xs) : lenR s xs = (blen (val (xs.map Int.toNat)), 0) := by unfold lenR; rw [if_pos h]
theorem lenR_no {s : Int} {xs : List Int} (h : ¬ IsWh s xs) : lenR s xs = (0, 1) := by unfold lenR; rw [if_neg h]
theorem val_lim (n : Nat) : val ((lim n).map Int.toNat) = n := by
  have := wv_lim 1 n
  unfold wv at this
  omega

theorem one_box (w : World) (t : TypeId) (p : Array Value) : BoxAt (w.alloc (.cells p t)) w.heap.size t p ∧ Below w.heap.size w (w.alloc (.cells p t)) ∧ (w.alloc (.cells p t)).heap.size = w.heap.size + 1 :=
  ⟨BoxAt.new w t p, (Below.refl _ w).alloc (Nat.le_refl _) _, by simp⟩

end Go.Proofs.YtgppagmejhgmaaaGreatDoor
