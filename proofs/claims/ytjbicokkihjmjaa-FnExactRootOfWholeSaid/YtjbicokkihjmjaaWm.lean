/-
  Contract: RootOfWhole of the program. Conditions: the limbs can be read.
-/
import Derived.Test.YtjbicokkihjmjaaWk
namespace Go.Proofs.Ytjbicokkihjmjaa
set_option linter.unusedVariables false
open Go Go.RowKit

/-- The root of a number, rounded down. -/
def rootN : Nat → Nat
  | 0 => 0
  | n + 1 => if (rootN n + 1) * (rootN n + 1) ≤ n + 1 then rootN n + 1 else rootN n
theorem rootN_spec (n : Nat) : rootN n * rootN n ≤ n ∧ n < (rootN n + 1) * (rootN n + 1) := by
  induction n with
  | zero => exact ⟨Nat.le_refl _, by decide⟩
  | succ n ih =>
    obtain ⟨h1, h2⟩ := ih
    unfold rootN
    generalize rootN n = r at *
    split
    · rename_i h
      have e : (r + 1 + 1) * (r + 1 + 1) = (r + 1) * (r + 1) + (r + 1) + (r + 1) + 1 := by grind
      exact ⟨h, by omega⟩
    · exact ⟨by omega, by omega⟩
theorem rootN_le (n : Nat) : rootN n ≤ n := by
  have h := (rootN_spec n).1
  rcases Nat.eq_zero_or_pos (rootN n) with h0 | h0
  · omega
  · exact Nat.le_trans (Nat.le_mul_of_pos_right _ h0) h
/-- What RootOfWhole answers. -/
noncomputable def rootR (s : Int) (xs : List Int) : Int × List Int × Int := @ite _ (IsWh s xs) (Classical.propDecidable _) (if s < 0 then (0, [], 5) else (sgnOf 1 (rootN (val (xs.map Int.toNat))), lim (rootN (val (xs.map Int.toNat))), 0)) (0, [], 1)
theorem rootR_yes {s : Int} {xs : List Int} (h : IsWh s xs) (h1 : ¬ s < 0) : rootR s xs = (sgnOf 1 (rootN (val (xs.map Int.toNat))), lim (rootN (val (xs.map Int.toNat))), 0) := by unfold rootR; rw [if_pos h, if_neg h1]
theorem rootR_neg {s : Int} {xs : List Int} (h : IsWh s xs) (h1 : s < 0) : rootR s xs = (0, [], 5) := by unfold rootR; rw [if_pos h, if_pos h1]
theorem rootR_no {s : Int} {xs : List Int} (h : ¬ IsWh s xs) : rootR s xs = (0, [], 1) := by unfold rootR; rw [if_neg h]
theorem rootR_len (s : Int) (xs : List Int) : (rootR s xs).2.1.length ≤ 200 := by
  by_cases h : IsWh s xs
  · by_cases h1 : s < 0
    · rw [rootR_neg h h1]; simp
    · rw [rootR_yes h h1]
      obtain ⟨m, rfl, hm, sm⟩ := isWh_of h
      rw [val_lim]
      exact Nat.le_trans (lim_le_of_le (rootN_le m)) hm
  · rw [rootR_no h]; simp
theorem retWC_zeroC {w W0 W : World} (code : Int) (P3 : Below w.heap.size w W0) (P4 : W0.heap.size = w.heap.size + 2) (hb : Below W0.heap.size W0 W) (u v : Value) :
    RetWC (0, [], code) w.heap.size w (.returned (.tuple #[.agg #[.int .i64 0, .slice none 0 0], .int .i64 code])) ((W.setCell ⟨w.heap.size + 1, 0, none⟩ u).setCell ⟨w.heap.size + 1, 1, none⟩ v) :=
  ⟨none, 0, rfl, Nat.le_refl _, Own.nil, ((P3.trans (hb.mono (by omega))).setCell (by simp <;> omega) _).setCell (by simp <;> omega) _⟩
theorem retWC_endC {w W0 W : World} {r : Int × List Int × Int} {a : Option Addr} {c : Nat} (P3 : Below w.heap.size w W0) (P4 : W0.heap.size = w.heap.size + 2) (hb : Below W0.heap.size W0 W) (u v : Value) (ho : Own W W0.heap.size a r.2.1) (hc : r.2.1.length ≤ c) :
    RetWC r w.heap.size w (.returned (.tuple #[.agg #[.int .i64 r.1, .slice a r.2.1.length c], .int .i64 r.2.2])) ((W.setCell ⟨w.heap.size + 1, 0, none⟩ u).setCell ⟨w.heap.size + 1, 1, none⟩ v) :=
  ⟨a, c, rfl, hc, ((ho.setFar (by simp; omega) _).setFar (by simp; omega) _).mono (by omega), ((P3.trans (hb.mono (by omega))).setCell (by simp <;> omega) _).setCell (by simp <;> omega) _⟩

set_option maxRecDepth 100000 in
set_option maxHeartbeats 4000000 in
theorem iRootOfWhole (s : Int) (a : Option Addr) (xs : List Int) (c1 : Nat) (w : World) (B : Nat) (hB : B ≤ w.heap.size) (hx : Ints w B a xs) (hl : xs.length ≤ 9223372036854775807) :
    Calls Try.prog 34 #[.agg #[.int .i64 s, .slice a xs.length c1]] w (RetWC (rootR s xs) w.heap.size w) := by
  obtain ⟨W0, hW0⟩ : ∃ W0 : World, (w.alloc (.cells #[.int .i64 s, .slice a xs.length c1] 26)).alloc (.cells #[.int .i64 0, .slice none 0 0] 26) = W0 := ⟨_, rfl⟩
  obtain ⟨p1, p2, p3, p4⟩ := two_box w 26 #[.int .i64 s, .slice a xs.length c1] #[.int .i64 0, .slice none 0 0]
  rw [hW0] at p1 p2 p3 p4
  have HW0 := Lib.hid hW0
  have P3 := Lib.hid p3
  have P4 := Lib.hid p4
  have SS := Lib.hid (show ∀ W, Below W0.heap.size W0 W → (W.cell? ⟨w.heap.size, 0, none⟩ = some (.int .i64 s) ∧ W.cell? ⟨w.heap.size, 1, none⟩ = some (.slice a xs.length c1)) from
    fun W hW => ⟨(p1.below hW).cell 0, (p1.below hW).cell 1⟩)
  have SR := Lib.hid (show ∀ W, Below W0.heap.size W0 W → (W.cell? ⟨w.heap.size + 1, 0, none⟩ = some (.int .i64 0) ∧ W.cell? ⟨w.heap.size + 1, 1, none⟩ = some (.slice none 0 0) ∧ W.frozen? ⟨w.heap.size + 1, 0, none⟩ = false ∧ W.frozen? ⟨w.heap.size + 1, 1, none⟩ = false) from
    fun W hW => (p2.below hW).two)
  have hT : Below W0.heap.size W0 W0 := Below.refl _ _
  have IX := Lib.hid (show ∀ W, Below W0.heap.size W0 W → Ints W B a xs ∧ B ≤ W.heap.size from fun W hW => ⟨hx.below ((p3.mono hB).trans (hW.mono (by omega))), by have := hW.size; omega⟩)
  have HI := Lib.hid (show ∀ W, Below W0.heap.size W0 W → Calls Try.prog 14 #[.agg #[.int .i64 s, .slice a xs.length c1]] W fun e w' => e = .returned (.bool (whB s xs)) ∧ Below W0.heap.size W0 w' from
    fun W hW => (iIsWhole s a xs c1 W B (IX.out W hW).2 hl (IX.out W hW).1).mono fun e w' ⟨he, hb⟩ => ⟨he, hW.trans (hb.mono hW.size)⟩)
  cases h1 : whB s xs
  · rw [rootR_no (fun h => by rw [whB_iff.2 h] at h1; cases h1)]
    rw [h1] at HI
    clear p1 p2 p3 p4 hx hW0 hB h1 hl IX
    go_enter Try.func34, Try.ntmps34
    go_wp2_with fail
    rw [HW0.out]
    refine (HI.out _ hT).mono ?_
    rintro e w1 ⟨rfl, hb⟩
    obtain ⟨k1, k2⟩ := SS.out _ hb
    obtain ⟨q1, q2, q3, q4⟩ := SR.out _ hb
    go_wp2_with fail
    refine bodyPost_ret (v := .tuple #[.agg #[.int .i64 0, .slice none 0 0], .int .i64 1]) (by simp [results, Try.results34, go_sem, *]) rfl ?_
    exact retWC_zeroC 1 P3.out P4.out hb _ _
  · have e1 := Lib.hid (whB_iff.1 h1)
    rw [h1] at HI
    clear h1
    by_cases hk : s < 0
    · rw [rootR_neg e1.out hk]
      have hkd : decide (s < 0) = true := decide_eq_true hk
      clear p1 p2 p3 p4 hx hW0 hB hl IX e1 hk
      go_enter Try.func34, Try.ntmps34
      go_wp2_with fail
      rw [HW0.out]
      refine (HI.out _ hT).mono ?_
      rintro e w1 ⟨rfl, hb⟩
      obtain ⟨k1, k2⟩ := SS.out _ hb
      obtain ⟨q1, q2, q3, q4⟩ := SR.out _ hb
      go_wp2_with fail
      refine bodyPost_ret (v := .tuple #[.agg #[.int .i64 0, .slice none 0 0], .int .i64 5]) (by simp [results, Try.results34, go_sem, *]) rfl ?_
      exact retWC_zeroC 5 P3.out P4.out hb _ _
    · rw [rootR_yes e1.out hk]
      have hkd : decide (s < 0) = false := decide_eq_false hk
      obtain ⟨m, rfl, hm, sm⟩ := isWh_of e1.out
      rw [val_lim]
      have hsp := rootN_spec m
      have hrl : (lim (rootN m)).length ≤ 200 := Nat.le_trans (lim_le_of_le (rootN_le m)) hm
      have HS := Lib.hid (show ∀ (s : Int) (a : Option Addr) (n c : Nat) W, Below W0.heap.size W0 W → Calls Try.prog 45 #[.agg #[.int .i64 s, .slice a n c]] W fun e w' => e = .returned (.slice a n c) ∧ Below W0.heap.size W0 w' from
        fun s a n c W hW => (iSize s a n c W).mono fun e w' ⟨he, hb⟩ => ⟨he, hW.trans (hb.mono hW.size)⟩)
      have HG := Lib.hid (show ∀ (s : Int) (k : Nat) (a : Option Addr) (c : Nat) W, (lim k).length ≤ c → Own W W0.heap.size a (lim k) → Below W0.heap.size W0 W → Calls Try.prog 47 #[.int .i64 s, .slice a (lim k).length c] W fun e w' => ∃ a c, e = .returned (.agg #[.int .i64 (sgnOf s k), .slice a (lim k).length c]) ∧ (lim k).length ≤ c ∧ Own w' W0.heap.size a (lim k) ∧ Below W0.heap.size W0 w' from
        fun s k a c W h1 h2 hW => (iSigned s k a c W W0.heap.size h1 h2).mono fun e w' ⟨a, c, he, hc, ho, hb⟩ => ⟨a, c, he, hc, ho, hW.trans (hb.mono hW.size)⟩)
      obtain ⟨r, hr⟩ : ∃ r, r = rootN m := ⟨_, rfl⟩
      rw [← hr] at hsp hrl ⊢
      have HP := Lib.hid (show ∀ W, Below W0.heap.size W0 W → Calls Try.prog 75 #[.slice a (lim m).length c1] W fun e w' => ∃ a c, e = .returned (.slice a (lim r).length c) ∧ (lim r).length ≤ c ∧ Own w' W0.heap.size a (lim r) ∧ Below W0.heap.size W0 w' from
        fun W hW => (iRoot a m c1 r W B (IX.out W hW).2 (IX.out W hW).1 hm hsp.1 hsp.2).mono fun e w' ⟨a, c, he, hc, ho, hb⟩ => ⟨a, c, he, hc, ho.mono hW.size, hW.trans (hb.mono hW.size)⟩)
      clear p1 p2 p3 p4 hx hW0 hB hl IX e1 hk hm sm hsp hrl hr
      go_enter Try.func34, Try.ntmps34
      go_wp2_with fail
      rw [HW0.out]
      refine (HI.out _ hT).mono ?_
      rintro e w1 ⟨rfl, hb⟩
      obtain ⟨k1, k2⟩ := SS.out _ hb
      go_wp2_with fail
      refine (HS.out _ _ _ _ _ hb).mono ?_
      rintro e w2 ⟨rfl, hb2⟩
      go_wp2_with fail
      refine (HP.out _ hb2).mono ?_
      rintro e w3 ⟨a3, c3, rfl, hc3, ho3, hb3⟩
      go_wp2_with fail
      refine (HG.out _ _ _ _ _ hc3 ho3 hb3).mono ?_
      rintro e w4 ⟨a4, c4, rfl, hc4, ho4, hb4⟩
      have HC4 := Lib.hid hc4
      have HO4 := Lib.hid ho4
      clear hc3 ho3 hc4 ho4
      obtain ⟨q1, q2, q3, q4⟩ := SR.out _ hb4
      go_wp2_with fail
      refine bodyPost_ret (v := .tuple #[.agg #[.int .i64 (sgnOf 1 r), .slice a4 (lim r).length c4], .int .i64 0]) (by simp [results, Try.results34, go_sem, *]) rfl ?_
      exact retWC_endC (r := (sgnOf 1 r, lim r, 0)) P3.out P4.out hb4 _ _ HO4.out HC4.out
end Go.Proofs.Ytjbicokkihjmjaa
