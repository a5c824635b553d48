/-
  Contract: ParseWhole of the program. Conditions: none.
-/
import Derived.Test.YtpchcigpppdfiabDf
import Derived.Test.YtpchcigpppdfiabLx
namespace Go.Proofs.Ytpchcigpppdfiab
set_option linter.unusedVariables false
open Go Go.RowKit

/-- The text of a number, the sign apart. -/
def prOk (b : List UInt8) (neg : Bool) : Prop := IsDec b ∧ ¬ (neg = true ∧ b = [48])
def sgB (neg : Bool) : Int := if neg then -1 else 1
/-- What ParseWhole answers. -/
noncomputable def prR (b : List UInt8) (neg : Bool) : Int × List Int × Int := @ite _ (prOk b neg) (Classical.propDecidable _) (if 1445 < b.length then (0, [], 3) else fitW (sgnOf (sgB neg) (dv b)) (dv b)) (0, [], 6)
theorem prR_no {b : List UInt8} {neg : Bool} (h : ¬ prOk b neg) : prR b neg = (0, [], 6) := by unfold prR; rw [if_neg h]
theorem prR_long {b : List UInt8} {neg : Bool} (h : prOk b neg) (hl : 1445 < b.length) : prR b neg = (0, [], 3) := by unfold prR; rw [if_pos h, if_pos hl]
theorem prR_yes {b : List UInt8} {neg : Bool} (h : prOk b neg) (hl : ¬ 1445 < b.length) : prR b neg = fitW (sgnOf (sgB neg) (dv b)) (dv b) := by unfold prR; rw [if_pos h, if_neg hl]
theorem prR_len (b : List UInt8) (neg : Bool) : (prR b neg).2.1.length ≤ 200 := by
  unfold prR
  split
  · split
    · simp
    · exact fitW_len _ _
  · simp
theorem retWC_zero1 {w W0 W : World} (code : Int) (P3 : Below w.heap.size w W0) (P4 : W0.heap.size = w.heap.size + 1) (hb : Below W0.heap.size W0 W) (u v : Value) :
    RetWC (0, [], code) w.heap.size w (.returned (.tuple #[.agg #[.int .i64 0, .slice none 0 0], .int .i64 code])) ((W.setCell ⟨w.heap.size, 0, none⟩ u).setCell ⟨w.heap.size, 1, none⟩ v) :=
  ⟨none, 0, rfl, Nat.le_refl _, Own.nil, ((P3.trans (hb.mono (by omega))).setCell (by simp <;> omega) _).setCell (by simp <;> omega) _⟩
theorem retWC_end1 {w W0 W : World} {r : Int × List Int × Int} {a : Option Addr} {c : Nat} (P3 : Below w.heap.size w W0) (P4 : W0.heap.size = w.heap.size + 1) (hb : Below W0.heap.size W0 W) (u v : Value) (ho : Own W W0.heap.size a r.2.1) (hc : r.2.1.length ≤ c) :
    RetWC r w.heap.size w (.returned (.tuple #[.agg #[.int .i64 r.1, .slice a r.2.1.length c], .int .i64 r.2.2])) ((W.setCell ⟨w.heap.size, 0, none⟩ u).setCell ⟨w.heap.size, 1, none⟩ v) :=
  ⟨a, c, rfl, hc, ((ho.setFar (by simp; omega) _).setFar (by simp; omega) _).mono (by omega), ((P3.trans (hb.mono (by omega))).setCell (by simp <;> omega) _).setCell (by simp <;> omega) _⟩
theorem dec_head {x : UInt8} {r : List UInt8} (h : IsDec (x :: r)) (hn : x :: r ≠ [48]) : (x == 48) = false := by
  rcases h.2 with h2 | h2
  · exact absurd h2 hn
  · simpa using h2.2
theorem dec_ne {b : List UInt8} (h : IsDec b) : b ≠ [] := by
  rcases h.2 with h2 | h2
  · rw [h2]; simp
  · exact h2.1

set_option maxRecDepth 100000 in
set_option maxHeartbeats 2000000 in
theorem iParseWhole (l : List UInt8) (hl : l.length ≤ 1048576) (w : World) :
    Calls Try.prog 47 #[.string ⟨l.toArray⟩] w (RetWC (prR (cutM l).1 (cutM l).2) w.heap.size w) := by
  obtain ⟨W0, hW0⟩ : ∃ W0 : World, w.alloc (.cells #[.int .i64 0, .slice none 0 0] 24) = W0 := ⟨_, rfl⟩
  obtain ⟨p2, p3, p4⟩ := one_box w 24 #[.int .i64 0, .slice none 0 0]
  rw [hW0] at p2 p3 p4
  have HW0 := Lib.hid hW0
  have P3 := Lib.hid p3
  have P4 := Lib.hid p4
  have SR := Lib.hid (show ∀ W, Below W0.heap.size W0 W → (W.cell? ⟨w.heap.size, 0, none⟩ = some (.int .i64 0) ∧ W.cell? ⟨w.heap.size, 1, none⟩ = some (.slice none 0 0) ∧ W.frozen? ⟨w.heap.size, 0, none⟩ = false ∧ W.frozen? ⟨w.heap.size, 1, none⟩ = false) from
    fun W hW => (p2.below hW).two)
  have hT : Below W0.heap.size W0 W0 := Below.refl _ _
  have HCUT := Lib.hid (show Calls Try.prog 98 #[.string ⟨l.toArray⟩, .string ⟨#[45]⟩] W0 fun e w' => e = .returned (.tuple #[.string ⟨(cutM l).1.toArray⟩, .bool (cutM l).2]) ∧ W0 = w' from cutMinus l W0)
  have hbl : (cutM l).1.length ≤ 1048576 := by
    unfold cutM
    split
    · rw [List.length_tail]; omega
    · exact hl
  obtain ⟨⟨b, neg⟩, hbn⟩ : ∃ r, r = cutM l := ⟨_, rfl⟩
  rw [← hbn] at HCUT hbl ⊢
  simp only at HCUT hbl ⊢
  have HDEC := Lib.hid (show ∀ W, Below W0.heap.size W0 W → Calls Try.prog 99 #[.string ⟨b.toArray⟩] W fun e w' => e = .returned (.bool (decB b)) ∧ Below W0.heap.size W0 w' from
    fun W hW => (iDecimal b W (by omega)).mono fun e w' ⟨he, hb⟩ => ⟨he, hW.trans (hb.mono hW.size)⟩)
  clear p2 p3 p4 hW0 hl hbn
  by_cases hdec : IsDec b
  · rw [decB_yes hdec] at HDEC
    by_cases h48 : neg = true ∧ b = [48]
    · rw [prR_no (fun h => h.2 h48)]
      obtain ⟨rfl, rfl⟩ := h48
      clear hdec hbl
      go_enter Try.func47, Try.ntmps47
      go_wp2_with fail
      rw [HW0.out]
      refine HCUT.out.mono ?_
      rintro e w1 ⟨rfl, rfl⟩
      go_wp2_with fail
      refine (HDEC.out _ hT).mono ?_
      rintro e w2 ⟨rfl, hb⟩
      obtain ⟨q1, q2, q3, q4⟩ := SR.out _ hb
      go_wp2_with fail
      refine bodyPost_ret (v := .tuple #[.agg #[.int .i64 0, .slice none 0 0], .int .i64 6]) (by simp [results, Try.results47, go_sem, *]) rfl ?_
      exact retWC_zero1 6 P3.out P4.out hb _ _
    · have hok : prOk b neg := ⟨hdec, h48⟩
      have HH := Lib.hid (show neg = true → ∀ x r, b = x :: r → (x == 48) = false from fun hn x r e => dec_head (by rw [← e]; exact hdec) (fun e2 => h48 ⟨hn, e.trans e2⟩))
      obtain ⟨x, r, hb0⟩ : ∃ x r, b = x :: r := by
        rcases b with _ | ⟨x, r⟩
        · exact absurd rfl (dec_ne hdec)
        · exact ⟨x, r, rfl⟩
      have HX := HH.out
      have hlx : b.length = r.length + 1 := by rw [hb0]; rfl
      by_cases hlong : 1445 < b.length
      · rw [prR_long hok hlong]
        have hlI : (1445 : Int) < (r.length : Int) + 1 := by omega
        subst hb0
        rcases neg with _ | _
        · clear hdec h48 hok HH HX hlong hlx hbl
          go_enter Try.func47, Try.ntmps47
          go_wp2_with fail
          rw [HW0.out]
          refine HCUT.out.mono ?_
          rintro e w1 ⟨rfl, rfl⟩
          go_wp2_with fail
          refine (HDEC.out _ hT).mono ?_
          rintro e w2 ⟨rfl, hb⟩
          obtain ⟨q1, q2, q3, q4⟩ := SR.out _ hb
          go_wp2_with fail
          refine bodyPost_ret (v := .tuple #[.agg #[.int .i64 0, .slice none 0 0], .int .i64 3]) (by simp [results, Try.results47, go_sem, *]) rfl ?_
          exact retWC_zero1 3 P3.out P4.out hb _ _
        · have hx48 := HX rfl x r rfl
          clear hdec h48 hok HH HX hlong hlx hbl
          go_enter Try.func47, Try.ntmps47
          go_wp2_with fail
          rw [HW0.out]
          refine HCUT.out.mono ?_
          rintro e w1 ⟨rfl, rfl⟩
          go_wp2_with fail
          refine (HDEC.out _ hT).mono ?_
          rintro e w2 ⟨rfl, hb⟩
          obtain ⟨q1, q2, q3, q4⟩ := SR.out _ hb
          go_wp2_with fail
          refine bodyPost_ret (v := .tuple #[.agg #[.int .i64 0, .slice none 0 0], .int .i64 3]) (by simp [results, Try.results47, go_sem, *]) rfl ?_
          exact retWC_zero1 3 P3.out P4.out hb _ _
      · rw [prR_yes hok hlong]
        have hlI : decide ((1445 : Int) < (r.length : Int) + 1) = false := decide_eq_false (by omega)
        obtain ⟨N, hN⟩ : ∃ N, N = dv b := ⟨_, rfl⟩
        have HDG := Lib.hid (show ∀ W, Below W0.heap.size W0 W → Calls Try.prog 102 #[.string ⟨b.toArray⟩] W fun e w' => ∃ a c, e = .returned (.slice a (lim N).length c) ∧ (lim N).length ≤ c ∧ Own w' W0.heap.size a (lim N) ∧ Below W0.heap.size W0 w' from
          fun W hW => by
            have := iDigits b hdec.1 (by omega) W
            rw [← hN] at this
            exact this.mono fun e w' ⟨a, c, he, hc, ho, hb⟩ => ⟨a, c, he, hc, ho.mono hW.size, hW.trans (hb.mono hW.size)⟩)
        rw [← hN]
        obtain ⟨sg, hsg⟩ : ∃ sg, sg = sgnOf (sgB neg) N := ⟨_, rfl⟩
        have HSG := Lib.hid (show ∀ (a : Option Addr) (c : Nat) W, (lim N).length ≤ c → Own W W0.heap.size a (lim N) → Below W0.heap.size W0 W → Calls Try.prog 101 #[.int .i64 (sgB neg), .slice a (lim N).length c] W fun e w' => ∃ a c, e = .returned (.agg #[.int .i64 sg, .slice a (lim N).length c]) ∧ (lim N).length ≤ c ∧ Own w' W0.heap.size a (lim N) ∧ Below W0.heap.size W0 w' from
          fun a c W h1 h2 hW => by
            rw [hsg]
            exact (iSigned (sgB neg) N a c W W0.heap.size h1 h2).mono fun e w' ⟨a, c, he, hc, ho, hb⟩ => ⟨a, c, he, hc, ho, hW.trans (hb.mono hW.size)⟩)
        rw [← hsg]
        obtain ⟨⟨r1, r2, r3⟩, hr⟩ : ∃ r, r = fitW sg N := ⟨_, rfl⟩
        have HLM := Lib.hid (show ∀ (a : Option Addr) (c : Nat) W, (lim N).length ≤ c → Own W W0.heap.size a (lim N) → Below W0.heap.size W0 W → Calls Try.prog 100 #[.agg #[.int .i64 sg, .slice a (lim N).length c]] W fun e w' => ∃ a c, e = .returned (.tuple #[.agg #[.int .i64 r1, .slice a r2.length c], .int .i64 r3]) ∧ r2.length ≤ c ∧ Own w' W0.heap.size a r2 ∧ Below W0.heap.size W0 w' from
          fun a c W h1 h2 hW => by
            have := iLimit sg N a c W W0.heap.size h1 h2
            rw [← hr] at this
            exact this.mono fun e w' ⟨a, c, he, hc, ho, hb⟩ => ⟨a, c, he, hc, ho, hW.trans (hb.mono hW.size)⟩)
        rw [← hr]
        subst hb0
        rcases neg with _ | _
        · have e1 : sgB false = 1 := rfl
          rw [e1] at HSG
          clear hdec h48 hok HH HX hlong hlx hbl hN hsg hr e1
          go_enter Try.func47, Try.ntmps47
          go_wp2_with fail
          rw [HW0.out]
          refine HCUT.out.mono ?_
          rintro e w1 ⟨rfl, rfl⟩
          go_wp2_with fail
          refine (HDEC.out _ hT).mono ?_
          rintro e w2 ⟨rfl, hb⟩
          go_wp2_with fail
          refine (HDG.out _ hb).mono ?_
          rintro e w3 ⟨a3, c3, rfl, hc3, ho3, hb3⟩
          go_wp2_with fail
          refine (HSG.out _ _ _ hc3 ho3 hb3).mono ?_
          rintro e w4 ⟨a4, c4, rfl, hc4, ho4, hb4⟩
          clear hc3 ho3 hb3
          go_wp2_with fail
          refine (HLM.out _ _ _ hc4 ho4 hb4).mono ?_
          rintro e w5 ⟨a5, c5, rfl, hc5, ho5, hb5⟩
          have HC := Lib.hid hc5
          have HO := Lib.hid ho5
          clear hc4 ho4 hb4 hc5 ho5
          obtain ⟨q1, q2, q3, q4⟩ := SR.out _ hb5
          go_wp2_with fail
          refine bodyPost_ret (v := .tuple #[.agg #[.int .i64 r1, .slice a5 r2.length c5], .int .i64 r3]) (by simp [results, Try.results47, go_sem, *]) rfl ?_
          exact retWC_end1 (r := (r1, r2, r3)) P3.out P4.out hb5 _ _ HO.out HC.out
        · have e1 : sgB true = -1 := rfl
          rw [e1] at HSG
          have hx48 := HX rfl x r rfl
          clear hdec h48 hok HH HX hlong hlx hbl hN hsg hr e1
          go_enter Try.func47, Try.ntmps47
          go_wp2_with fail
          rw [HW0.out]
          refine HCUT.out.mono ?_
          rintro e w1 ⟨rfl, rfl⟩
          go_wp2_with fail
          refine (HDEC.out _ hT).mono ?_
          rintro e w2 ⟨rfl, hb⟩
          go_wp2_with fail
          refine (HDG.out _ hb).mono ?_
          rintro e w3 ⟨a3, c3, rfl, hc3, ho3, hb3⟩
          go_wp2_with fail
          refine (HSG.out _ _ _ hc3 ho3 hb3).mono ?_
          rintro e w4 ⟨a4, c4, rfl, hc4, ho4, hb4⟩
          clear hc3 ho3 hb3
          go_wp2_with fail
          refine (HLM.out _ _ _ hc4 ho4 hb4).mono ?_
          rintro e w5 ⟨a5, c5, rfl, hc5, ho5, hb5⟩
          have HC := Lib.hid hc5
          have HO := Lib.hid ho5
          clear hc4 ho4 hb4 hc5 ho5
          obtain ⟨q1, q2, q3, q4⟩ := SR.out _ hb5
          go_wp2_with fail
          refine bodyPost_ret (v := .tuple #[.agg #[.int .i64 r1, .slice a5 r2.length c5], .int .i64 r3]) (by simp [results, Try.results47, go_sem, *]) rfl ?_
          exact retWC_end1 (r := (r1, r2, r3)) P3.out P4.out hb5 _ _ HO.out HC.out
  · rw [prR_no (fun h => hdec h.1)]
    rw [decB_no hdec] at HDEC
    clear hdec hbl
    go_enter Try.func47, Try.ntmps47
    go_wp2_with fail
    rw [HW0.out]
    refine HCUT.out.mono ?_
    rintro e w1 ⟨rfl, rfl⟩
    go_wp2_with fail
    refine (HDEC.out _ hT).mono ?_
    rintro e w2 ⟨rfl, hb⟩
    obtain ⟨q1, q2, q3, q4⟩ := SR.out _ hb
    go_wp2_with fail
    refine bodyPost_ret (v := .tuple #[.agg #[.int .i64 0, .slice none 0 0], .int .i64 6]) (by simp [results, Try.results47, go_sem, *]) rfl ?_
    exact retWC_zero1 6 P3.out P4.out hb _ _
end Go.Proofs.Ytpchcigpppdfiab
