/-
  Contracts: l02Read where the text is that of no number, and ParseWhole of the model. Conditions: none.
-/
import Derived.Test.YtpchcigpppdfiabDh
namespace Go.Proofs.Ytpchcigpppdfiab
set_option linter.unusedVariables false
open Go Go.RowKit

theorem retRd_no0 {w W0 : World} (P3 : Below w.heap.size w W0) : RetRd 0 0 false w (.returned (.tuple #[.agg #[.int .i64 0, .slice none 0 0], .bool false])) W0 :=
  ⟨none, 0, by rw [lim_zero]; rfl, by rw [lim_zero]; exact Nat.le_refl _, by rw [lim_zero]; exact Own.nil, P3⟩
theorem cutM_nil : cutM [] = ([], false) := by simp [cutM]
theorem cutM_minus (r : List UInt8) : cutM (45 :: r) = (r, true) := by simp [cutM]
theorem cutM_plain {x : UInt8} (r : List UInt8) (h : x ≠ 45) : cutM (x :: r) = (x :: r, false) := by simp [cutM, h]
set_option maxRecDepth 100000 in
set_option maxHeartbeats 4000000 in
theorem sReadNo (l : List UInt8) (hl : l.length ≤ 1048576) (hno : ¬ prOk (cutM l).1 (cutM l).2) (w : World) :
    Calls Try.prog 94 #[.string ⟨l.toArray⟩] w (RetRd 0 0 false w) := by
  obtain ⟨W0, hW0⟩ : ∃ W0 : World, w.alloc (.cells #[.int .i64 0, .slice none 0 0] 24) = W0 := ⟨_, rfl⟩
  obtain ⟨p2, p3, p4⟩ := one_box w 24 #[.int .i64 0, .slice none 0 0]
  rw [hW0] at p2 p3 p4
  have HW0 := Lib.hid hW0
  have P3 := Lib.hid p3
  have P4 := Lib.hid p4
  have SR := Lib.hid (show ∀ W, Below W0.heap.size W0 W → (W.cell? ⟨w.heap.size, 0, none⟩ = some (.int .i64 0) ∧ W.cell? ⟨w.heap.size, 1, none⟩ = some (.slice none 0 0) ∧ W.frozen? ⟨w.heap.size, 0, none⟩ = false ∧ W.frozen? ⟨w.heap.size, 1, none⟩ = false) from
    fun W hW => (p2.below hW).two)
  have hT : Below W0.heap.size W0 W0 := Below.refl _ _
  clear p2 p3 p4 hW0
  rcases l with _ | ⟨y, l⟩
  · clear hno hl
    obtain ⟨q1, q2, q3, q4⟩ := SR.out _ hT
    go_enter Try.func94, Try.ntmps94
    go_wp2
    rw [HW0.out]
    go_wp2
    refine bodyPost_ret (v := .tuple #[.agg #[.int .i64 0, .slice none 0 0], .bool false]) (by simp [results, Try.results94, go_sem, *]) rfl ?_
    first
    | exact retRd_no P3.out P4.out hT _ _
    | exact retRd_no0 P3.out
  · by_cases hy : y = 45
    · subst hy
      rw [cutM_minus] at hno
      rcases l with _ | ⟨x, r⟩
      · clear hno hl
        have hx2 := extract_tail 45 [] 1 rfl
        have hg : (({ data := ((45 : UInt8) :: []).toArray } : ByteArray)[0]'(by simp [ByteArray.size])).toNat = 45 := rfl
        obtain ⟨q1, q2, q3, q4⟩ := SR.out _ hT
        go_enter Try.func94, Try.ntmps94
        go_wp2
        rw [HW0.out]
        go_wp2
        refine bodyPost_ret (v := .tuple #[.agg #[.int .i64 0, .slice none 0 0], .bool false]) (by simp [results, Try.results94, go_sem, *]) rfl ?_
        first
        | exact retRd_no P3.out P4.out hT _ _
        | exact retRd_no0 P3.out
      · have hx2 := extract_tail 45 (x :: r) (r.length + 2) rfl
        have hpos2 : (1 : Int) ≤ (r.length : Int) + 1 + 1 := by omega
        have hposI : (0 : Int) < (r.length : Int) + 1 := by omega
        have hg : (({ data := ((45 : UInt8) :: x :: r).toArray } : ByteArray)[0]'(by simp [ByteArray.size])).toNat = 45 := rfl
        have hg2 : (({ data := (x :: r).toArray } : ByteArray)[0]'(by simp [ByteArray.size])).toNat = x.toNat := rfl
        by_cases hx48 : x = 48
        · have hn48 : ((x.toNat : Int) == 48) = true := by rw [hx48]; rfl
          clear hno hl hx48
          by_cases hr : (1 : Int) < (r.length : Int) + 1
          · have hrd : decide ((1 : Int) < (r.length : Int) + 1) = true := decide_eq_true hr
            obtain ⟨q1, q2, q3, q4⟩ := SR.out _ hT
            go_enter Try.func94, Try.ntmps94
            go_wp2
            rw [HW0.out]
            go_wp2
            refine bodyPost_ret (v := .tuple #[.agg #[.int .i64 0, .slice none 0 0], .bool false]) (by simp [results, Try.results94, go_sem, *]) rfl ?_
            first
            | exact retRd_no P3.out P4.out hT _ _
            | exact retRd_no0 P3.out
          · have hrd : decide ((1 : Int) < (r.length : Int) + 1) = false := decide_eq_false hr
            clear hr
            obtain ⟨q1, q2, q3, q4⟩ := SR.out _ hT
            go_enter Try.func94, Try.ntmps94
            go_wp2
            rw [HW0.out]
            go_wp2
            refine bodyPost_ret (v := .tuple #[.agg #[.int .i64 0, .slice none 0 0], .bool false]) (by simp [results, Try.results94, go_sem, *]) rfl ?_
            first
            | exact retRd_no P3.out P4.out hT _ _
            | exact retRd_no0 P3.out
        · have HNOT := Lib.hid (show ¬ ∀ b ∈ x :: r, isDig b from fun h => hno ⟨isDec_of h (.inl hx48), fun h2 => hx48 (by simpa using congrArg List.head? h2.2)⟩)
          have hrI : (r.length : Int) ≤ 1048576 := by simp at hl; omega
          have hn48 : ((x.toNat : Int) == 48) = false := beq_eq_false_iff_ne.2 (fun h => hx48 (UInt8.toNat_inj.1 (by
            have : (48 : UInt8).toNat = 48 := rfl
            omega)))
          clear hno hl hx48
          go_enter Try.func94, Try.ntmps94
          go_wp2
          rw [HW0.out]
          go_loop [6] (fun i => ∃ k : Nat, k ≤ (x :: r).length ∧ i = .int .i64 (k : Int) ∧ Hid (∀ j : Nat, j < k → isDig ((x :: r).getD j 0))) (fun i => (x :: r).length - (intOf i).toNat)
          case atStart => exact ⟨0, Nat.zero_le _, rfl, Lib.hid fun j hj => by omega⟩
          case round =>
            obtain ⟨k, hk, rfl, HA⟩ := hrel
            by_cases hkl : k < (x :: r).length
            · obtain ⟨y, hy⟩ : ∃ y : UInt8, y = (x :: r).getD k 0 := ⟨_, rfl⟩
              have hyk : (x :: r)[k] = y := by rw [hy, List.getD_eq_getElem?_getD, List.getElem?_eq_getElem hkl]; rfl
              obtain ⟨d, hdd⟩ : ∃ d : Nat, d = y.toNat := ⟨_, rfl⟩
              have hgk : ∀ h : k < ({ data := (x :: r).toArray } : ByteArray).size, (({ data := (x :: r).toArray } : ByteArray)[k]'h).toNat = d := fun _ => by
                rw [hdd, ← hyk]; rfl
              have hbd : d < 256 := by rw [hdd]; exact y.toNat_lt
              have HD := Lib.hid (show 48 ≤ d → d ≤ 57 → isDig ((x :: r).getD k 0) from fun h1 h2 => by rw [← hy]; unfold isDig; omega)
              have hkI : (k : Int) < (r.length : Int) + 1 := by simp at hkl; omega
              have HK := Lib.hid hkl
              by_cases h1 : d < 48
              · have h48I : (d : Int) < 48 := by omega
                obtain ⟨q1, q2, q3, q4⟩ := SR.out _ hT
                clear hdd hy hyk hk hkl h1 hbd
                go_wp2
                refine bodyPost_ret (v := .tuple #[.agg #[.int .i64 0, .slice none 0 0], .bool false]) (by simp [results, Try.results94, go_sem, *]) rfl ?_
                exact retRd_no P3.out P4.out hT _ _
              · have h48I : decide ((d : Int) < 48) = false := decide_eq_false (by omega)
                by_cases h2 : 57 < d
                · have h57I : (57 : Int) < (d : Int) := by omega
                  obtain ⟨q1, q2, q3, q4⟩ := SR.out _ hT
                  clear hdd hy hyk hk hkl h1 hbd h2
                  go_wp2
                  refine bodyPost_ret (v := .tuple #[.agg #[.int .i64 0, .slice none 0 0], .bool false]) (by simp [results, Try.results94, go_sem, *]) rfl ?_
                  exact retRd_no P3.out P4.out hT _ _
                · have h57I : decide ((57 : Int) < (d : Int)) = false := decide_eq_false (by omega)
                  have HY := Lib.hid (HD.out (by omega) (by omega))
                  clear hdd hy hyk hk hkl h1 hbd h2
                  go_wp2
                  go_round
                  case rel => exact ⟨k + 1, HK.out, by go_num, Lib.hid fun j hj => by
                    by_cases e : j = k
                    · subst e; exact HY.out
                    · exact HA.out j (by omega)⟩
                  case measure => have := HK.out; simp [intOf]; simp at this; omega
            · exfalso
              apply HNOT.out
              intro b hb
              obtain ⟨j, hj, rfl⟩ := List.getElem_of_mem hb
              have h := HA.out j (by omega)
              rwa [List.getD_eq_getElem?_getD, List.getElem?_eq_getElem hj] at h
    · obtain ⟨x, hxy⟩ : ∃ x, x = y := ⟨_, rfl⟩
      obtain ⟨r, hr⟩ : ∃ r, r = l := ⟨_, rfl⟩
      rw [← hxy] at hy hno hl ⊢
      rw [← hr] at hno hl ⊢
      clear hxy hr
      rw [cutM_plain r hy] at hno
      have hposI : (0 : Int) < (r.length : Int) + 1 := by omega
      have hg2 : (({ data := (x :: r).toArray } : ByteArray)[0]'(by simp [ByteArray.size])).toNat = x.toNat := rfl
      have hn45 : ((x.toNat : Int) == 45) = false := beq_eq_false_iff_ne.2 (fun h => hy (UInt8.toNat_inj.1 (by
        have : (45 : UInt8).toNat = 45 := rfl
        omega)))
      by_cases hx48 : x = 48
      · have hn48 : ((x.toNat : Int) == 48) = true := by rw [hx48]; rfl
        have hr0 : r ≠ [] := fun h => hno ⟨⟨fun b hb => by
          rw [h, hx48] at hb
          simp at hb
          subst hb
          unfold isDig
          decide, .inl (by rw [h, hx48])⟩, fun h2 => by cases h2.1⟩
        have hrl : 0 < r.length := Nat.pos_of_ne_zero (fun h => hr0 (List.eq_nil_of_length_eq_zero h))
        have hrd : decide ((1 : Int) < (r.length : Int) + 1) = true := decide_eq_true (by omega)
        clear hno hl hx48 hr0 hrl hy
        obtain ⟨q1, q2, q3, q4⟩ := SR.out _ hT
        go_enter Try.func94, Try.ntmps94
        go_wp2
        rw [HW0.out]
        go_wp2
        refine bodyPost_ret (v := .tuple #[.agg #[.int .i64 0, .slice none 0 0], .bool false]) (by simp [results, Try.results94, go_sem, *]) rfl ?_
        first
        | exact retRd_no P3.out P4.out hT _ _
        | exact retRd_no0 P3.out
      · have HNOT := Lib.hid (show ¬ ∀ b ∈ x :: r, isDig b from fun h => hno ⟨isDec_of h (.inl hx48), fun h2 => by cases h2.1⟩)
        have hrI : (r.length : Int) ≤ 1048576 := by simp at hl; omega
        have hn48 : ((x.toNat : Int) == 48) = false := beq_eq_false_iff_ne.2 (fun h => hx48 (UInt8.toNat_inj.1 (by
          have : (48 : UInt8).toNat = 48 := rfl
          omega)))
        clear hno hl hx48 hy
        go_enter Try.func94, Try.ntmps94
        go_wp2
        rw [HW0.out]
        go_loop [6] (fun i => ∃ k : Nat, k ≤ (x :: r).length ∧ i = .int .i64 (k : Int) ∧ Hid (∀ j : Nat, j < k → isDig ((x :: r).getD j 0))) (fun i => (x :: r).length - (intOf i).toNat)
        case atStart => exact ⟨0, Nat.zero_le _, rfl, Lib.hid fun j hj => by omega⟩
        case round =>
          obtain ⟨k, hk, rfl, HA⟩ := hrel
          by_cases hkl : k < (x :: r).length
          · obtain ⟨y, hy⟩ : ∃ y : UInt8, y = (x :: r).getD k 0 := ⟨_, rfl⟩
            have hyk : (x :: r)[k] = y := by rw [hy, List.getD_eq_getElem?_getD, List.getElem?_eq_getElem hkl]; rfl
            obtain ⟨d, hdd⟩ : ∃ d : Nat, d = y.toNat := ⟨_, rfl⟩
            have hgk : ∀ h : k < ({ data := (x :: r).toArray } : ByteArray).size, (({ data := (x :: r).toArray } : ByteArray)[k]'h).toNat = d := fun _ => by
              rw [hdd, ← hyk]; rfl
            have hbd : d < 256 := by rw [hdd]; exact y.toNat_lt
            have HD := Lib.hid (show 48 ≤ d → d ≤ 57 → isDig ((x :: r).getD k 0) from fun h1 h2 => by rw [← hy]; unfold isDig; omega)
            have hkI : (k : Int) < (r.length : Int) + 1 := by simp at hkl; omega
            have HK := Lib.hid hkl
            by_cases h1 : d < 48
            · have h48I : (d : Int) < 48 := by omega
              obtain ⟨q1, q2, q3, q4⟩ := SR.out _ hT
              clear hdd hy hyk hk hkl h1 hbd
              go_wp2
              refine bodyPost_ret (v := .tuple #[.agg #[.int .i64 0, .slice none 0 0], .bool false]) (by simp [results, Try.results94, go_sem, *]) rfl ?_
              exact retRd_no P3.out P4.out hT _ _
            · have h48I : decide ((d : Int) < 48) = false := decide_eq_false (by omega)
              by_cases h2 : 57 < d
              · have h57I : (57 : Int) < (d : Int) := by omega
                obtain ⟨q1, q2, q3, q4⟩ := SR.out _ hT
                clear hdd hy hyk hk hkl h1 hbd h2
                go_wp2
                refine bodyPost_ret (v := .tuple #[.agg #[.int .i64 0, .slice none 0 0], .bool false]) (by simp [results, Try.results94, go_sem, *]) rfl ?_
                exact retRd_no P3.out P4.out hT _ _
              · have h57I : decide ((57 : Int) < (d : Int)) = false := decide_eq_false (by omega)
                have HY := Lib.hid (HD.out (by omega) (by omega))
                clear hdd hy hyk hk hkl h1 hbd h2
                go_wp2
                go_round
                case rel => exact ⟨k + 1, HK.out, by go_num, Lib.hid fun j hj => by
                  by_cases e : j = k
                  · subst e; exact HY.out
                  · exact HA.out j (by omega)⟩
                case measure => have := HK.out; simp [intOf]; simp at this; omega
          · exfalso
            apply HNOT.out
            intro b hb
            obtain ⟨j, hj, rfl⟩ := List.getElem_of_mem hb
            have h := HA.out j (by omega)
            rwa [List.getD_eq_getElem?_getD, List.getElem?_eq_getElem hj] at h

theorem dv_cons (x : UInt8) (r : List UInt8) : dv (x :: r) = (x.toNat - 48) * 10 ^ r.length + dv r := by
  have h := dv_from r (0 * 10 + (x.toNat - 48))
  rw [Nat.zero_mul, Nat.zero_add] at h
  rw [← h]
  show List.foldl _ (0 * 10 + (x.toNat - 48)) r = _
  rw [Nat.zero_mul, Nat.zero_add]
theorem pow_base : (16777216 ^ 200).ble (((10 ^ 17) ^ 17) ^ 5) = true := by kernel_rfl
theorem pow_tower (a b c M : Nat) (h : M = a * (b * c)) : ((10 ^ a) ^ b) ^ c = 10 ^ M := by rw [← Nat.pow_mul, ← Nat.pow_mul, h]
theorem pow_big {K : Nat} (h : 1445 ≤ K) : 16777216 ^ 200 ≤ 10 ^ K := by
  obtain ⟨M, hM⟩ : ∃ M, M = 17 * (17 * 5) := ⟨_, rfl⟩
  have h2 := Nat.le_of_ble_eq_true pow_base
  rw [pow_tower 17 17 5 M hM] at h2
  exact Nat.le_trans h2 (Nat.pow_le_pow_right (by omega) (by omega))
theorem lim_big {N K : Nat} (hK : 1445 ≤ K) (h : 10 ^ K ≤ N) : 200 < (lim N).length := by
  rw [lim_length]
  apply Nat.lt_of_not_le
  intro hle
  have h1 := val_lt (small_dig N)
  rw [val_dig] at h1
  have h2 : 16777216 ^ (dig N).length ≤ 16777216 ^ 200 := Nat.pow_le_pow_right (by omega) hle
  have h3 := pow_big hK
  generalize 16777216 ^ (dig N).length = A at *
  generalize 16777216 ^ 200 = B at *
  generalize 10 ^ K = C at *
  omega
theorem prR_spec {x : UInt8} {r : List UInt8} {neg : Bool} (h : prOk (x :: r) neg) :
    prR (x :: r) neg = fitW (sgnOf (sgB neg) (dv ((x :: r).take 2000))) (dv ((x :: r).take 2000)) := by
  by_cases hl : 1445 < (x :: r).length
  · rw [prR_long h hl, fitW_no]
    have hx : x ≠ 48 := by
      rcases h.1.2 with h2 | h2
      · exact fun _ => by rw [h2] at hl; simp at hl
      · simpa using h2.2
    have hd := h.1.1 x (by simp)
    unfold isDig at hd
    have hxn : 49 ≤ x.toNat := by
      rcases Nat.lt_or_ge x.toNat 49 with h3 | h3
      · exact absurd (UInt8.toNat_inj.1 (show x.toNat = (48 : UInt8).toNat by
          have : (48 : UInt8).toNat = 48 := rfl
          omega)) hx
      · exact h3
    have e : (x :: r).take 2000 = x :: r.take 1999 := rfl
    rw [e, dv_cons]
    have hlr : 1445 ≤ (r.take 1999).length := by simp at hl; rw [List.length_take]; omega
    refine lim_big hlr ?_
    have h4 : 1 * 10 ^ (r.take 1999).length ≤ (x.toNat - 48) * 10 ^ (r.take 1999).length := Nat.mul_le_mul_right _ (by omega)
    generalize 10 ^ (r.take 1999).length = C at *
    generalize (x.toNat - 48) * C = D at *
    omega
  · rw [prR_yes h hl, List.take_of_length_le (by omega)]

end Go.Proofs.Ytpchcigpppdfiab
