/-
  Contracts: whole5, likeInts, big of the laws. Conditions: the limbs can be read. The laws' arithmetic of whole numbers: sums are undone by differences, quotients by products and sums, comparing is the sign of the difference. No conditions: plain facts.
-/
import Derived.Test.YtgppagmejhgmaaaGreatDoorMh
import Derived.Test.YtgppagmejhgmaaaGreatDoorSn
import Derived.Test.YtgppagmejhgmaaaGreatDoorVr
import Derived.Test.YtgppagmejhgmaaaGreatDoorTg
import Derived.Test.YtgppagmejhgmaaaGreatDoorUc
import Derived.Test.YtgppagmejhgmaaaGreatDoorUe
import Derived.Test.YtgppagmejhgmaaaGreatDoorLx
namespace Go.Proofs.YtgppagmejhgmaaaGreatDoor
set_option linter.unusedVariables false
open Go Go.RowKit
set_option maxHeartbeats 400000 in
theorem bigNo (a : Option Addr) (len cap : Nat) (h : (len : Int) ≤ 4096) (w : World) : Calls Tryz.prog 4 #[.slice a len cap] w fun e w' => e = .returned (.bool false) ∧ w = w' := by
  have hd : decide ((4096 : Int) < (len : Int)) = false := decide_eq_false (by omega)
  go_enter Tryz.func4, Tryz.ntmps4
  go_wp2
  go_ret
  exact ⟨rfl, rfl⟩
set_option maxHeartbeats 400000 in
theorem bigYes (a : Option Addr) (len cap : Nat) (h : 4096 < (len : Int)) (w : World) : Calls Tryz.prog 4 #[.slice a len cap] w fun e w' => e = .returned (.bool true) ∧ w = w' := by
  go_enter Tryz.func4, Tryz.ntmps4
  go_wp2
  go_ret
  exact ⟨rfl, rfl⟩

theorem fitZ_yes {z : Int} (h : (lim z.natAbs).length ≤ 200) : fitZ z = (z.sign, lim z.natAbs, 0) := by unfold fitZ; exact fitW_yes h
theorem fitZ_zero {z t1 : Int} {m1 : List Int} (h : (t1, m1, (0 : Int)) = fitZ z) : t1 = z.sign ∧ m1 = lim z.natAbs ∧ (lim z.natAbs).length ≤ 200 := by
  by_cases hl : (lim z.natAbs).length ≤ 200
  · rw [fitZ_yes hl] at h
    injection h with h1 h2
    injection h2 with h2 h3
    exact ⟨h1, h2, hl⟩
  · unfold fitZ at h
    rw [fitW_no (by omega)] at h
    injection h with h1 h2
    injection h2 with h2 h3
    exact absurd h3 (by decide)
theorem isWh_Z {z : Int} (h : (lim z.natAbs).length ≤ 200) : IsWh z.sign (lim z.natAbs) := isWh_lim h (Sg.of z)
theorem wv_Z (z : Int) : wv z.sign (lim z.natAbs) = z := by rw [wv_lim]; exact Sg.mul z
theorem fitZ_sg {s : Int} {m : Nat} (h : Sg s m) (hl : (lim m).length ≤ 200) : fitZ (s * (m : Int)) = (s, lim m, 0) := by
  obtain ⟨h1, h2⟩ := h.eq rfl
  rw [fitZ_yes (by rw [← h2]; exact hl), ← h1, ← h2]
theorem sum_undone {s t t1 : Int} {xs ys m1 : List Int} (h : (t1, m1, (0 : Int)) = binR (fun x y => x + y) s xs t ys) : (s, xs, (0 : Int)) = binR (fun x y => x - y) t1 m1 t ys := by
  by_cases hw : IsWh s xs ∧ IsWh t ys
  · rw [binR_yes hw.1 hw.2] at h
    obtain ⟨m, rfl, hm, sm⟩ := isWh_of hw.1
    obtain ⟨rfl, rfl, hl⟩ := fitZ_zero h
    rw [binR_yes (isWh_Z hl) hw.2, wv_Z]
    have e : wv s (lim m) + wv t ys - wv t ys = s * (m : Int) := by rw [wv_lim]; omega
    rw [e, fitZ_sg sm hm]
  · rw [binR_no hw] at h
    injection h with _ h2
    injection h2 with _ h3
    exact absurd h3 (by decide)
theorem sub_order {s t t2 : Int} {xs ys m2 : List Int} (h : (t2, m2, (0 : Int)) = binR (fun x y => x - y) s xs t ys) : cmpR s xs t ys = (t2, 0) := by
  by_cases hw : IsWh s xs ∧ IsWh t ys
  · rw [binR_yes hw.1 hw.2] at h
    rw [cmpR_yes hw.1 hw.2]
    obtain ⟨rfl, _, _⟩ := fitZ_zero h
    congr 1
    rcases Int.lt_trichotomy (wv s xs) (wv t ys) with h1 | h1 | h1
    · rw [cmpZ_lt h1, Int.sign_eq_neg_one_of_neg (by omega)]
    · rw [cmpZ_eq h1, h1, Int.sub_self]; rfl
    · rw [cmpZ_gt h1, Int.sign_eq_one_of_pos (by omega)]
  · rw [binR_no hw] at h
    injection h with _ h2
    injection h2 with _ h3
    exact absurd h3 (by decide)
theorem int_back {n : Int} (h : -9223372036854775808 ≤ n ∧ n ≤ 9223372036854775807) (hl : (lim n.natAbs).length ≤ 200) : intR n.sign (lim n.natAbs) = (n, 0) ∧ whB n.sign (lim n.natAbs) = true := by
  have hw := isWh_Z hl
  refine ⟨?_, whB_yes hw⟩
  rw [intR_yes hw (by rw [wv_Z]; exact h), wv_Z]
/-- The division's facts. -/
theorem div_facts {s t d1 d2 : Int} {xs ys l1 l2 : List Int} (h : (⟨d1, l1, d2, l2, 0⟩ : DivRes) = divR s xs t ys) :
    (∃ p1 p2, binR (fun x y => x * y) d1 l1 t ys = (p1, p2, 0) ∧ binR (fun x y => x + y) p1 p2 d2 l2 = (s, xs, 0)) ∧ (d2 = 0 ∨ d2 = s) ∧ (-1 ≤ d2 ∧ d2 ≤ 1) ∧ cmpR (d2 * d2) l2 1 ys = (-1, 0) := by
  by_cases hw : IsWh s xs ∧ IsWh t ys
  · obtain ⟨hw1, hw2⟩ := hw
    by_cases ht : t = 0
    · rw [divR_zero hw1 hw2 ht] at h
      injection h with _ _ _ _ h5
      exact absurd h5 (by decide)
    · obtain ⟨m, rfl, hm, sm⟩ := isWh_of hw1
      obtain ⟨v, rfl, hv, sv⟩ := isWh_of hw2
      rw [divR_yes hw1 hw2 ht] at h
      injection h with h1 h2 h3 h4 _
      have hv0 : v ≠ 0 := fun h0 => by rcases sv with ⟨_, e⟩ | ⟨e, _⟩; exact ht e; exact e h0
      have hvp : 0 < v := Nat.pos_of_ne_zero hv0
      have st : t = 1 ∨ t = -1 := by rcases sv with ⟨e, _⟩ | ⟨_, e⟩; exact absurd e hv0; exact e
      have hq : (lim (m / v)).length ≤ 200 := Nat.le_trans (lim_le_of_le (Nat.div_le_self m v)) hm
      have hr : (lim (m % v)).length ≤ 200 := Nat.le_trans (lim_le_of_le (Nat.mod_le m v)) hm
      have hs3 : s = 0 ∨ s = 1 ∨ s = -1 := by rcases sm with ⟨_, e⟩ | ⟨_, e⟩; exact .inl e; exact .inr e
      have sq : Sg d1 (m / v) := by
        rw [h1]
        by_cases h0 : m / v = 0
        · rw [h0, sgnOf_zero]; exact .inl ⟨rfl, rfl⟩
        · rw [sgnOf_pos h0]
          have hm0 : m ≠ 0 := fun e => h0 (by rw [e]; exact Nat.zero_div v)
          rcases sm with ⟨e, _⟩ | ⟨_, e⟩
          · exact absurd e hm0
          · refine .inr ⟨h0, ?_⟩
            rcases e with rfl | rfl <;> rcases st with rfl | rfl <;> decide
      have sr : Sg d2 (m % v) := by
        rw [h3]
        by_cases h0 : m % v = 0
        · rw [h0, sgnOf_zero]; exact .inl ⟨rfl, rfl⟩
        · rw [sgnOf_pos h0]
          have hm0 : m ≠ 0 := fun e => h0 (by rw [e]; exact Nat.zero_mod v)
          rcases sm with ⟨e, _⟩ | ⟨_, e⟩
          · exact absurd e hm0
          · exact .inr ⟨h0, e⟩
      subst h2 h4
      have wq : IsWh d1 (lim (m / v)) := isWh_lim hq sq
      have wr : IsWh d2 (lim (m % v)) := isWh_lim hr sr
      have hdm : m = v * (m / v) + m % v := (Nat.div_add_mod m v).symm
      -- the product's value
      have e1 : d1 * ((m / v : Nat) : Int) * (t * (v : Int)) = s * ((v * (m / v) : Nat) : Int) := by
        by_cases h0 : m / v = 0
        · rw [h0]; simp
        · rw [h1, sgnOf_pos h0]
          rcases st with rfl | rfl <;> (push_cast; grind)
      have e2 : d2 * ((m % v : Nat) : Int) = s * ((m % v : Nat) : Int) := by
        by_cases h0 : m % v = 0
        · rw [h0]; simp
        · rw [h3, sgnOf_pos h0]
      have hpl : (lim (v * (m / v))).length ≤ 200 := Nat.le_trans (lim_le_of_le (Nat.mul_div_le m v)) hm
      have sp : Sg (sgnOf s (v * (m / v))) (v * (m / v)) := by
        by_cases h0 : v * (m / v) = 0
        · rw [h0, sgnOf_zero]; exact .inl ⟨rfl, rfl⟩
        · rw [sgnOf_pos h0]
          rcases sm with ⟨e, _⟩ | ⟨_, e⟩
          · exact absurd (by rw [e]; simp) h0
          · exact .inr ⟨h0, e⟩
      have e3 : sgnOf s (v * (m / v)) * ((v * (m / v) : Nat) : Int) = s * ((v * (m / v) : Nat) : Int) := by
        by_cases h0 : v * (m / v) = 0
        · rw [h0]; simp
        · rw [sgnOf_pos h0]
      refine ⟨⟨sgnOf s (v * (m / v)), lim (v * (m / v)), ?_, ?_⟩, ?_, ?_, ?_⟩
      · rw [binR_yes wq hw2, wv_lim, wv_lim, e1, ← e3, fitZ_sg sp hpl]
      · rw [binR_yes (isWh_lim hpl sp) wr, wv_lim, wv_lim, e3, e2]
        have e4 : s * ((v * (m / v) : Nat) : Int) + s * ((m % v : Nat) : Int) = s * (m : Int) := by
          rw [← Int.mul_add]
          congr 1
          rw [← Int.natCast_add, ← hdm]
        rw [e4, fitZ_sg sm hm]
      · rcases sr with ⟨_, e⟩ | ⟨h0, _⟩
        · exact .inl e
        · rw [h3, sgnOf_pos h0]; exact .inr rfl
      · rcases sr with ⟨_, e⟩ | ⟨_, e⟩ <;> omega
      · have hlt := Nat.mod_lt m hvp
        have wr2 : IsWh (d2 * d2) (lim (m % v)) := isWh_lim hr (by
          rcases sr with ⟨e, e'⟩ | ⟨h0, e⟩
          · exact .inl ⟨e, by rw [e']; rfl⟩
          · refine .inr ⟨h0, .inl ?_⟩
            rcases e with e | e <;> rw [e] <;> rfl)
        have wv2 : IsWh 1 (lim v) := isWh_lim hv (.inr ⟨hv0, .inl rfl⟩)
        rw [cmpR_yes wr2 wv2, wv_lim, wv_lim, cmpZ_lt]
        have h5 : d2 * d2 = 0 ∨ d2 * d2 = 1 := by
          rcases sr with ⟨_, e⟩ | ⟨_, e | e⟩ <;> rw [e] <;> simp
        rcases h5 with h5 | h5 <;> rw [h5] <;> omega
  · rw [divR_no hw] at h
    injection h with _ _ _ _ h5
    exact absurd h5 (by decide)
end Go.Proofs.YtgppagmejhgmaaaGreatDoor
