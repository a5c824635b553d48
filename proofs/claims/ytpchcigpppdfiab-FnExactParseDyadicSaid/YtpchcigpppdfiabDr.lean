/-
  Contracts: l03Read, ParseDyadic of the model. Conditions: the text has at most 1048576 bytes.
-/
import Derived.Test.YtpchcigpppdfiabDq
import Derived.Test.YtpchcigpppdfiabDi
namespace Go.Proofs.Ytpchcigpppdfiab
set_option linter.unusedVariables false
open Go Go.RowKit

/-- What the model reads of a text as a whole number: sign, absolute value, whether it is one. -/
structure RdOf (l : List UInt8) (s : Int) (n : Nat) (ok : Bool) : Prop where
  call : ∀ w, Calls Try.prog 94 #[.string ⟨l.toArray⟩] w (RetRd s n ok w)
  yes : ok = true → prR (cutM l).1 (cutM l).2 = fitW s n
  no : ok = false → prR (cutM l).1 (cutM l).2 = (0, [], 6)
  sg : Sg s n
  len : (lim n).length ≤ 1000
theorem rdOf (l : List UInt8) (hl : l.length ≤ 1048576) : ∃ s n ok, RdOf l s n ok := by
  by_cases hok : prOk (cutM l).1 (cutM l).2
  · obtain ⟨x, r, hxr⟩ : ∃ x r, (cutM l).1 = x :: r := by
      have h := dec_ne hok.1
      rcases hc : (cutM l).1 with _ | ⟨x, r⟩
      · exact absurd hc h
      · exact ⟨x, r, rfl⟩
    have hcut : (l = 45 :: x :: r ∧ sgB (cutM l).2 = -1 ∧ x ≠ 48) ∨ (l = x :: r ∧ sgB (cutM l).2 = 1 ∧ x ≠ 45 ∧ (x ≠ 48 ∨ r = [])) := by
      rcases l with _ | ⟨y, l⟩
      · rw [cutM_nil] at hxr; simp at hxr
      · by_cases hy : y = 45
        · subst hy
          rw [cutM_minus] at hxr hok ⊢
          simp only at hxr hok
          subst hxr
          refine .inl ⟨rfl, rfl, fun h => ?_⟩
          subst h
          rcases hok.1.2 with h2 | h2
          · exact hok.2 ⟨rfl, h2⟩
          · exact h2.2 rfl
        · rw [cutM_plain l hy] at hxr hok ⊢
          simp only at hxr hok
          injection hxr with h1 h2
          subst h1
          subst h2
          refine .inr ⟨rfl, rfl, hy, ?_⟩
          rcases hok.1.2 with h2 | h2
          · exact .inr (by simpa using congrArg List.tail h2)
          · exact .inl (by simpa using h2.2)
    rw [hxr] at hok
    have hsg1 : sgB (cutM l).2 = 1 ∨ sgB (cutM l).2 = -1 := by
      unfold sgB
      split <;> simp
    refine ⟨sgnOf (sgB (cutM l).2) (dv ((x :: r).take 2000)), dv ((x :: r).take 2000), true, ⟨fun w => sReadYes l x r _ hl hcut hok.1.1 w, fun _ => ?_, fun h => (by cases h), ?_, ?_⟩⟩
    · rw [hxr]; exact prR_spec hok
    · generalize dv ((x :: r).take 2000) = N
      generalize sgB (cutM l).2 = sg at hsg1
      by_cases h0 : N = 0
      · subst h0; rw [sgnOf_zero]; exact .inl ⟨rfl, rfl⟩
      · rw [sgnOf_pos h0]; exact .inr ⟨h0, hsg1⟩
    · exact dv_lim (fun b hb => hok.1.1 b (List.mem_of_mem_take hb)) (by rw [List.length_take]; omega)
  · exact ⟨0, 0, false, ⟨fun w => sReadNo l hl hok w, fun h => (by cases h), fun _ => prR_no hok, .inl ⟨rfl, rfl⟩, by rw [lim_zero]; simp⟩⟩

/-- What the model reads of both parts of a text as an exact number. -/
noncomputable def rdZ (s1 : Int) (n1 : Nat) (o1 : Bool) (s2 : Int) (n2 : Nat) (o2 : Bool) : (Int × List Int × Int) × Bool :=
  if o1 = true ∧ o2 = true ∧ (lim n1).length ≤ 200 ∧ (lim n2).length ≤ 1 then ((s1, lim n1, s2 * (n2 : Int)), dyB s1 (lim n1) (s2 * (n2 : Int))) else ((0, [], 0), false)
theorem rdZ_yes {s1 : Int} {n1 : Nat} {o1 : Bool} {s2 : Int} {n2 : Nat} {o2 : Bool} (h : o1 = true ∧ o2 = true ∧ (lim n1).length ≤ 200 ∧ (lim n2).length ≤ 1) : rdZ s1 n1 o1 s2 n2 o2 = ((s1, lim n1, s2 * (n2 : Int)), dyB s1 (lim n1) (s2 * (n2 : Int))) := if_pos h
theorem rdZ_no {s1 : Int} {n1 : Nat} {o1 : Bool} {s2 : Int} {n2 : Nat} {o2 : Bool} (h : ¬ (o1 = true ∧ o2 = true ∧ (lim n1).length ≤ 200 ∧ (lim n2).length ≤ 1)) : rdZ s1 n1 o1 s2 n2 o2 = ((0, [], 0), false) := if_neg h
theorem lim_le_one {n : Nat} (h : (lim n).length ≤ 1) : n < 16777216 := by
  rcases Nat.lt_or_ge n 16777216 with h2 | h2
  · exact h2
  · exfalso
    have := lim_length n
    have h3 : (lim 16777216).length ≤ (lim n).length := lim_le_of_le h2
    have h4 : (lim 16777216).length = 2 := by decide +kernel
    omega
theorem one_lim {n : Nat} (h : n < 16777216) : (lim n).length ≤ 1 := by
  have h3 : (lim n).length ≤ (lim 16777215).length := lim_le_of_le (by omega)
  have h4 : (lim 16777215).length = 1 := by decide +kernel
  omega
theorem lim_nil_iff {n : Nat} : lim n = [] ↔ n = 0 := by
  constructor
  · intro h
    rcases Nat.eq_zero_or_pos n with h0 | h0
    · exact h0
    · exfalso
      have h1 : (lim 1).length ≤ (lim n).length := lim_le_of_le h0
      have h2 : (lim 1).length = 1 := by decide +kernel
      rw [h, h2] at h1
      simp at h1
  · rintro rfl; exact lim_zero
theorem lim_single {n : Nat} (h : (lim n).length = 1) : lim n = [(n : Int)] := by
  have hn := lim_le_one (Nat.le_of_eq h)
  have h0 : n ≠ 0 := fun h0 => by rw [h0, lim_zero] at h; simp at h
  show ofN (dig n) = _
  rw [dig_one h0 hn]
  rfl
/-- Both sides read the same exact number. -/
theorem pd_eq {f b : List UInt8} {s1 s2 : Int} {n1 n2 : Nat} {o1 o2 : Bool} (h1 : RdOf f s1 n1 o1) (h2 : RdOf b s2 n2 o2) :
    pdZ (prR (cutM f).1 (cutM f).2) (prR (cutM b).1 (cutM b).2) = if (rdZ s1 n1 o1 s2 n2 o2).2 = true then ((rdZ s1 n1 o1 s2 n2 o2).1.1, (rdZ s1 n1 o1 s2 n2 o2).1.2.1, (rdZ s1 n1 o1 s2 n2 o2).1.2.2, 0) else (0, [], 0, 6) := by
  cases o1 with
  | false => rw [h1.no rfl, pdZ_no (fun h => by have := h.1; simp at this), rdZ_no (fun h => by cases h.1)]; simp
  | true =>
    rw [h1.yes rfl]
    cases o2 with
    | false => rw [h2.no rfl, pdZ_no (fun h => by have := h.2.1; simp at this), rdZ_no (fun h => by cases h.2.1)]; simp
    | true =>
      rw [h2.yes rfl]
      by_cases k1 : (lim n1).length ≤ 200
      · rw [fitW_yes k1]
        by_cases k2 : (lim n2).length ≤ 1
        · have hw2 : IsWh s2 (lim n2) := isWh_lim (by omega) h2.sg
          have hv : wv s2 (lim n2) = s2 * (n2 : Int) := wv_lim s2 n2
          have hn2 := lim_le_one k2
          have hs2 : s2 = 0 ∨ s2 = 1 ∨ s2 = -1 := h2.sg.three
          have hr : -9223372036854775808 ≤ s2 * (n2 : Int) ∧ s2 * (n2 : Int) ≤ 9223372036854775807 := by rcases hs2 with rfl | rfl | rfl <;> omega
          rw [fitW_yes (show (lim n2).length ≤ 200 by omega), rdZ_yes ⟨rfl, rfl, k1, k2⟩]
          have hi : intR s2 (lim n2) = (s2 * (n2 : Int), 0) := by rw [intR_yes hw2 (by rw [hv]; exact hr), hv]
          cases hd : dyB s1 (lim n1) (s2 * (n2 : Int))
          · rw [pdZ_no (fun h => by have := h.2.2.2; simp only [hi] at this; rw [hd] at this; cases this)]; simp
          · rw [pdZ_yes ⟨rfl, rfl, by simp only [hi], by simp only [hi]; exact hd⟩]; simp [hi]
        · rw [rdZ_no (fun h => k2 h.2.2.2)]
          rw [pdZ_no (fun h => by
            by_cases k3 : (lim n2).length ≤ 200
            · rw [fitW_yes k3] at h
              simp only at h
              have hw2 : IsWh s2 (lim n2) := isWh_lim k3 h2.sg
              have hv : wv s2 (lim n2) = s2 * (n2 : Int) := wv_lim s2 n2
              have hs2 : s2 = 0 ∨ s2 = 1 ∨ s2 = -1 := h2.sg.three
              by_cases hr : -9223372036854775808 ≤ wv s2 (lim n2) ∧ wv s2 (lim n2) ≤ 9223372036854775807
              · have hi := intR_yes hw2 hr
                have hdy := h.2.2.2
                rw [hi] at hdy
                simp only at hdy
                rw [hv] at hdy
                have hx := (dyB_iff.1 hdy).2
                have hbig : 16777216 ≤ n2 := by
                  rcases Nat.lt_or_ge n2 16777216 with h9 | h9
                  · exact absurd (one_lim h9) k2
                  · exact h9
                have hsg := h2.sg
                unfold Sg at hsg
                rcases hs2 with rfl | rfl | rfl <;> omega
              · have hi := intR_lim hw2 hr
                have := h.2.2.1
                rw [hi] at this
                simp at this
            · rw [fitW_no (by omega)] at h
              have := h.2.1
              simp at this)]
          simp
      · rw [fitW_no (by omega), pdZ_no (fun h => by have := h.1; simp at this), rdZ_no (fun h => k1 h.2.2.1)]; simp

/-- The call read an exact number, or not. -/
def RetRY (r : (Int × List Int × Int) × Bool) (w : World) (e : Ending) (w' : World) : Prop := ∃ a c, e = .returned (.tuple #[.agg #[.int .i64 r.1.1, .slice a r.1.2.1.length c, .int .i64 r.1.2.2], .bool r.2]) ∧ r.1.2.1.length ≤ c ∧ Own w' w.heap.size a r.1.2.1 ∧ Below w.heap.size w w'
theorem RetRY.alloc {r : (Int × List Int × Int) × Bool} {w W : World} {e : Ending} (h : RetRY r w e W) (o : Obj) : RetRY r w e (W.alloc o) := by
  obtain ⟨a, c, he, hc, ho, hb⟩ := h
  exact ⟨a, c, he, hc, ho.alloc o, hb.alloc hb.size o⟩
theorem retRY_no {w W0 W : World} {k g : Nat} (P3 : Below w.heap.size w W0) (P4 : W0.heap.size = w.heap.size + k) (hb : Below W0.heap.size W0 W) (hg : w.heap.size ≤ g) (u v x : Value) :
    RetRY ((0, [], 0), false) w (.returned (.tuple #[.agg #[.int .i64 0, .slice none 0 0, .int .i64 0], .bool false])) (((W.setCell ⟨g, 0, none⟩ u).setCell ⟨g, 1, none⟩ v).setCell ⟨g, 2, none⟩ x) :=
  ⟨none, 0, rfl, Nat.le_refl _, Own.nil, below3 P3 P4 hb hg u v x⟩
theorem retRY_end {w W0 W : World} {k g : Nat} {r : (Int × List Int × Int) × Bool} {a : Option Addr} {c : Nat} (P3 : Below w.heap.size w W0) (P4 : W0.heap.size = w.heap.size + k) (hb : Below W0.heap.size W0 W) (hg : w.heap.size ≤ g) (hg2 : g < w.heap.size + k) (u v x : Value) (ho : Own W W0.heap.size a r.1.2.1) (hc : r.1.2.1.length ≤ c) :
    RetRY r w (.returned (.tuple #[.agg #[.int .i64 r.1.1, .slice a r.1.2.1.length c, .int .i64 r.1.2.2], .bool r.2])) (((W.setCell ⟨g, 0, none⟩ u).setCell ⟨g, 1, none⟩ v).setCell ⟨g, 2, none⟩ x) :=
  ⟨a, c, rfl, hc, (Own.set3 ho (by omega) u v x).mono (by omega), below3 P3 P4 hb hg u v x⟩


set_option maxRecDepth 100000 in
set_option maxHeartbeats 4000000 in
theorem sRDno (l : List UInt8) (hl : l.length ≤ 1048576) (hp : (112 : UInt8) ∉ l) (w : World) :
    Calls Try.prog 45 #[.string ⟨l.toArray⟩] w (RetRY ((0, [], 0), false) w) := by
  obtain ⟨W0, hW0⟩ : ∃ W0 : World, w.alloc (.cells #[.int .i64 0, .slice none 0 0, .int .i64 0] 26) = W0 := ⟨_, rfl⟩
  obtain ⟨p2, p3, p4⟩ := one_box w 26 #[.int .i64 0, .slice none 0 0, .int .i64 0]
  rw [hW0] at p2 p3 p4
  have HW0 := Lib.hid hW0
  have P3 := Lib.hid p3
  have P4 := Lib.hid p4
  have SR := Lib.hid (show ∀ W, Below W0.heap.size W0 W → _ from fun W hW => (p2.below hW).tri6)
  have hT : Below W0.heap.size W0 W0 := Below.refl _ _
  clear p2 p3 p4 hW0
  have HP := Lib.hid (show ∀ (k : Nat) (h : k < l.length), l[k].toNat ≠ 112 from fun k h e => hp (by
    have : l[k] = 112 := UInt8.toNat_inj.1 (by rw [e]; rfl)
    rw [← this]
    exact List.getElem_mem h))
  have HL := Lib.hid hl
  clear hp
  obtain ⟨n, hn⟩ : ∃ n, n = l.length := ⟨_, rfl⟩
  have hszl : ({ data := l.toArray } : ByteArray).size = n := by rw [hn]; rfl
  have hnI : (n : Int) ≤ 1048576 := by omega
  have HN := Lib.hid hn
  clear hl hn
  go_enter Try.func45, Try.ntmps45
  go_wp2
  rw [HW0.out]
  go_loop [4] (fun i => ∃ k : Nat, k ≤ n ∧ i = .int .i64 (k : Int)) (fun i => n - (intOf i).toNat)
  case atStart => exact ⟨0, Nat.zero_le _, rfl⟩
  case round =>
    obtain ⟨k, hk, rfl⟩ := hrel
    by_cases hkl : k < n
    · have hkl' : k < l.length := by rw [← HN.out]; exact hkl
      obtain ⟨d, hdd⟩ : ∃ d : Nat, d = l[k].toNat := ⟨_, rfl⟩
      have hgk : ∀ h : k < ({ data := l.toArray } : ByteArray).size, (({ data := l.toArray } : ByteArray)[k]'h).toNat = d := fun _ => by
        rw [hdd]; rfl
      have hne : ((d : Int) != 112) = true := by
        have := HP.out k hkl'
        rw [← hdd] at this
        simp; omega
      have hbd : d < 256 := by rw [hdd]; exact (l[k]).toNat_lt
      have hkI : (k : Int) < (n : Int) := by omega
      have HK := Lib.hid hkl
      clear hdd hkl' hkl hk
      go_wp2
      go_round
      case rel => exact ⟨k + 1, HK.out, by go_num⟩
      case measure => have := HK.out; simp [intOf]; omega
    · obtain rfl : k = n := by omega
      have hkd : decide ((k : Int) < (k : Int)) = false := decide_eq_false (by omega)
      obtain ⟨q1, q2, q3, q4, q5, q6⟩ := SR.out _ hT
      go_wp2
      refine bodyPost_ret (v := .tuple #[.agg #[.int .i64 0, .slice none 0 0, .int .i64 0], .bool false]) (by simp [results, Try.results45, go_sem, *]) rfl ?_
      exact ⟨none, 0, rfl, Nat.le_refl _, Own.nil, below3 P3.out P4.out hT (by omega) _ _ _⟩


set_option maxRecDepth 400000 in
set_option maxHeartbeats 8000000 in
theorem sRDyes (f b : List UInt8) (s1 : Int) (n1 : Nat) (o1 : Bool) (s2 : Int) (n2 : Nat) (o2 : Bool) (hl : f.length + (b.length + 1) ≤ 1048576) (hp : (112 : UInt8) ∉ f) (h1 : RdOf f s1 n1 o1) (h2 : RdOf b s2 n2 o2) (w : World) :
    Calls Try.prog 45 #[.string ⟨(f ++ 112 :: b).toArray⟩] w (RetRY (rdZ s1 n1 o1 s2 n2 o2) w) := by
  obtain ⟨W0, hW0⟩ : ∃ W0 : World, w.alloc (.cells #[.int .i64 0, .slice none 0 0, .int .i64 0] 26) = W0 := ⟨_, rfl⟩
  obtain ⟨p2, p3, p4⟩ := one_box w 26 #[.int .i64 0, .slice none 0 0, .int .i64 0]
  rw [hW0] at p2 p3 p4
  have HW0 := Lib.hid hW0
  have P3 := Lib.hid p3
  have P4 := Lib.hid p4
  have SR := Lib.hid (show ∀ W, Below W0.heap.size W0 W → _ from fun W hW => (p2.below hW).tri6)
  have SB := Lib.hid (show ∀ W, Below W0.heap.size W0 W → BoxAt W w.heap.size 26 #[.int .i64 0, .slice none 0 0, .int .i64 0] from fun W hW => p2.below hW)
  have hT : Below W0.heap.size W0 W0 := Below.refl _ _
  clear p2 p3 p4 hW0
  have HP1 := Lib.hid (show ∀ W, Below W0.heap.size W0 W → Calls Try.prog 94 #[.string ⟨f.toArray⟩] W fun e w' => ∃ a c, e = .returned (.tuple #[.agg #[.int .i64 s1, .slice a (lim n1).length c], .bool o1]) ∧ (lim n1).length ≤ c ∧ Own w' W.heap.size a (lim n1) ∧ Below W.heap.size W w' ∧ Below W0.heap.size W0 w' from
    fun W hW => (h1.call W).mono fun e w' ⟨a, c, he, hc, ho, hb⟩ => ⟨a, c, he, hc, ho, hb, hW.trans (hb.mono hW.size)⟩)
  have HP2 := Lib.hid (show ∀ W, Below W0.heap.size W0 W → Calls Try.prog 94 #[.string ⟨b.toArray⟩] W fun e w' => ∃ a c, e = .returned (.tuple #[.agg #[.int .i64 s2, .slice a (lim n2).length c], .bool o2]) ∧ (lim n2).length ≤ c ∧ Own w' W.heap.size a (lim n2) ∧ Below W.heap.size W w' ∧ Below W0.heap.size W0 w' from
    fun W hW => (h2.call W).mono fun e w' ⟨a, c, he, hc, ho, hb⟩ => ⟨a, c, he, hc, ho, hb, hW.trans (hb.mono hW.size)⟩)
  have g1 := h1.sg
  have g2 := h2.sg
  have l1 := h1.len
  have l2 := h2.len
  have HIS := Lib.hid (show ∀ (a : Option Addr) (c : Nat) W, Ints W W.heap.size a (lim n1) → Calls Try.prog 95 #[.agg #[.int .i64 s1, .slice a (lim n1).length c]] W (RetB (.bool (whB s1 (lim n1))) W) from
    fun a c W ho => sIs s1 a (lim n1) c W W.heap.size (Nat.le_refl _) (by omega) ho)
  have HY := Lib.hid (show ∀ (a : Option Addr) (c : Nat) (x : Int) W, Ints W W.heap.size a (lim n1) → Calls Try.prog 96 #[.agg #[.int .i64 s1, .slice a (lim n1).length c, .int .i64 x]] W (RetB (.bool (dyB s1 (lim n1) x)) W) from
    fun a c x W ho => sDy s1 a (lim n1) c x W W.heap.size (Nat.le_refl _) (by omega) ho)
  have HW := Lib.hid (show whB s1 (lim n1) = decide ((lim n1).length ≤ 200) from by
    by_cases k : (lim n1).length ≤ 200
    · rw [whB_yes (isWh_lim k g1), decide_eq_true k]
    · rw [whB_no (isWh_lim_no (by omega)), decide_eq_false k])
  have HS2 := Lib.hid g2
  have e1 := ext_take f (112 :: b)
  have e2 := ext_drop f b 112 (f.length + 1) (f.length + (b.length + 1)) rfl rfl
  have HP := Lib.hid (show ∀ (k : Nat) (h : k < f.length), ∀ h' : k < (f ++ 112 :: b).length, ((f ++ 112 :: b)[k]'h').toNat ≠ 112 from fun k h h' e => hp (by
    rw [List.getElem_append_left h] at e
    have : f[k] = 112 := UInt8.toNat_inj.1 (by rw [e]; rfl)
    rw [← this]
    exact List.getElem_mem h))
  have HQ := Lib.hid (show ∀ h' : f.length < (f ++ 112 :: b).length, ((f ++ 112 :: b)[f.length]'h').toNat = 112 from fun h' => by
    rw [List.getElem_append_right (Nat.le_refl _)]
    simp)
  clear hp h1 h2 g1 g2
  obtain ⟨n, hn⟩ : ∃ n, n = f.length := ⟨_, rfl⟩
  obtain ⟨m, hm⟩ : ∃ m, m = b.length := ⟨_, rfl⟩
  obtain ⟨L, hL⟩ : ∃ L, L = f ++ 112 :: b := ⟨_, rfl⟩
  have hll : L.length = n + (m + 1) := by rw [hL, hn, hm]; simp
  have hszl : ({ data := L.toArray } : ByteArray).size = n + (m + 1) := by rw [← hll]; rfl
  have HLL := Lib.hid hll
  rw [← hL] at e1 e2 HP HQ ⊢
  rw [← hn] at e1 e2 hl HP HQ
  rw [← hm] at e2 hl
  have hnI : (n : Int) + ((m : Int) + 1) ≤ 1048576 := by omega
  clear hL hn hm hll hl l1 l2
  cases o1
  · rw [rdZ_no (fun h => by cases h.1)]
    go_enter Try.func45, Try.ntmps45
    go_wp2_with fail
    rw [HW0.out]
    go_loop [4] (fun i => ∃ k : Nat, k ≤ n ∧ i = .int .i64 (k : Int)) (fun i => n - (intOf i).toNat)
    case atStart => exact ⟨0, Nat.zero_le _, rfl⟩
    case round =>
      obtain ⟨k, hk, rfl⟩ := hrel
      by_cases hkl : k < n
      · have hkl' : k < L.length := by rw [HLL.out]; omega
        obtain ⟨d, hdd⟩ : ∃ d : Nat, d = L[k].toNat := ⟨_, rfl⟩
        have hgk : ∀ h : k < ({ data := L.toArray } : ByteArray).size, (({ data := L.toArray } : ByteArray)[k]'h).toNat = d := fun _ => by
          rw [hdd]; rfl
        have hne : ((d : Int) != 112) = true := by
          have := HP.out k hkl hkl'
          rw [← hdd] at this
          simp; omega
        have hbd : d < 256 := by rw [hdd]; exact (L[k]).toNat_lt
        have hkI : (k : Int) < (n : Int) + ((m : Int) + 1) := by omega
        have HK := Lib.hid hkl
        clear hdd hkl' hkl hk
        go_wp2_with fail
        go_round
        case rel => exact ⟨k + 1, HK.out, by go_num⟩
        case measure => have := HK.out; simp [intOf]; omega
      · obtain rfl : k = n := by omega
        have hgk : ∀ h : k < ({ data := L.toArray } : ByteArray).size, (({ data := L.toArray } : ByteArray)[k]'h).toNat = 112 := fun h => HQ.out (by rw [HLL.out]; omega)
        have hkI : (k : Int) < (k : Int) + ((m : Int) + 1) := by omega
        have hkE : ((k : Int) == (k : Int) + ((m : Int) + 1)) = false := beq_eq_false_iff_ne.2 (by omega)
        clear hk hkl
        go_wp2_with fail
        refine (HP1.out _ hT).mono ?_
        rintro e w2 ⟨a1, f1, rfl, hc1, ho1, hbb2, hb2⟩
        have hb2a : Below W0.heap.size W0 (w2.alloc (.cells #[.int .i64 s1, .slice a1 (lim n1).length f1] 24)) := hb2.alloc hb2.size _
        have bx1 := BoxAt.new w2 24 #[.int .i64 s1, .slice a1 (lim n1).length f1]
        have o1a := ho1.alloc (.cells #[.int .i64 s1, .slice a1 (lim n1).length f1] 24)
        go_wp2_with fail
        refine (HP2.out _ hb2a).mono ?_
        rintro e w3 ⟨a2, f2, rfl, hc2, ho2, hbb3, hb3⟩
        have hb3a : Below W0.heap.size W0 (w3.alloc (.cells #[.int .i64 s2, .slice a2 (lim n2).length f2] 24)) := hb3.alloc hb3.size _
        have hsz3 : w.heap.size < w3.heap.size := by have := hb3.size; have := P4.out; omega
        have hsz23 : w2.heap.size < w3.heap.size := by have := hbb3.size; simp at this; omega
        have bx1b := (bx1.below hbb3).alloc (.cells #[.int .i64 s2, .slice a2 (lim n2).length f2] 24)
        have bxe := BoxAt.new w3 24 #[.int .i64 s2, .slice a2 (lim n2).length f2]
        have o1b := (o1a.below hbb3).alloc (.cells #[.int .i64 s2, .slice a2 (lim n2).length f2] 24)
        have o2b := ho2.alloc (.cells #[.int .i64 s2, .slice a2 (lim n2).length f2] 24)
        have HSZ2 := Lib.hid hb2.size
        have bx13 := bx1.below hbb3
        obtain ⟨m1, m2, m3, m4⟩ := bx13.two
        clear bx1 o1a ho1 bx13
        obtain ⟨q1, q2, q3, q4, q5, q6⟩ := SR.out _ hb3
        go_wp2_with fail
        refine bodyPost_ret (v := .tuple #[.agg #[.int .i64 0, .slice none 0 0, .int .i64 0], .bool false]) (by simp [results, Try.results45, go_sem, *]) rfl ?_
        exact (retRY_no (g := w.heap.size) P3.out P4.out hb3 (by omega) _ _ _).alloc _
  · cases o2
    · rw [rdZ_no (fun h => by cases h.2.1)]
      go_enter Try.func45, Try.ntmps45
      go_wp2_with fail
      rw [HW0.out]
      go_loop [4] (fun i => ∃ k : Nat, k ≤ n ∧ i = .int .i64 (k : Int)) (fun i => n - (intOf i).toNat)
      case atStart => exact ⟨0, Nat.zero_le _, rfl⟩
      case round =>
        obtain ⟨k, hk, rfl⟩ := hrel
        by_cases hkl : k < n
        · have hkl' : k < L.length := by rw [HLL.out]; omega
          obtain ⟨d, hdd⟩ : ∃ d : Nat, d = L[k].toNat := ⟨_, rfl⟩
          have hgk : ∀ h : k < ({ data := L.toArray } : ByteArray).size, (({ data := L.toArray } : ByteArray)[k]'h).toNat = d := fun _ => by
            rw [hdd]; rfl
          have hne : ((d : Int) != 112) = true := by
            have := HP.out k hkl hkl'
            rw [← hdd] at this
            simp; omega
          have hbd : d < 256 := by rw [hdd]; exact (L[k]).toNat_lt
          have hkI : (k : Int) < (n : Int) + ((m : Int) + 1) := by omega
          have HK := Lib.hid hkl
          clear hdd hkl' hkl hk
          go_wp2_with fail
          go_round
          case rel => exact ⟨k + 1, HK.out, by go_num⟩
          case measure => have := HK.out; simp [intOf]; omega
        · obtain rfl : k = n := by omega
          have hgk : ∀ h : k < ({ data := L.toArray } : ByteArray).size, (({ data := L.toArray } : ByteArray)[k]'h).toNat = 112 := fun h => HQ.out (by rw [HLL.out]; omega)
          have hkI : (k : Int) < (k : Int) + ((m : Int) + 1) := by omega
          have hkE : ((k : Int) == (k : Int) + ((m : Int) + 1)) = false := beq_eq_false_iff_ne.2 (by omega)
          clear hk hkl
          go_wp2_with fail
          refine (HP1.out _ hT).mono ?_
          rintro e w2 ⟨a1, f1, rfl, hc1, ho1, hbb2, hb2⟩
          have hb2a : Below W0.heap.size W0 (w2.alloc (.cells #[.int .i64 s1, .slice a1 (lim n1).length f1] 24)) := hb2.alloc hb2.size _
          have bx1 := BoxAt.new w2 24 #[.int .i64 s1, .slice a1 (lim n1).length f1]
          have o1a := ho1.alloc (.cells #[.int .i64 s1, .slice a1 (lim n1).length f1] 24)
          go_wp2_with fail
          refine (HP2.out _ hb2a).mono ?_
          rintro e w3 ⟨a2, f2, rfl, hc2, ho2, hbb3, hb3⟩
          have hb3a : Below W0.heap.size W0 (w3.alloc (.cells #[.int .i64 s2, .slice a2 (lim n2).length f2] 24)) := hb3.alloc hb3.size _
          have hsz3 : w.heap.size < w3.heap.size := by have := hb3.size; have := P4.out; omega
          have hsz23 : w2.heap.size < w3.heap.size := by have := hbb3.size; simp at this; omega
          have bx1b := (bx1.below hbb3).alloc (.cells #[.int .i64 s2, .slice a2 (lim n2).length f2] 24)
          have bxe := BoxAt.new w3 24 #[.int .i64 s2, .slice a2 (lim n2).length f2]
          have o1b := (o1a.below hbb3).alloc (.cells #[.int .i64 s2, .slice a2 (lim n2).length f2] 24)
          have o2b := ho2.alloc (.cells #[.int .i64 s2, .slice a2 (lim n2).length f2] 24)
          have HSZ2 := Lib.hid hb2.size
          have bx13 := bx1.below hbb3
          obtain ⟨m1, m2, m3, m4⟩ := bx13.two
          clear bx1 o1a ho1 bx13
          obtain ⟨q1, q2, q3, q4, q5, q6⟩ := SR.out _ hb3
          go_wp2_with fail
          refine bodyPost_ret (v := .tuple #[.agg #[.int .i64 0, .slice none 0 0, .int .i64 0], .bool false]) (by simp [results, Try.results45, go_sem, *]) rfl ?_
          exact (retRY_no (g := w.heap.size) P3.out P4.out hb3 (by omega) _ _ _).alloc _
    · by_cases k1 : (lim n1).length ≤ 200
      rotate_left
      · rw [rdZ_no (fun h => k1 h.2.2.1)]
        rw [HW.out, decide_eq_false k1] at HIS
        clear k1
        go_enter Try.func45, Try.ntmps45
        go_wp2_with fail
        rw [HW0.out]
        go_loop [4] (fun i => ∃ k : Nat, k ≤ n ∧ i = .int .i64 (k : Int)) (fun i => n - (intOf i).toNat)
        case atStart => exact ⟨0, Nat.zero_le _, rfl⟩
        case round =>
          obtain ⟨k, hk, rfl⟩ := hrel
          by_cases hkl : k < n
          · have hkl' : k < L.length := by rw [HLL.out]; omega
            obtain ⟨d, hdd⟩ : ∃ d : Nat, d = L[k].toNat := ⟨_, rfl⟩
            have hgk : ∀ h : k < ({ data := L.toArray } : ByteArray).size, (({ data := L.toArray } : ByteArray)[k]'h).toNat = d := fun _ => by
              rw [hdd]; rfl
            have hne : ((d : Int) != 112) = true := by
              have := HP.out k hkl hkl'
              rw [← hdd] at this
              simp; omega
            have hbd : d < 256 := by rw [hdd]; exact (L[k]).toNat_lt
            have hkI : (k : Int) < (n : Int) + ((m : Int) + 1) := by omega
            have HK := Lib.hid hkl
            clear hdd hkl' hkl hk
            go_wp2_with fail
            go_round
            case rel => exact ⟨k + 1, HK.out, by go_num⟩
            case measure => have := HK.out; simp [intOf]; omega
          · obtain rfl : k = n := by omega
            have hgk : ∀ h : k < ({ data := L.toArray } : ByteArray).size, (({ data := L.toArray } : ByteArray)[k]'h).toNat = 112 := fun h => HQ.out (by rw [HLL.out]; omega)
            have hkI : (k : Int) < (k : Int) + ((m : Int) + 1) := by omega
            have hkE : ((k : Int) == (k : Int) + ((m : Int) + 1)) = false := beq_eq_false_iff_ne.2 (by omega)
            clear hk hkl
            go_wp2_with fail
            refine (HP1.out _ hT).mono ?_
            rintro e w2 ⟨a1, f1, rfl, hc1, ho1, hbb2, hb2⟩
            have hb2a : Below W0.heap.size W0 (w2.alloc (.cells #[.int .i64 s1, .slice a1 (lim n1).length f1] 24)) := hb2.alloc hb2.size _
            have bx1 := BoxAt.new w2 24 #[.int .i64 s1, .slice a1 (lim n1).length f1]
            have o1a := ho1.alloc (.cells #[.int .i64 s1, .slice a1 (lim n1).length f1] 24)
            go_wp2_with fail
            refine (HP2.out _ hb2a).mono ?_
            rintro e w3 ⟨a2, f2, rfl, hc2, ho2, hbb3, hb3⟩
            have hb3a : Below W0.heap.size W0 (w3.alloc (.cells #[.int .i64 s2, .slice a2 (lim n2).length f2] 24)) := hb3.alloc hb3.size _
            have hsz3 : w.heap.size < w3.heap.size := by have := hb3.size; have := P4.out; omega
            have hsz23 : w2.heap.size < w3.heap.size := by have := hbb3.size; simp at this; omega
            have bx1b := (bx1.below hbb3).alloc (.cells #[.int .i64 s2, .slice a2 (lim n2).length f2] 24)
            have bxe := BoxAt.new w3 24 #[.int .i64 s2, .slice a2 (lim n2).length f2]
            have o1b := (o1a.below hbb3).alloc (.cells #[.int .i64 s2, .slice a2 (lim n2).length f2] 24)
            have o2b := ho2.alloc (.cells #[.int .i64 s2, .slice a2 (lim n2).length f2] 24)
            have HSZ2 := Lib.hid hb2.size
            have bx13 := bx1.below hbb3
            obtain ⟨m1, m2, m3, m4⟩ := bx13.two
            clear bx1 o1a ho1 bx13
            go_wp2_with fail
            refine (HIS.out _ _ _ o1b.ints).mono ?_
            rintro e w4 ⟨rfl, hbb4⟩
            have hb4 := hb3a.trans (hbb4.mono hb3a.size)
            have hsz4 : w.heap.size < w4.heap.size := by have := hb4.size; have := P4.out; omega
            have hsz34 : w3.heap.size < w4.heap.size := by have := hbb4.size; simp at this; omega
            have hsz24 : w2.heap.size < w4.heap.size := by omega
            have bxe4 := bxe.below hbb4
            have bx14 := bx1b.below hbb4
            have o14 := o1b.below hbb4
            have o24 := o2b.below hbb4
            clear bxe bx1b o1b o2b m1 m2 m3 m4
            obtain ⟨m1, m2, m3, m4⟩ := bx14.two
            obtain ⟨x1, x2, x3, x4⟩ := bxe4.two
            obtain ⟨q1, q2, q3, q4, q5, q6⟩ := SR.out _ hb4
            go_wp2_with fail
            refine bodyPost_ret (v := .tuple #[.agg #[.int .i64 0, .slice none 0 0, .int .i64 0], .bool false]) (by simp [results, Try.results45, go_sem, *]) rfl ?_
            exact retRY_no (g := w.heap.size) P3.out P4.out hb4 (by omega) _ _ _
      · by_cases k2 : (lim n2).length ≤ 1
        rotate_left
        · rw [rdZ_no (fun h => k2 h.2.2.2)]
          rw [HW.out, decide_eq_true k1] at HIS
          have hq1 : decide ((1 : Int) < ((lim n2).length : Int)) = true := decide_eq_true (by omega)
          clear k1 k2
          go_enter Try.func45, Try.ntmps45
          go_wp2_with fail
          rw [HW0.out]
          go_loop [4] (fun i => ∃ k : Nat, k ≤ n ∧ i = .int .i64 (k : Int)) (fun i => n - (intOf i).toNat)
          case atStart => exact ⟨0, Nat.zero_le _, rfl⟩
          case round =>
            obtain ⟨k, hk, rfl⟩ := hrel
            by_cases hkl : k < n
            · have hkl' : k < L.length := by rw [HLL.out]; omega
              obtain ⟨d, hdd⟩ : ∃ d : Nat, d = L[k].toNat := ⟨_, rfl⟩
              have hgk : ∀ h : k < ({ data := L.toArray } : ByteArray).size, (({ data := L.toArray } : ByteArray)[k]'h).toNat = d := fun _ => by
                rw [hdd]; rfl
              have hne : ((d : Int) != 112) = true := by
                have := HP.out k hkl hkl'
                rw [← hdd] at this
                simp; omega
              have hbd : d < 256 := by rw [hdd]; exact (L[k]).toNat_lt
              have hkI : (k : Int) < (n : Int) + ((m : Int) + 1) := by omega
              have HK := Lib.hid hkl
              clear hdd hkl' hkl hk
              go_wp2_with fail
              go_round
              case rel => exact ⟨k + 1, HK.out, by go_num⟩
              case measure => have := HK.out; simp [intOf]; omega
            · obtain rfl : k = n := by omega
              have hgk : ∀ h : k < ({ data := L.toArray } : ByteArray).size, (({ data := L.toArray } : ByteArray)[k]'h).toNat = 112 := fun h => HQ.out (by rw [HLL.out]; omega)
              have hkI : (k : Int) < (k : Int) + ((m : Int) + 1) := by omega
              have hkE : ((k : Int) == (k : Int) + ((m : Int) + 1)) = false := beq_eq_false_iff_ne.2 (by omega)
              clear hk hkl
              go_wp2_with fail
              refine (HP1.out _ hT).mono ?_
              rintro e w2 ⟨a1, f1, rfl, hc1, ho1, hbb2, hb2⟩
              have hb2a : Below W0.heap.size W0 (w2.alloc (.cells #[.int .i64 s1, .slice a1 (lim n1).length f1] 24)) := hb2.alloc hb2.size _
              have bx1 := BoxAt.new w2 24 #[.int .i64 s1, .slice a1 (lim n1).length f1]
              have o1a := ho1.alloc (.cells #[.int .i64 s1, .slice a1 (lim n1).length f1] 24)
              go_wp2_with fail
              refine (HP2.out _ hb2a).mono ?_
              rintro e w3 ⟨a2, f2, rfl, hc2, ho2, hbb3, hb3⟩
              have hb3a : Below W0.heap.size W0 (w3.alloc (.cells #[.int .i64 s2, .slice a2 (lim n2).length f2] 24)) := hb3.alloc hb3.size _
              have hsz3 : w.heap.size < w3.heap.size := by have := hb3.size; have := P4.out; omega
              have hsz23 : w2.heap.size < w3.heap.size := by have := hbb3.size; simp at this; omega
              have bx1b := (bx1.below hbb3).alloc (.cells #[.int .i64 s2, .slice a2 (lim n2).length f2] 24)
              have bxe := BoxAt.new w3 24 #[.int .i64 s2, .slice a2 (lim n2).length f2]
              have o1b := (o1a.below hbb3).alloc (.cells #[.int .i64 s2, .slice a2 (lim n2).length f2] 24)
              have o2b := ho2.alloc (.cells #[.int .i64 s2, .slice a2 (lim n2).length f2] 24)
              have HSZ2 := Lib.hid hb2.size
              have bx13 := bx1.below hbb3
              obtain ⟨m1, m2, m3, m4⟩ := bx13.two
              clear bx1 o1a ho1 bx13
              go_wp2_with fail
              refine (HIS.out _ _ _ o1b.ints).mono ?_
              rintro e w4 ⟨rfl, hbb4⟩
              have hb4 := hb3a.trans (hbb4.mono hb3a.size)
              have hsz4 : w.heap.size < w4.heap.size := by have := hb4.size; have := P4.out; omega
              have hsz34 : w3.heap.size < w4.heap.size := by have := hbb4.size; simp at this; omega
              have hsz24 : w2.heap.size < w4.heap.size := by omega
              have bxe4 := bxe.below hbb4
              have bx14 := bx1b.below hbb4
              have o14 := o1b.below hbb4
              have o24 := o2b.below hbb4
              clear bxe bx1b o1b o2b m1 m2 m3 m4
              obtain ⟨m1, m2, m3, m4⟩ := bx14.two
              obtain ⟨x1, x2, x3, x4⟩ := bxe4.two
              obtain ⟨q1, q2, q3, q4, q5, q6⟩ := SR.out _ hb4
              go_wp2_with fail
              refine bodyPost_ret (v := .tuple #[.agg #[.int .i64 0, .slice none 0 0, .int .i64 0], .bool false]) (by simp [results, Try.results45, go_sem, *]) rfl ?_
              exact retRY_no (g := w.heap.size) P3.out P4.out hb4 (by omega) _ _ _
        · rw [rdZ_yes ⟨rfl, rfl, k1, k2⟩]
          obtain ⟨y, hy⟩ : ∃ y, y = s2 * (n2 : Int) := ⟨_, rfl⟩
          rw [← hy]
          obtain ⟨bo, hbo⟩ : ∃ bo, bo = dyB s1 (lim n1) y := ⟨_, rfl⟩
          rw [← hbo]
          have HBO := Lib.hid hbo
          clear hbo
          have hq1 : decide ((1 : Int) < ((lim n2).length : Int)) = false := decide_eq_false (by omega)
          rw [HW.out, decide_eq_true k1] at HIS
          by_cases k3 : (lim n2).length = 1
          · have hq2 : (((lim n2).length : Int) == 1) = true := by simp [k3]
            have hq3 : (0 : Int) < ((lim n2).length : Int) := by omega
            have HK3 := Lib.hid k3
            have hw1 : wrap64 (s2 * (n2 : Int)) = y := by
              have := lim_le_one k2
              rw [hy]
              rcases HS2.out.three with h | h | h <;> rw [h] <;> unfold wrap64 <;> omega
            have hw2 : IntKind.i64.wrap (s2 * (n2 : Int)) = y := by
              have := lim_le_one k2
              rw [hy, IntKind.wrap_i64]
              rcases HS2.out.three with h | h | h <;> rw [h] <;> omega
            clear k1 k2 k3 hy
            go_enter Try.func45, Try.ntmps45
            go_wp2_with fail
            rw [HW0.out]
            go_loop [4] (fun i => ∃ k : Nat, k ≤ n ∧ i = .int .i64 (k : Int)) (fun i => n - (intOf i).toNat)
            case atStart => exact ⟨0, Nat.zero_le _, rfl⟩
            case round =>
              obtain ⟨k, hk, rfl⟩ := hrel
              by_cases hkl : k < n
              · have hkl' : k < L.length := by rw [HLL.out]; omega
                obtain ⟨d, hdd⟩ : ∃ d : Nat, d = L[k].toNat := ⟨_, rfl⟩
                have hgk : ∀ h : k < ({ data := L.toArray } : ByteArray).size, (({ data := L.toArray } : ByteArray)[k]'h).toNat = d := fun _ => by
                  rw [hdd]; rfl
                have hne : ((d : Int) != 112) = true := by
                  have := HP.out k hkl hkl'
                  rw [← hdd] at this
                  simp; omega
                have hbd : d < 256 := by rw [hdd]; exact (L[k]).toNat_lt
                have hkI : (k : Int) < (n : Int) + ((m : Int) + 1) := by omega
                have HK := Lib.hid hkl
                clear hdd hkl' hkl hk
                go_wp2_with fail
                go_round
                case rel => exact ⟨k + 1, HK.out, by go_num⟩
                case measure => have := HK.out; simp [intOf]; omega
              · obtain rfl : k = n := by omega
                have hgk : ∀ h : k < ({ data := L.toArray } : ByteArray).size, (({ data := L.toArray } : ByteArray)[k]'h).toNat = 112 := fun h => HQ.out (by rw [HLL.out]; omega)
                have hkI : (k : Int) < (k : Int) + ((m : Int) + 1) := by omega
                have hkE : ((k : Int) == (k : Int) + ((m : Int) + 1)) = false := beq_eq_false_iff_ne.2 (by omega)
                clear hk hkl
                go_wp2_with fail
                refine (HP1.out _ hT).mono ?_
                rintro e w2 ⟨a1, f1, rfl, hc1, ho1, hbb2, hb2⟩
                have hb2a : Below W0.heap.size W0 (w2.alloc (.cells #[.int .i64 s1, .slice a1 (lim n1).length f1] 24)) := hb2.alloc hb2.size _
                have bx1 := BoxAt.new w2 24 #[.int .i64 s1, .slice a1 (lim n1).length f1]
                have o1a := ho1.alloc (.cells #[.int .i64 s1, .slice a1 (lim n1).length f1] 24)
                go_wp2_with fail
                refine (HP2.out _ hb2a).mono ?_
                rintro e w3 ⟨a2, f2, rfl, hc2, ho2, hbb3, hb3⟩
                have hb3a : Below W0.heap.size W0 (w3.alloc (.cells #[.int .i64 s2, .slice a2 (lim n2).length f2] 24)) := hb3.alloc hb3.size _
                have hsz3 : w.heap.size < w3.heap.size := by have := hb3.size; have := P4.out; omega
                have hsz23 : w2.heap.size < w3.heap.size := by have := hbb3.size; simp at this; omega
                have bx1b := (bx1.below hbb3).alloc (.cells #[.int .i64 s2, .slice a2 (lim n2).length f2] 24)
                have bxe := BoxAt.new w3 24 #[.int .i64 s2, .slice a2 (lim n2).length f2]
                have o1b := (o1a.below hbb3).alloc (.cells #[.int .i64 s2, .slice a2 (lim n2).length f2] 24)
                have o2b := ho2.alloc (.cells #[.int .i64 s2, .slice a2 (lim n2).length f2] 24)
                have HSZ2 := Lib.hid hb2.size
                have bx13 := bx1.below hbb3
                obtain ⟨m1, m2, m3, m4⟩ := bx13.two
                clear bx1 o1a ho1 bx13
                go_wp2_with fail
                refine (HIS.out _ _ _ o1b.ints).mono ?_
                rintro e w4 ⟨rfl, hbb4⟩
                have hb4 := hb3a.trans (hbb4.mono hb3a.size)
                have hsz4 : w.heap.size < w4.heap.size := by have := hb4.size; have := P4.out; omega
                have hsz34 : w3.heap.size < w4.heap.size := by have := hbb4.size; simp at this; omega
                have hsz24 : w2.heap.size < w4.heap.size := by omega
                have bxe4 := bxe.below hbb4
                have bx14 := bx1b.below hbb4
                have o14 := o1b.below hbb4
                have o24 := o2b.below hbb4
                clear bxe bx1b o1b o2b m1 m2 m3 m4
                obtain ⟨m1, m2, m3, m4⟩ := bx14.two
                obtain ⟨x1, x2, x3, x4⟩ := bxe4.two
                have hcl : ∃ bk off, a2 = some ⟨bk, off, none⟩ ∧ bk < w4.heap.size ∧ w4.cell? ⟨bk, off, none⟩ = some (.int .i64 (n2 : Int)) := by
                  obtain ⟨bk, off, h1, h2, h3⟩ := o24.ints 0 (by rw [HK3.out]; omega)
                  refine ⟨bk, off, h1, h2, ?_⟩
                  have h4 := lim_single HK3.out
                  simp only [h4] at h3
                  simpa using h3
                obtain ⟨bk, off, rfl, hbk, hcl⟩ := hcl
                go_wp2_with fail
                go_region
                go_wp2_with fail
                obtain ⟨w5, hw5⟩ : ∃ w5 : World, w4.alloc (.cells #[.int .i64 s1, .slice a1 (lim n1).length f1, .int .i64 y] 26) = w5 := ⟨_, rfl⟩
                have o15 : Own w5 W0.heap.size a1 (lim n1) := by rw [← hw5]; exact o14.alloc _
                have bx5 : BoxAt w5 w4.heap.size 26 #[.int .i64 s1, .slice a1 (lim n1).length f1, .int .i64 y] := by rw [← hw5]; exact BoxAt.new _ _ _
                have hb5 : Below W0.heap.size W0 w5 := by rw [← hw5]; exact hb4.alloc hb4.size _
                rw [hw5]
                clear hw5
                have U5 := Lib.hid hb5
                have hne : w4.heap.size ≠ w.heap.size := by omega
                have S5 := Lib.hid (show ∀ W, Below w5.heap.size w5 W → (W.cell? ⟨w4.heap.size, 0, none⟩ = some (.int .i64 s1) ∧ W.cell? ⟨w4.heap.size, 1, none⟩ = some (.slice a1 (lim n1).length f1) ∧ W.cell? ⟨w4.heap.size, 2, none⟩ = some (.int .i64 y)) from fun W hW => (bx5.below hW).tri)
                have T5 := Lib.hid (show ∀ W u0 u1 u2, Below w5.heap.size w5 W → (fun W : World => W.cell? ⟨w4.heap.size, 0, none⟩ = some (.int .i64 s1) ∧ W.cell? ⟨w4.heap.size, 1, none⟩ = some (.slice a1 (lim n1).length f1) ∧ W.cell? ⟨w4.heap.size, 2, none⟩ = some (.int .i64 y)) (((W.setCell ⟨w.heap.size, 0, none⟩ u0).setCell ⟨w.heap.size, 1, none⟩ u1).setCell ⟨w.heap.size, 2, none⟩ u2) from fun W u0 u1 u2 hW =>
                  ((((bx5.below hW).far (p := ⟨w.heap.size, 0, none⟩) hne u0).far (p := ⟨w.heap.size, 1, none⟩) hne u1).far (p := ⟨w.heap.size, 2, none⟩) hne u2).tri)
                have HYC := Lib.hid (show ∀ W, Below w5.heap.size w5 W → Calls Try.prog 96 #[.agg #[.int .i64 s1, .slice a1 (lim n1).length f1, .int .i64 y]] W fun e w' => e = .returned (.bool (dyB s1 (lim n1) y)) ∧ Below w5.heap.size w5 w' from
                  fun W hW => (HY.out a1 f1 y W (o15.below hW).ints).mono fun e w' ⟨he, hb⟩ => ⟨he, hW.trans (hb.mono hW.size)⟩)
                have hT5 : Below w5.heap.size w5 w5 := Below.refl _ _
                have hT5d := hT5.drew
                have hT5dd := hT5d.drew
                have O5 := Lib.hid o15
                have HC1 := Lib.hid hc1
                rw [← HBO.out] at HYC
                clear o15 bx5 hb5 o14 o24 bxe4 bx14 hb4 hbb4 hb3 hb3a hb2 hb2a hbb2 hbb3 m1 m2 m3 m4 x1 x2 x3 x4 ho2 hc1 hc2 hne HIS HP1 HP2 HY
                go_region_held3 (fun W => W.cell? ⟨w4.heap.size, 0, none⟩ = some (.int .i64 s1) ∧ W.cell? ⟨w4.heap.size, 1, none⟩ = some (.slice a1 (lim n1).length f1) ∧ W.cell? ⟨w4.heap.size, 2, none⟩ = some (.int .i64 y))
                  (with_reducible first | exact S5.out _ (by assumption) | exact T5.out _ _ _ _ (by assumption))
                  (first
                  | (go_at_call 96; with_reducible refine (HYC.out _ (by assumption)).mono ?_; rintro e w6 ⟨rfl, hb6⟩; have hb9 := U5.out.trans (hb6.mono U5.out.size); obtain ⟨z1, z2, z3, z4, z5, z6⟩ := SR.out _ hb9))
                all_goals
                  have O6 := Lib.hid (O5.out.below hb6)
                  go_wp2_with fail
                  refine bodyPost_ret (v := .tuple #[.agg #[.int .i64 s1, .slice a1 (lim n1).length f1, .int .i64 y], .bool bo]) (by simp [results, Try.results45, go_sem, *]) rfl ?_
                  exact retRY_end (g := w.heap.size) (r := ((s1, lim n1, y), bo)) P3.out P4.out hb9 (by omega) (by have := P4.out; omega) _ _ _ (O6.out.mono (Nat.le_refl _)) HC1.out
          · have k4 : (lim n2).length = 0 := by omega
            have hq2 : (((lim n2).length : Int) == 1) = false := by simp [k4]
            have hn0 : n2 = 0 := by
              rcases Nat.eq_zero_or_pos n2 with h | h
              · exact h
              · exact absurd (List.eq_nil_of_length_eq_zero k4) (fun h9 => by rw [lim_nil_iff] at h9; omega)
            obtain rfl : y = 0 := by rw [hy, hn0]; simp
            clear k1 k2 k3 k4 hy hn0
            go_enter Try.func45, Try.ntmps45
            go_wp2_with fail
            rw [HW0.out]
            go_loop [4] (fun i => ∃ k : Nat, k ≤ n ∧ i = .int .i64 (k : Int)) (fun i => n - (intOf i).toNat)
            case atStart => exact ⟨0, Nat.zero_le _, rfl⟩
            case round =>
              obtain ⟨k, hk, rfl⟩ := hrel
              by_cases hkl : k < n
              · have hkl' : k < L.length := by rw [HLL.out]; omega
                obtain ⟨d, hdd⟩ : ∃ d : Nat, d = L[k].toNat := ⟨_, rfl⟩
                have hgk : ∀ h : k < ({ data := L.toArray } : ByteArray).size, (({ data := L.toArray } : ByteArray)[k]'h).toNat = d := fun _ => by
                  rw [hdd]; rfl
                have hne : ((d : Int) != 112) = true := by
                  have := HP.out k hkl hkl'
                  rw [← hdd] at this
                  simp; omega
                have hbd : d < 256 := by rw [hdd]; exact (L[k]).toNat_lt
                have hkI : (k : Int) < (n : Int) + ((m : Int) + 1) := by omega
                have HK := Lib.hid hkl
                clear hdd hkl' hkl hk
                go_wp2_with fail
                go_round
                case rel => exact ⟨k + 1, HK.out, by go_num⟩
                case measure => have := HK.out; simp [intOf]; omega
              · obtain rfl : k = n := by omega
                have hgk : ∀ h : k < ({ data := L.toArray } : ByteArray).size, (({ data := L.toArray } : ByteArray)[k]'h).toNat = 112 := fun h => HQ.out (by rw [HLL.out]; omega)
                have hkI : (k : Int) < (k : Int) + ((m : Int) + 1) := by omega
                have hkE : ((k : Int) == (k : Int) + ((m : Int) + 1)) = false := beq_eq_false_iff_ne.2 (by omega)
                clear hk hkl
                go_wp2_with fail
                refine (HP1.out _ hT).mono ?_
                rintro e w2 ⟨a1, f1, rfl, hc1, ho1, hbb2, hb2⟩
                have hb2a : Below W0.heap.size W0 (w2.alloc (.cells #[.int .i64 s1, .slice a1 (lim n1).length f1] 24)) := hb2.alloc hb2.size _
                have bx1 := BoxAt.new w2 24 #[.int .i64 s1, .slice a1 (lim n1).length f1]
                have o1a := ho1.alloc (.cells #[.int .i64 s1, .slice a1 (lim n1).length f1] 24)
                go_wp2_with fail
                refine (HP2.out _ hb2a).mono ?_
                rintro e w3 ⟨a2, f2, rfl, hc2, ho2, hbb3, hb3⟩
                have hb3a : Below W0.heap.size W0 (w3.alloc (.cells #[.int .i64 s2, .slice a2 (lim n2).length f2] 24)) := hb3.alloc hb3.size _
                have hsz3 : w.heap.size < w3.heap.size := by have := hb3.size; have := P4.out; omega
                have hsz23 : w2.heap.size < w3.heap.size := by have := hbb3.size; simp at this; omega
                have bx1b := (bx1.below hbb3).alloc (.cells #[.int .i64 s2, .slice a2 (lim n2).length f2] 24)
                have bxe := BoxAt.new w3 24 #[.int .i64 s2, .slice a2 (lim n2).length f2]
                have o1b := (o1a.below hbb3).alloc (.cells #[.int .i64 s2, .slice a2 (lim n2).length f2] 24)
                have o2b := ho2.alloc (.cells #[.int .i64 s2, .slice a2 (lim n2).length f2] 24)
                have HSZ2 := Lib.hid hb2.size
                have bx13 := bx1.below hbb3
                obtain ⟨m1, m2, m3, m4⟩ := bx13.two
                clear bx1 o1a ho1 bx13
                go_wp2_with fail
                refine (HIS.out _ _ _ o1b.ints).mono ?_
                rintro e w4 ⟨rfl, hbb4⟩
                have hb4 := hb3a.trans (hbb4.mono hb3a.size)
                have hsz4 : w.heap.size < w4.heap.size := by have := hb4.size; have := P4.out; omega
                have hsz34 : w3.heap.size < w4.heap.size := by have := hbb4.size; simp at this; omega
                have hsz24 : w2.heap.size < w4.heap.size := by omega
                have bxe4 := bxe.below hbb4
                have bx14 := bx1b.below hbb4
                have o14 := o1b.below hbb4
                have o24 := o2b.below hbb4
                clear bxe bx1b o1b o2b m1 m2 m3 m4
                obtain ⟨m1, m2, m3, m4⟩ := bx14.two
                obtain ⟨x1, x2, x3, x4⟩ := bxe4.two
                go_wp2_with fail
                obtain ⟨w5, hw5⟩ : ∃ w5 : World, w4.alloc (.cells #[.int .i64 s1, .slice a1 (lim n1).length f1, .int .i64 0] 26) = w5 := ⟨_, rfl⟩
                have o15 : Own w5 W0.heap.size a1 (lim n1) := by rw [← hw5]; exact o14.alloc _
                have bx5 : BoxAt w5 w4.heap.size 26 #[.int .i64 s1, .slice a1 (lim n1).length f1, .int .i64 0] := by rw [← hw5]; exact BoxAt.new _ _ _
                have hb5 : Below W0.heap.size W0 w5 := by rw [← hw5]; exact hb4.alloc hb4.size _
                rw [hw5]
                clear hw5
                have U5 := Lib.hid hb5
                have hne : w4.heap.size ≠ w.heap.size := by omega
                have S5 := Lib.hid (show ∀ W, Below w5.heap.size w5 W → (W.cell? ⟨w4.heap.size, 0, none⟩ = some (.int .i64 s1) ∧ W.cell? ⟨w4.heap.size, 1, none⟩ = some (.slice a1 (lim n1).length f1) ∧ W.cell? ⟨w4.heap.size, 2, none⟩ = some (.int .i64 0)) from fun W hW => (bx5.below hW).tri)
                have T5 := Lib.hid (show ∀ W u0 u1 u2, Below w5.heap.size w5 W → (fun W : World => W.cell? ⟨w4.heap.size, 0, none⟩ = some (.int .i64 s1) ∧ W.cell? ⟨w4.heap.size, 1, none⟩ = some (.slice a1 (lim n1).length f1) ∧ W.cell? ⟨w4.heap.size, 2, none⟩ = some (.int .i64 0)) (((W.setCell ⟨w.heap.size, 0, none⟩ u0).setCell ⟨w.heap.size, 1, none⟩ u1).setCell ⟨w.heap.size, 2, none⟩ u2) from fun W u0 u1 u2 hW =>
                  ((((bx5.below hW).far (p := ⟨w.heap.size, 0, none⟩) hne u0).far (p := ⟨w.heap.size, 1, none⟩) hne u1).far (p := ⟨w.heap.size, 2, none⟩) hne u2).tri)
                have HYC := Lib.hid (show ∀ W, Below w5.heap.size w5 W → Calls Try.prog 96 #[.agg #[.int .i64 s1, .slice a1 (lim n1).length f1, .int .i64 0]] W fun e w' => e = .returned (.bool (dyB s1 (lim n1) 0)) ∧ Below w5.heap.size w5 w' from
                  fun W hW => (HY.out a1 f1 0 W (o15.below hW).ints).mono fun e w' ⟨he, hb⟩ => ⟨he, hW.trans (hb.mono hW.size)⟩)
                have hT5 : Below w5.heap.size w5 w5 := Below.refl _ _
                have hT5d := hT5.drew
                have hT5dd := hT5d.drew
                have O5 := Lib.hid o15
                have HC1 := Lib.hid hc1
                rw [← HBO.out] at HYC
                clear o15 bx5 hb5 o14 o24 bxe4 bx14 hb4 hbb4 hb3 hb3a hb2 hb2a hbb2 hbb3 m1 m2 m3 m4 x1 x2 x3 x4 ho2 hc1 hc2 hne HIS HP1 HP2 HY
                go_region_held3 (fun W => W.cell? ⟨w4.heap.size, 0, none⟩ = some (.int .i64 s1) ∧ W.cell? ⟨w4.heap.size, 1, none⟩ = some (.slice a1 (lim n1).length f1) ∧ W.cell? ⟨w4.heap.size, 2, none⟩ = some (.int .i64 0))
                  (with_reducible first | exact S5.out _ (by assumption) | exact T5.out _ _ _ _ (by assumption))
                  (first
                  | (go_at_call 96; with_reducible refine (HYC.out _ (by assumption)).mono ?_; rintro e w6 ⟨rfl, hb6⟩; have hb9 := U5.out.trans (hb6.mono U5.out.size); obtain ⟨z1, z2, z3, z4, z5, z6⟩ := SR.out _ hb9))
                all_goals
                  have O6 := Lib.hid (O5.out.below hb6)
                  go_wp2_with fail
                  refine bodyPost_ret (v := .tuple #[.agg #[.int .i64 s1, .slice a1 (lim n1).length f1, .int .i64 0], .bool bo]) (by simp [results, Try.results45, go_sem, *]) rfl ?_
                  exact retRY_end (g := w.heap.size) (r := ((s1, lim n1, 0), bo)) P3.out P4.out hb9 (by omega) (by have := P4.out; omega) _ _ _ (O6.out.mono (Nat.le_refl _)) HC1.out


set_option maxRecDepth 100000 in
set_option maxHeartbeats 4000000 in
theorem sPD0 (l : List UInt8) (r : (Int × List Int × Int) × Bool) (h : ∀ w, Calls Try.prog 45 #[.string ⟨l.toArray⟩] w (RetRY r w)) (w : World) :
    Calls Try.prog 7 #[.string ⟨l.toArray⟩] w (RetYC (if r.2 = true then (r.1.1, r.1.2.1, r.1.2.2, 0) else (0, [], 0, 6)) w.heap.size w) := by
  obtain ⟨W0, hW0⟩ : ∃ W0 : World, w.alloc (.cells #[.int .i64 0, .slice none 0 0, .int .i64 0] 26) = W0 := ⟨_, rfl⟩
  obtain ⟨p2, p3, p4⟩ := one_box w 26 #[.int .i64 0, .slice none 0 0, .int .i64 0]
  rw [hW0] at p2 p3 p4
  have HW0 := Lib.hid hW0
  have P3 := Lib.hid p3
  have P4 := Lib.hid p4
  have SR := Lib.hid (show ∀ W, Below W0.heap.size W0 W → _ from fun W hW => (p2.below hW).tri6)
  have hT : Below W0.heap.size W0 W0 := Below.refl _ _
  clear p2 p3 p4 hW0
  obtain ⟨⟨s1, x1, y1⟩, bo⟩ := r
  have HR := Lib.hid (show ∀ W, Below W0.heap.size W0 W → Calls Try.prog 45 #[.string ⟨l.toArray⟩] W fun e w' => ∃ a c, e = .returned (.tuple #[.agg #[.int .i64 s1, .slice a x1.length c, .int .i64 y1], .bool bo]) ∧ x1.length ≤ c ∧ Own w' W.heap.size a x1 ∧ Below W0.heap.size W0 w' from
    fun W hW => (h W).mono fun e w' ⟨a, c, he, hc, ho, hb⟩ => ⟨a, c, he, hc, ho, hW.trans (hb.mono hW.size)⟩)
  clear h
  cases bo
  · rw [if_neg (by simp)]
    go_enter Try.func7, Try.ntmps7
    go_wp2_with fail
    rw [HW0.out]
    refine (HR.out _ hT).mono ?_
    rintro e w2 ⟨a1, f1, rfl, hc1, ho1, hb2⟩
    obtain ⟨q1, q2, q3, q4, q5, q6⟩ := SR.out _ hb2
    have hsz2 : w.heap.size < w2.heap.size := by have := hb2.size; have := P4.out; omega
    go_wp2_with fail
    refine bodyPost_ret (v := .tuple #[.agg #[.int .i64 0, .slice none 0 0, .int .i64 0], .int .i64 6]) (by simp [results, Try.results7, go_sem, *]) rfl ?_
    exact (retYC_zero (g := w.heap.size) 6 P3.out P4.out hb2 (by omega) _ _ _).alloc _
  · rw [if_pos rfl]
    go_enter Try.func7, Try.ntmps7
    go_wp2_with fail
    rw [HW0.out]
    refine (HR.out _ hT).mono ?_
    rintro e w2 ⟨a1, f1, rfl, hc1, ho1, hb2⟩
    obtain ⟨q1, q2, q3, q4, q5, q6⟩ := SR.out _ hb2
    have hsz2 : w.heap.size < w2.heap.size := by have := hb2.size; have := P4.out; omega
    go_wp2_with fail
    refine bodyPost_ret (v := .tuple #[.agg #[.int .i64 s1, .slice a1 x1.length f1, .int .i64 y1], .int .i64 0]) (by simp [results, Try.results7, go_sem, *]) rfl ?_
    exact (retYC_end (g := w.heap.size) (r := (s1, x1, y1, 0)) P3.out P4.out hb2 (by omega) (by omega) _ _ _ (ho1.mono hT.size) hc1).alloc _
/-- What ParseDyadic answers: both sides the same. -/
noncomputable def pdR (l : List UInt8) : Int × List Int × Int × Int := @dite _ ((112 : UInt8) ∉ l) (Classical.propDecidable _) (fun _ => (0, [], 0, 6)) fun h => pdZ (prR (cutM (Classical.choose (List.eq_append_cons_of_mem (Classical.not_not.1 h)))).1 (cutM (Classical.choose (List.eq_append_cons_of_mem (Classical.not_not.1 h)))).2) (prR (cutM (Classical.choose (Classical.choose_spec (List.eq_append_cons_of_mem (Classical.not_not.1 h))))).1 (cutM (Classical.choose (Classical.choose_spec (List.eq_append_cons_of_mem (Classical.not_not.1 h))))).2)
theorem pd_cases (l : List UInt8) : ((112 : UInt8) ∉ l ∧ pdR l = (0, [], 0, 6)) ∨ ∃ f b, l = f ++ 112 :: b ∧ (112 : UInt8) ∉ f ∧ pdR l = pdZ (prR (cutM f).1 (cutM f).2) (prR (cutM b).1 (cutM b).2) := by
  by_cases h : (112 : UInt8) ∉ l
  · exact .inl ⟨h, by unfold pdR; rw [dif_pos h]⟩
  · exact .inr ⟨_, _, (Classical.choose_spec (Classical.choose_spec (List.eq_append_cons_of_mem (Classical.not_not.1 h)))).1, (Classical.choose_spec (Classical.choose_spec (List.eq_append_cons_of_mem (Classical.not_not.1 h)))).2, by unfold pdR; rw [dif_neg h]⟩
theorem pdR_len (l : List UInt8) : (pdR l).2.1.length ≤ 200 := by
  rcases pd_cases l with ⟨_, e⟩ | ⟨f, b, _, _, e⟩
  · rw [e]; simp
  · rw [e]; exact pdZ_len (prR_len _ _)
theorem iParseDyadic (l : List UInt8) (hl : l.length ≤ 1048576) (w : World) : Calls Try.prog 8 #[.string ⟨l.toArray⟩] w (RetYC (pdR l) w.heap.size w) := by
  rcases pd_cases l with ⟨h, e⟩ | ⟨f, b, e1, h, e⟩
  · rw [e]; exact iPDno l hl h w
  · rw [e]
    subst e1
    exact iPDyes f b (by simpa using hl) h w
theorem sParseDyadic (l : List UInt8) (hl : l.length ≤ 1048576) (w : World) : Calls Try.prog 7 #[.string ⟨l.toArray⟩] w (RetYC (pdR l) w.heap.size w) := by
  rcases pd_cases l with ⟨h, e⟩ | ⟨f, b, e1, h, e⟩
  · rw [e]; exact sPD0 l ((0, [], 0), false) (fun w => sRDno l hl h w) w
  · rw [e]
    subst e1
    have hl' : f.length + (b.length + 1) ≤ 1048576 := by simpa using hl
    obtain ⟨s1, n1, o1, h1⟩ := rdOf f (by omega)
    obtain ⟨s2, n2, o2, h2⟩ := rdOf b (by omega)
    rw [pd_eq h1 h2]
    exact sPD0 _ (rdZ s1 n1 o1 s2 n2 o2) (fun w => sRDyes f b s1 n1 o1 s2 n2 o2 hl' h h1 h2 w) w

end Go.Proofs.Ytpchcigpppdfiab
