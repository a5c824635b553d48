/-
  Contracts: an exact number that a float32 holds, rounded to a float32 by the program. Conditions: the limbs can be read; the library's table is as its initialiser lays it.
-/
import Derived.Test.YtnnbfoemmgddeaaDoorGc
import Derived.Test.YtnnbfoemmgddeaaDoorFw
namespace Go.Proofs.YtnnbfoemmgddeaaDoor
set_option linter.unusedVariables false
open Go Go.RowKit Ieee

def f32 : Format := FloatKind.f32.format
theorem f32_sw : f32.signWeight = 2 ^ 31 := by decide
theorem f32_bin : f32.binade = 2 ^ 23 := by decide
theorem f32_inf : f32.infRung = 0x7f800000 := by decide
theorem f32_low : f32.leastPlace = -149 := by decide
/-- What reading tells of a word: its rung is that of the number. -/
theorem read_canonN {x : Nat} {s : Bool} {m : Nat} {i : Int} (h : f32.read x = .number s m i) :
    x % 2 ^ 31 = rawRung f32 m i ∧ x % 2 ^ 31 < 0x7f800000 ∧ s = (x / 2 ^ 31 % 2 == 1) := by
  have hc : Canon f32 m i ∧ x % 2 ^ 31 = (i - f32.leastPlace).toNat * f32.binade + m ∧ x % 2 ^ 31 < 0x7f800000 ∧ s = (x / 2 ^ 31 % 2 == 1) := by
    simp only [Format.read, f32_sw, f32_bin, f32_inf, f32_low] at h
    unfold Canon
    rw [f32_bin, f32_low]
    split at h
    · simp only [Datum.number.injEq] at h
      obtain ⟨h1, h2, h3⟩ := h
      refine ⟨⟨by omega, by omega, by omega⟩, ?_, by omega, h1.symm⟩
      rw [show (i - -149).toNat = 0 by omega]; omega
    · split at h
      · simp only [Datum.number.injEq] at h
        obtain ⟨h1, h2, h3⟩ := h
        refine ⟨⟨by omega, by omega, by omega⟩, ?_, by omega, h1.symm⟩
        have h4 : (i - -149).toNat = x % 2 ^ 31 / 2 ^ 23 - 1 := by omega
        rw [h4, ← h2]
        omega
      · split at h <;> cases h
  exact ⟨by rw [rawRung_canon f32 hc.1]; exact hc.2.1, hc.2.2⟩
theorem word_partsN {x : Nat} (hx : x < 2 ^ 32) : x = f32.word (x / 2 ^ 31 % 2 == 1) (x % 2 ^ 31) := by
  unfold Format.word
  rw [f32_sw]
  by_cases h : x / 2 ^ 31 % 2 = 1
  · rw [if_pos (by simpa using h)]; omega
  · rw [if_neg (by simpa using h)]; omega
/-- A float64 that holds a float32's value, made narrow, is this float32. -/
theorem narrow_back {x : Nat} (hx : x < 2 ^ 32) {s : Bool} {m : Nat} {i : Int} (h : FloatKind.f32.format.read x = .number s m i) : floatToFloatBits .f64 (fw s m i) .f32 = some x := by
  obtain ⟨h1, h2, h3⟩ := read_fin_f32 h
  obtain ⟨k, hr, _⟩ := read_fw s (Fit.of (m := m) (i := i) (by omega) (by omega) (by omega))
  obtain ⟨g1, g2, g3⟩ := read_canonN h
  have he : FloatKind.f32.encode (.number s (m * 2 ^ k) (i - k)) = x := by
    show f32.nearest s (m * 2 ^ k) (i - k) = x
    rw [nearest_eq, f32_inf, rawRung_shift, ← g1, Nat.min_eq_left (by omega), g3]
    exact (word_partsN hx).symm
  unfold floatToFloatBits
  rw [if_neg (by decide)]
  have h4 : FloatKind.f64.decode (fw s m i) = _ := hr
  rw [h4]
  simp only
  rw [he]
  have h5 : FloatKind.f32.decode x = _ := h
  rw [h5]
  rfl
theorem order_zeroN {x : Nat} {s : Bool} {i : Int} (h : FloatKind.f32.format.read x = .number s 0 i) : (FloatKind.f32.format.order 0 x == some .eq) = true := by
  have h0 : FloatKind.f32.format.read 0 = .number false 0 (-149) := by decide +kernel
  unfold Format.order
  rw [h, h0]
  simp only [Datum.order]
  have e1 : ∀ k, signed false 0 k = 0 := fun k => by rw [signed_false]; simp
  have e2 : ∀ k, signed s 0 k = 0 := fun k => by cases s; exact e1 k; rw [signed_true]; simp
  rw [e1, e2]
  rfl
theorem order_sameN {x : Nat} {s : Bool} {m : Nat} {i : Int} (h : FloatKind.f32.format.read x = .number s m i) : (FloatKind.f32.format.order x x == some .eq) = true := by
  unfold Format.order
  rw [h]
  simp only [Datum.order]
  rw [compare_int]
  simp

/-- How a float32's exact value is rounded back. -/
structure RoundedN (s : Int) (m : Nat) (x q : Int) (r x0 y : Nat) : Prop where
  place : max (blen m + x - 24) (-149) = q
  mult : nsh m (x - q) = r
  least : -149 ≤ q
  high : q ≤ 104
  most : r < 2 ^ 24
  ok : m ≠ 0 ∨ 0 ≤ x - q
  over : blen r + q ≤ 128
  back : floatToFloatBits .f64 (fw (decide (s < 0)) r q) .f32 = some y
  same : (FloatKind.f32.format.order y x0 == some .eq) = true
theorem narrow_held {x0 : Nat} (hx : x0 < 2 ^ 32) {s e : Int} {l : List Int} (h : dyN x0 = (s, l, e, 0)) : ∃ u q r y, l = lim u ∧ IsDy s (lim u) e ∧ RoundedN s u e q r x0 y := by
  unfold dyN at h
  split at h
  · rename_i b m i hr
    obtain ⟨h1, h2, h3⟩ := read_fin_f32 hr
    simp only [Prod.mk.injEq] at h
    obtain ⟨e1, e2, e3, _⟩ := h
    by_cases h0 : m = 0
    · subst h0
      have e0 : sg b 0 = 0 := by unfold sg; cases b <;> rfl
      have er : redZ (sg b 0) i = (0, [], 0) := by rw [e0]; unfold redZ; exact redS_zero _ _
      rw [er] at e1 e2 e3
      simp only at e1 e2 e3
      subst e1 e2 e3
      refine ⟨0, -24, 0, 0, lim_zero.symm, ⟨isWh_lim (by rw [lim_zero]; simp) (.inl ⟨rfl, rfl⟩), by omega, by omega, .inl ⟨rfl, rfl⟩⟩, ?_, ?_, by omega, by omega, by omega, by omega, ?_, ?_, order_zeroN hr⟩
      · rw [blen_zero]; rfl
      · unfold nsh; simp
      · rw [blen_zero]; omega
      · rw [fw_zero]; decide +kernel
    · have hz : (sg b m).natAbs = m := sgf_abs b m
      have er : redZ (sg b m) i = ((sg b m).sign, lim (od m), i + (tw m : Int)) := by unfold redZ; rw [hz]; exact redS_pos h0
      rw [er] at e1 e2 e3
      simp only at e1 e2 e3
      subst e1 e2 e3
      obtain ⟨ho, hp⟩ := od_mul h0
      have hod : od m ≠ 0 := fun h => by rw [h] at hp; omega
      have ho' : m = od m * 2 ^ tw m := by rw [Nat.mul_comm]; exact ho
      have hlog : m.log2 = (od m).log2 + tw m := by
        have := log2_shift hod (tw m)
        rw [← ho'] at this
        exact this
      have hl24 : m.log2 ≤ 23 := by
        have h5 := log_le h0
        have h6 : 2 ^ m.log2 < 2 ^ 24 := by omega
        have := (Nat.pow_lt_pow_iff_right (by omega : 1 < 2)).1 h6
        omega
      have hle : od m ≤ m := by
        have h3 := Nat.mul_le_mul_right (od m) (Nat.pow_pos (n := tw m) (show 0 < 2 by omega))
        rw [← ho] at h3
        omega
      have hlen : (lim (od m)).length ≤ 200 := by
        rw [lim_length]
        have := dig_small (n := od m) (by omega)
        omega
      have hs : (sg b m).sign = 1 ∨ (sg b m).sign = -1 := by
        have hne : sg b m ≠ 0 := fun hh => by rw [hh] at hz; exact h0 hz.symm
        rcases Int.lt_trichotomy (sg b m) 0 with hh | hh | hh
        · exact .inr (Int.sign_eq_neg_one_of_neg hh)
        · exact absurd hh hne
        · exact .inl (Int.sign_eq_one_of_pos hh)
      have hb : decide ((sg b m).sign < 0) = b := by
        have h7 := (sg_neg (s := b) h0).1
        refine Eq.trans (decide_eq_decide.2 ?_) h7
        rcases Int.lt_trichotomy (sg b m) 0 with hh | hh | hh
        · rw [Int.sign_eq_neg_one_of_neg hh]; omega
        · rw [hh]; decide
        · rw [Int.sign_eq_one_of_pos hh]; omega
      obtain ⟨q, hq⟩ : ∃ q : Int, q = max ((m.log2 : Int) + 1 + i - 24) (-149) := ⟨_, rfl⟩
      obtain ⟨K, hK⟩ : ∃ K : Nat, i - q = (K : Int) := ⟨(i - q).toNat, by omega⟩
      have hr2 : (m * 2 ^ K).log2 = m.log2 + K := log2_shift h0 K
      have hrp : m * 2 ^ K ≠ 0 := by
        have := Nat.mul_pos (Nat.pos_of_ne_zero h0) (Nat.two_pow_pos K)
        omega
      have hr24 : m * 2 ^ K < 2 ^ 24 := by
        have h8 := lt_two_log (m * 2 ^ K)
        rw [hr2] at h8
        exact Nat.lt_of_lt_of_le h8 (Nat.pow_le_pow_right (by omega) (by omega))
      refine ⟨od m, q, m * 2 ^ K, x0, rfl, ⟨isWh_lim hlen (.inr ⟨hod, hs⟩), by omega, by omega, .inr ⟨by omega, ?_⟩⟩, ?_, ?_, by omega, by omega, hr24, .inl hod, ?_, ?_, order_sameN hr⟩
      · rw [lim_getD]
        omega
      · rw [blen_log hod, hq]
        omega
      · unfold nsh
        rw [if_pos (by omega), show (i + (tw m : Int) - q).toNat = tw m + K by omega, Nat.pow_add, ← Nat.mul_assoc, ← ho']
      · rw [blen_log hrp, hr2]
        omega
      · rw [hb]
        have h9 := fw_shift b m i K
        rw [show i - (K : Int) = q by omega] at h9
        rw [h9]
        exact narrow_back hx hr
  · simp at h

theorem ldexp_smallN {r : Nat} {q : Int} (h : r < 2 ^ 24) (h1 : -149 ≤ q) (h2 : q ≤ 104) (w : World) : Calls Tryd.prog 49 #[.float .f64 (fw false r 0), .int .i64 q] w fun e w' => e = .returned (.float .f64 (fw false r q)) ∧ w = w' :=
  Ldexp_rnd (by omega) (by omega) (.inl ⟨by omega, by omega⟩) w

set_option maxRecDepth 100000 in
set_option maxHeartbeats 400000 in
theorem iWidthN (w : World) : Calls Tryd.prog 43 #[.iface 57 (.float .f32 0)] w (RetB (.agg #[.int .i64 24, .int .i64 (-149), .int .i64 128]) w) := by
  have hta : ∀ W : World, (Instr.typeAssert (.iface 57 (.float .f32 0)) 69 57 true).run Tryd.prog W = .ok (.tuple #[.float .f32 0, .bool true]) W := fun W => by kernel_rfl
  go_enter Tryd.func43, Tryd.ntmps43
  go_wp2_with fail
  refine bodyPost_ret (v := .agg #[.int .i64 24, .int .i64 (-149), .int .i64 128]) (by simp [results, Tryd.results43, go_sem, *]) rfl ?_
  exact ⟨rfl, (Below.refl _ w).alloc (Nat.le_refl _) _⟩

/-- A variable that holds the width of a float32. -/
def WAtN (W0 W : World) (p : Value) : Prop := ∃ g, p = .pointer (some ⟨g, 0, none⟩) ∧ W0.heap.size ≤ g ∧ BoxAt W g 79 #[.int .i64 24, .int .i64 (-149), .int .i64 128] ∧ Below W0.heap.size W0 W
theorem WAtN.mk1 {W0 W : World} (hb : Below W0.heap.size W0 W) : WAtN W0 (W.alloc (.cells #[.int .i64 24, .int .i64 (-149), .int .i64 128] 79)) (.pointer (some ⟨W.heap.size, 0, none⟩)) :=
  ⟨_, rfl, hb.size, BoxAt.new _ _ _, hb.alloc hb.size _⟩
theorem WAtN.mk2 {W0 W : World} {g : Nat} {v0 v1 v2 : Value} (hq : BoxAt W g 79 #[v0, v1, v2]) (hg : W0.heap.size ≤ g) (hb : Below W0.heap.size W0 W) :
    WAtN W0 (((W.setCell ⟨g, 0, none⟩ (.int .i64 24)).setCell ⟨g, 1, none⟩ (.int .i64 (-149))).setCell ⟨g, 2, none⟩ (.int .i64 128)) (.pointer (some ⟨g, 0, none⟩)) := by
  refine ⟨_, rfl, hg, ?_, below_set3 hb hg _ _ _⟩
  have := ((hq.set_ 0 (.int .i64 24)).set_ 1 (.int .i64 (-149))).set_ 2 (.int .i64 128)
  simpa using this
theorem WAtN.below {W0 W W' : World} {p : Value} (h : WAtN W0 W p) (hb : Below W.heap.size W W') : WAtN W0 W' p := by
  obtain ⟨g, hp, hg, hx, h0⟩ := h
  exact ⟨g, hp, hg, hx.below hb, h0.trans (hb.mono h0.size)⟩

set_option maxRecDepth 100000 in
set_option maxHeartbeats 4000000 in
theorem iNearestNarrow (s : Int) (a : Option Addr) (m c1 : Nat) (x q : Int) (r x0 y : Nat) (w : World) (B : Nat) (hB : B ≤ w.heap.size) (hx : Ints w B a (lim m)) (hd : IsDy s (lim m) x) (R : RoundedN s m x q r x0 y) (hTab : Tab w) :
    Calls Tryd.prog 26 #[.agg #[.int .i64 s, .slice a (lim m).length c1, .int .i64 x]] w (RetB (.tuple #[.float .f32 y, .int .i64 0]) w) := by
  obtain ⟨W0, hW0⟩ : ∃ W0 : World, w.alloc (.cells #[.int .i64 s, .slice a (lim m).length c1, .int .i64 x] 30) = W0 := ⟨_, rfl⟩
  obtain ⟨p1, p3, p4⟩ := one_box w 30 #[.int .i64 s, .slice a (lim m).length c1, .int .i64 x]
  rw [hW0] at p1 p3 p4
  have HW0 := Lib.hid hW0
  have P3 := Lib.hid p3
  have P4 := Lib.hid p4
  have HTB := Lib.hid (show ∀ W, Below W0.heap.size W0 W → Tab W from fun W hW => (hTab.below p3).below hW)
  clear hTab
  have hl : (lim m).length ≤ 9223372036854775807 := by have : (lim m).length ≤ 200 := (by obtain ⟨m', e', h', _⟩ := isDy_of hd; rw [e']; exact h'); omega
  have SS := Lib.hid (show ∀ W, Below W0.heap.size W0 W → (W.cell? ⟨w.heap.size, 0, none⟩ = some (.int .i64 s) ∧ W.cell? ⟨w.heap.size, 1, none⟩ = some (.slice a (lim m).length c1) ∧ W.cell? ⟨w.heap.size, 2, none⟩ = some (.int .i64 x)) from
    fun W hW => (p1.below hW).tri)
  have hT : Below W0.heap.size W0 W0 := Below.refl _ _
  have hT' : Below W0.heap.size W0 W0.drew := hT.drew
  have HI := Lib.hid (show ∀ W, Below W0.heap.size W0 W → Calls Tryd.prog 28 #[.agg #[.int .i64 s, .slice a (lim m).length c1, .int .i64 x]] W fun e w' => e = .returned (.bool (dyB s (lim m) x)) ∧ Below W0.heap.size W0 w' from
    fun W hW => (iIsDyadic s a (lim m) c1 x W B (by have := hW.size; omega) hl (hx.below ((p3.mono hB).trans (hW.mono (by omega))))).mono fun e w' ⟨he, hb⟩ => ⟨he, hW.trans (hb.mono hW.size)⟩)
  obtain ⟨k1, k2, k3⟩ := SS.out _ hT
  have HBE := Lib.hid (show ∀ W, Below W0.heap.size W0 W → Below w.heap.size w W from fun W hW => p3.trans (hW.mono (by omega)))
  have hlm : (lim m).length ≤ 200 := (by obtain ⟨m', e', h', _⟩ := isDy_of hd; rw [e']; exact h')
  have h := dyB_yes hd
  rw [h] at HI
  have hx1 := hd.2.1
  have hx2 := hd.2.2.1
  have IX := Lib.hid (show ∀ W, Below W0.heap.size W0 W → Ints W B a (lim m) ∧ B ≤ W.heap.size from fun W hW => ⟨hx.below ((p3.mono hB).trans (hW.mono (by omega))), by have := hW.size; omega⟩)
  have hrl : (lim r).length ≤ 200 := by
    have h2 : r < 2 ^ 54 := by have := R.most; omega
    rw [lim_length]
    exact Nat.le_trans (len_64 (by omega)) (by omega)
  have hq2 : q ≤ 10000 := by
    have := R.place
    obtain ⟨b, hb1, hb2⟩ := blen_nat2 hlm
    omega
  have HWD := Lib.hid (show ∀ W, Below W0.heap.size W0 W → Calls Tryd.prog 43 #[.iface 57 (.float .f32 (floatOfInt .f32 0))] W fun e w' => e = .returned (.agg #[.int .i64 24, .int .i64 (-149), .int .i64 128]) ∧ Below W0.heap.size W0 w' ∧ Below W.heap.size W w' from fun W hW => by
    have hz : floatOfInt .f32 0 = 0 := by decide +kernel
    rw [hz]
    exact (iWidthN W).mono fun e w' ⟨he, hb⟩ => ⟨he, hW.trans (hb.mono hW.size), hb⟩)
  have HS := Lib.hid (show ∀ W, Below W0.heap.size W0 W → Calls Tryd.prog 44 #[.agg #[.int .i64 s, .slice a (lim m).length c1]] W fun e w' => e = .returned (.slice a (lim m).length c1) ∧ Below W0.heap.size W0 w' ∧ Below W.heap.size W w' from
    fun W hW => (iSize s a _ c1 W).mono fun e w' ⟨he, hb⟩ => ⟨he, hW.trans (hb.mono hW.size), hb⟩)
  obtain ⟨bl, hbl1, hbl2⟩ := blen_nat2 hlm
  obtain ⟨bl2, hbr1, hbr2⟩ := blen_nat2 hrl
  have HLM := Lib.hid (show ∀ W, Below W0.heap.size W0 W → Calls Tryd.prog 45 #[.slice a (lim m).length c1] W fun e w' => e = .returned (.int .i64 (bl : Int)) ∧ W = w' from fun W hW => by
    have := iMagLength a m c1 W B (IX.out W hW).1 (by omega)
    rwa [hbl1] at this)
  have HN := Lib.hid (show ∀ W, Below W0.heap.size W0 W → Calls Tryd.prog 46 #[.slice a (lim m).length c1, .int .i64 (x - q)] W fun e w' => ∃ b d, e = .returned (.slice b (lim r).length d) ∧ (lim r).length ≤ d ∧ Own w' W0.heap.size b (lim r) ∧ Below W0.heap.size W0 w' ∧ Below W.heap.size W w' from fun W hW => by
    have := iNear a m c1 (x - q) W B (IX.out W hW).2 (IX.out W hW).1 (by omega) (by have := R.least; omega) (by omega) R.ok (HTB.out W hW)
    rw [R.mult] at this
    exact this.mono fun e w' ⟨b, d, he, hc, ho, hb⟩ => ⟨b, d, he, hc, ho.mono hW.size, hW.trans (hb.mono hW.size), hb⟩)
  have HLR := Lib.hid (show ∀ (b : Option Addr) (d : Nat) W, Own W W0.heap.size b (lim r) → Calls Tryd.prog 45 #[.slice b (lim r).length d] W fun e w' => e = .returned (.int .i64 (bl2 : Int)) ∧ W = w' from fun b d W ho => by
    have := iMagLength b r d W _ ho.ints (by omega)
    rwa [hbr1] at this)
  have HG := Lib.hid (show ∀ (a : Option Addr) (c : Nat) W, (lim r).length ≤ c → Own W W0.heap.size a (lim r) → Below W0.heap.size W0 W → Calls Tryd.prog 48 #[.int .i64 1, .slice a (lim r).length c] W fun e w' => ∃ a c, e = .returned (.agg #[.int .i64 (sgnOf 1 r), .slice a (lim r).length c]) ∧ Own w' W0.heap.size a (lim r) ∧ Below W0.heap.size W0 w' from
    fun a c W h1 h2 hW => (iSigned 1 r a c W W0.heap.size h1 h2).mono fun e w' ⟨a, c, he, hc, ho, hb⟩ => ⟨a, c, he, ho, hW.trans (hb.mono hW.size)⟩)
  have hio : intR (sgnOf 1 r) (lim r) = ((r : Int), 0) := by
    have hw : IsWh (sgnOf 1 r) (lim r) := isWh_lim hrl (sgn_one r).1
    have hv : wv (sgnOf 1 r) (lim r) = (r : Int) := by rw [wv_lim]; exact (sgn_one r).2
    rw [intR_yes hw (by rw [hv]; have := R.most; omega), hv]
  have HIO := Lib.hid (show ∀ (b : Option Addr) (d : Nat) W, Own W W0.heap.size b (lim r) → Below W0.heap.size W0 W → Calls Tryd.prog 47 #[.agg #[.int .i64 (sgnOf 1 r), .slice b (lim r).length d]] W fun e w' => e = .returned (.tuple #[.int .i64 (r : Int), .int .i64 0]) ∧ Below W0.heap.size W0 w' from fun b d W ho hW => by
    have := iIntegerOf (sgnOf 1 r) b (lim r) d W W.heap.size (Nat.le_refl _) ho.ints (by omega)
    rw [hio] at this
    exact this.mono fun e w' ⟨he, hb⟩ => ⟨he, hW.trans (hb.mono hW.size)⟩)
  have hfr : floatOfInt .f64 (r : Int) = fw false r 0 := by
    rw [ofInt_fw, decide_eq_false (show ¬ ((r : Int) < 0) by omega)]
    rfl
  have hfs : floatOfInt .f64 s = fw (decide (s < 0)) s.natAbs 0 := ofInt_fw s
  obtain ⟨y1, hy1⟩ : ∃ y1 : Int, y1 = (bl : Int) + x := ⟨_, rfl⟩
  obtain ⟨y2, hy2⟩ : ∃ y2 : Int, y2 = y1 - 24 := ⟨_, rfl⟩
  obtain ⟨y3, hy3⟩ : ∃ y3 : Int, y3 = (bl2 : Int) + q := ⟨_, rfl⟩
  obtain ⟨u, hu⟩ : ∃ u : Int, u = x - q := ⟨_, rfl⟩
  have hl0 := R.least
  have e1 : IntKind.i64.wrap ((bl : Int) + x) = y1 := by rw [hy1, IntKind.wrap_i64]; omega
  have e2 : IntKind.i64.wrap (y1 - 24) = y2 := by rw [hy2, IntKind.wrap_i64]; omega
  have e3 : max y2 (-149) = q := by rw [hy2, hy1, ← hbl1]; exact R.place
  have e4 : IntKind.i64.wrap (x - q) = u := by rw [hu, IntKind.wrap_i64]; omega
  have e5 : wrap64 (x - q) = u := by rw [hu]; unfold wrap64; omega
  have e6 : IntKind.i64.wrap ((bl2 : Int) + q) = y3 := by rw [hy3, IntKind.wrap_i64]; omega
  rw [← hu] at HN
  have HX0 := Lib.hid (show ∀ W u v z g, Below W0.heap.size W0 W → W0.heap.size ≤ g → Below W0.heap.size W0 (((W.setCell ⟨g, 0, none⟩ u).setCell ⟨g, 1, none⟩ v).setCell ⟨g, 2, none⟩ z) from fun W u v z g h1 h2 => below_set3 h1 h2 u v z)
  have hov := R.over
  rw [hbr1, ← hy3] at hov
  obtain ⟨f1, hf1⟩ : ∃ f1, fw false r 0 = f1 := ⟨_, rfl⟩
  obtain ⟨f2, hf2⟩ : ∃ f2, fw false r q = f2 := ⟨_, rfl⟩
  obtain ⟨f3, hf3⟩ : ∃ f3, fw (decide (s < 0)) s.natAbs 0 = f3 := ⟨_, rfl⟩
  obtain ⟨f4, hf4⟩ : ∃ f4, fw (decide (s < 0)) r q = f4 := ⟨_, rfl⟩
  have HCS := Lib.hid (show ∀ W, Calls Tryd.prog 50 #[.float .f64 f2, .float .f64 f3] W fun e w' => e = .returned (.float .f64 f4) ∧ W = w' from fun W => by
    have := Copysign_fw false (decide (s < 0)) r s.natAbs q 0 W
    rw [hf2, hf3, hf4] at this
    exact this)
  have HLD' := Lib.hid (show ∀ W, Calls Tryd.prog 49 #[.float .f64 f1, .int .i64 q] W fun e w' => e = .returned (.float .f64 f2) ∧ W = w' from fun W => by
    have := ldexp_smallN R.most R.least R.high W
    rw [hf1, hf2] at this
    exact this)
  rw [hf1] at hfr
  rw [hf3] at hfs
  have ho : ¬ 128 < y3 := by omega
  have ho2 : y3 ≤ 128 := by omega
  have hcv := R.back
  rw [hf4] at hcv
  have hcvv : ∀ W : World, (convert 24 57 (.float .f64 f4)).run Tryd.prog W = .ok (.float .f32 y) W := fun W => run_convert_float_float W _ _ _ _ _ _ (by rw [Tryd.underlying24]; rfl) Tryd.underlying57 hcv
  have hq3 : -149 ≤ q := hl0
  clear p1 p3 p4 hW0 h hl hx hlm hrl hd R hcv hbl1 hbr1 hio hy1 hy2 hy3 hu hl0 hov hf1 hf2 hf3 hf4 hB hbl2 hbr2
  go_enter Tryd.func26, Tryd.ntmps26
  go_wp2_with fail
  rw [HW0.out]
  refine (HI.out _ hT).mono ?_
  rintro e w1 ⟨rfl, hb1⟩
  clear k1 k2 k3
  obtain ⟨k1, k2, k3⟩ := SS.out _ hb1
  have hb1d := hb1.drew
  have hz1 := hb1.size
  go_wp2_with fail
  go_cut [4, 5] (fun p z W => z = .slice a (lim m).length c1 ∧ WAtN W0 W p)
  case first =>
    go_region_held3 (fun W => W.cell? ⟨w.heap.size, 0, none⟩ = some (.int .i64 s) ∧ W.cell? ⟨w.heap.size, 1, none⟩ = some (.slice a (lim m).length c1) ∧ W.cell? ⟨w.heap.size, 2, none⟩ = some (.int .i64 x))
      (first | exact SS.out _ (by assumption) | exact SS.out _ (balF (by assumption)) | exact SS.out _ (below_allocd (by assumption) _) | exact SS.out _ (HX0.out _ _ _ _ _ (by assumption) (by first | omega | (simp; omega) | simp)))
      (first
      | (go_at_call 43; with_reducible refine (HWD.out _ (by first | assumption | exact balF (by assumption) | exact below_allocd (by assumption) _)).mono ?_; rintro e w2 ⟨rfl, hb2, hb2'⟩; have hz2 := hb2.size; (first | (with_reducible have hq := BoxAt.below (BoxAt.new _ 79 #[.int .i64 0, .int .i64 0, .int .i64 0]) hb2'; obtain ⟨q1, q2, q3, q4, q5, q6⟩ := BoxAt.tri6 hq) | (with_reducible have hq := BoxAt.below (BoxAt.newd _ 79 #[.int .i64 0, .int .i64 0, .int .i64 0]) hb2'; obtain ⟨q1, q2, q3, q4, q5, q6⟩ := BoxAt.tri6 hq) | (with_reducible have hq := BoxAt.below hq3 hb2'; obtain ⟨q1, q2, q3, q4, q5, q6⟩ := BoxAt.tri6 hq) | skip))
      | (go_at_call 44; with_reducible refine (HS.out _ (by first | assumption | exact balF (by assumption) | exact below_allocd (by assumption) _)).mono ?_; rintro e w3 ⟨rfl, hb3, hb3'⟩; have hz3 := hb3.size; (first | (with_reducible have hq3 := BoxAt.below (BoxAt.new _ 79 #[.int .i64 0, .int .i64 0, .int .i64 0]) hb3'; obtain ⟨q1, q2, q3, q4, q5, q6⟩ := BoxAt.tri6 hq3) | (with_reducible have hq3 := BoxAt.below (BoxAt.newd _ 79 #[.int .i64 0, .int .i64 0, .int .i64 0]) hb3'; obtain ⟨q1, q2, q3, q4, q5, q6⟩ := BoxAt.tri6 hq3) | (with_reducible have hq3 := BoxAt.below hq hb3'; obtain ⟨q1, q2, q3, q4, q5, q6⟩ := BoxAt.tri6 hq3) | (with_reducible have ha := WAtN.below (WAtN.mk1 hb2) hb3') | (with_reducible have ha := WAtN.below (WAtN.mk2 hq (by first | omega | (simp; omega) | simp) hb2) hb3') | skip)))
    all_goals
      go_wp2_with fail
      go_meet
      refine ⟨rfl, ?_⟩
      first
      | exact ha
      | exact WAtN.mk1 hb2
      | exact WAtN.mk1 hb3
      | exact WAtN.mk2 hq (by first | omega | (simp; omega) | simp) hb2
      | exact WAtN.mk2 hq3 (by first | omega | (simp; omega) | simp) hb3
  case rest =>
    obtain ⟨rfl, g, rfl, hg, hbx, hb⟩ := hcut
    have HK := Lib.hid (show ∀ W, Below wc.heap.size wc W → ((W.cell? ⟨w.heap.size, 0, none⟩ = some (.int .i64 s) ∧ W.cell? ⟨w.heap.size, 1, none⟩ = some (.slice a (lim m).length c1) ∧ W.cell? ⟨w.heap.size, 2, none⟩ = some (.int .i64 x)) ∧ (W.cell? ⟨g, 0, none⟩ = some (.int .i64 24) ∧ W.cell? ⟨g, 1, none⟩ = some (.int .i64 (-149)) ∧ W.cell? ⟨g, 2, none⟩ = some (.int .i64 128)) ∧ Below W0.heap.size W0 W) from fun W hW => ⟨SS.out _ (hb.trans (hW.mono hb.size)), (hbx.below hW).tri, hb.trans (hW.mono hb.size)⟩)
    have hTc : Below wc.heap.size wc wc := Below.refl _ _
    have hTd := hTc.drew
    clear hb1 hb1d hz1 k1 k2 k3 hbx hb hg
    obtain ⟨⟨k1, k2, k3⟩, ⟨k4, k5, k6⟩, hb⟩ := HK.out _ hTc
    have hbd := hb.drew
    go_wp2_with fail
    go_region_held3 (fun W => (W.cell? ⟨w.heap.size, 0, none⟩ = some (.int .i64 s) ∧ W.cell? ⟨w.heap.size, 1, none⟩ = some (.slice a (lim m).length c1) ∧ W.cell? ⟨w.heap.size, 2, none⟩ = some (.int .i64 x)) ∧ (W.cell? ⟨g, 0, none⟩ = some (.int .i64 24) ∧ W.cell? ⟨g, 1, none⟩ = some (.int .i64 (-149)) ∧ W.cell? ⟨g, 2, none⟩ = some (.int .i64 128)) ∧ Below W0.heap.size W0 W)
      (first | exact HK.out _ (by assumption))
      (first
      | (go_at_call 45; with_reducible refine (HLM.out _ (by assumption)).mono ?_; rintro e w4 ⟨rfl, rfl⟩))
    all_goals
      clear k1 k2 k3 k4 k5 k6 hb hbd
      obtain ⟨⟨k1, k2, k3⟩, ⟨k4, k5, k6⟩, hb⟩ := HK.out _ hTd
      go_wp2_with fail
      refine (HN.out _ hb).mono ?_
      rintro e w5 ⟨b5, d5, rfl, hc5, ho5, hb5, hb5'⟩
      have hTe := hTd.trans hb5'
      clear k1 k2 k3 k4 k5 k6 hb
      obtain ⟨⟨k1, k2, k3⟩, ⟨k4, k5, k6⟩, _⟩ := HK.out _ hTe
      go_wp2_with fail
      go_quiet ((go_at_call 45; exact (HLR.out _ _ _ (ho5.drewN _)).mono fun e w'' ⟨he, hm⟩ => ⟨he, _, hm.symm⟩))
      go_wp2_with fail
      refine (HG.out _ _ _ hc5 (ho5.drewN _) (below_drewN hb5 _)).mono ?_
      rintro e w7 ⟨b7, d7, rfl, ho7, hb7⟩
      have hTf : Below W0.heap.size W0 w7 := hb7
      clear hc5 ho5 hb5 hb5' hTe k1 k2 k3 k4 k5 k6
      go_wp2_with fail
      refine (HIO.out _ _ _ ho7 hb7).mono ?_
      rintro e w8 ⟨rfl, hb8⟩
      clear ho7 hb7 hTf
      go_wp2_with fail
      refine (HLD'.out _).mono ?_
      rintro e w9 ⟨rfl, rfl⟩
      obtain ⟨k1, k2, k3⟩ := SS.out _ hb8
      go_wp2_with fail
      refine (HCS.out _).mono ?_
      rintro e w10 ⟨rfl, rfl⟩
      go_wp2_with fail
      go_ret2
      exact ⟨rfl, HBE.out _ hb8⟩

set_option maxHeartbeats 1000000 in
theorem iFloatOfNarrow (s : Int) (a : Option Addr) (m c1 : Nat) (x q : Int) (r x0 y : Nat) (w : World) (B : Nat) (hB : B ≤ w.heap.size) (hx : Ints w B a (lim m)) (hd : IsDy s (lim m) x) (R : RoundedN s m x q r x0 y) (hTab : Tab w) :
    Calls Tryd.prog 13 #[.agg #[.int .i64 s, .slice a (lim m).length c1, .int .i64 x]] w (RetB (.tuple #[.float .f32 y, .int .i64 0]) w) := by
  have H := Lib.hid fun o => iNearestNarrow s a m c1 x q r x0 y (w.alloc o) B (by simp; omega) (hx.alloc hB o) hd R (hTab.alloc o)
  clear hx hTab hB hd R
  go_enter Tryd.func13, Tryd.ntmps13
  go_wp2_with (go_at_call 26; refine (H.out _).mono ?_; rintro e w' ⟨rfl, hb⟩)
  go_ret2
  exact ⟨rfl, ((Below.refl _ w).alloc (Nat.le_refl _) _).trans (hb.mono (by simp))⟩

end Go.Proofs.YtnnbfoemmgddeaaDoor
