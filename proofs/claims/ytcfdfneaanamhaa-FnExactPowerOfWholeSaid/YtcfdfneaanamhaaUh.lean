/-
  Contracts: PowerOfWhole of the program. Conditions: the limbs can be read.
-/
import Derived.Test.YtcfdfneaanamhaaUb
import Derived.Test.YtcfdfneaanamhaaUd
namespace Go.Proofs.Ytcfdfneaanamhaa
open Go Go.RowKit

/-- A number times z, and again, as long as it is not too long. -/
def powF (z : Int) (p : Int) : Nat → Int × List Int × Int
  | 0 => (p.sign, lim p.natAbs, 0)
  | n + 1 => if (lim (p * z).natAbs).length ≤ 200 then powF z (p * z) n else (0, [], 3)
theorem powF_yes {z p : Int} {n : Nat} (h : (lim (p * z).natAbs).length ≤ 200) : powF z p (n + 1) = powF z (p * z) n := by rw [powF, if_pos h]
theorem powF_no {z p : Int} {n : Nat} (h : 200 < (lim (p * z).natAbs).length) : powF z p (n + 1) = (0, [], 3) := by rw [powF, if_neg (by omega)]
theorem powF_len (z : Int) (n : Nat) : ∀ p : Int, (lim p.natAbs).length ≤ 200 → (powF z p n).2.1.length ≤ 200 := by
  induction n with
  | zero => intro p h; exact h
  | succ n ih =>
    intro p h
    by_cases h1 : (lim (p * z).natAbs).length ≤ 200
    · rw [powF_yes h1]; exact ih _ h1
    · rw [powF_no (by omega)]; simp
noncomputable def powR (s : Int) (xs : List Int) (k : Int) : Int × List Int × Int := @ite _ (IsWh s xs) (Classical.propDecidable _) (if 0 ≤ k ∧ k ≤ 200 then powF (wv s xs) 1 k.toNat else (0, [], 2)) (0, [], 1)
theorem powR_yes {s : Int} {xs : List Int} (h : IsWh s xs) {k : Nat} (hk : k ≤ 200) : powR s xs k = powF (wv s xs) 1 k := by unfold powR; rw [if_pos h, if_pos (by omega)]; simp
theorem powR_range {s : Int} {xs : List Int} (h : IsWh s xs) {k : Int} (hk : k < 0 ∨ 200 < k) : powR s xs k = (0, [], 2) := by unfold powR; rw [if_pos h, if_neg (by omega)]
theorem powR_no {s : Int} {xs : List Int} (h : ¬ IsWh s xs) {k : Int} : powR s xs k = (0, [], 1) := by unfold powR; rw [if_neg h]
theorem dig_one : dig 1 = [1] := by rw [dig_pos (by omega)]; simp [dig_zero]
theorem lim_one : lim 1 = [1] := by rw [lim, dig_one]; rfl
theorem powR_len (s : Int) (xs : List Int) (k : Int) : (powR s xs k).2.1.length ≤ 200 := by
  unfold powR
  split
  · split
    · exact powF_len _ _ _ (by rw [show (1 : Int).natAbs = 1 from rfl, lim_one]; simp)
    · simp
  · simp
theorem retWC_zero2 {w W0 W : World} (code : Int) (P3 : Below w.heap.size w W0) (P4 : W0.heap.size = w.heap.size + 2) (hb : Below W0.heap.size W0 W) (u v : Value) :
    RetWC (0, [], code) w.heap.size w (.returned (.tuple #[.agg #[.int .i64 0, .slice none 0 0], .int .i64 code])) ((W.setCell ⟨w.heap.size + 1, 0, none⟩ u).setCell ⟨w.heap.size + 1, 1, none⟩ v) :=
  ⟨none, 0, rfl, Nat.le_refl _, .inl rfl, ((P3.trans (hb.mono (by omega))).setCell (by simp <;> omega) _).setCell (by simp <;> omega) _⟩
theorem retWC_end2 {w W0 W : World} {r : Int × List Int × Int} {a : Option Addr} {c : Nat} (P3 : Below w.heap.size w W0) (P4 : W0.heap.size = w.heap.size + 2) (hb : Below W0.heap.size W0 W) (u v : Value) (ho : Own W W0.heap.size a r.2.1) (hc : r.2.1.length ≤ c) :
    RetWC r w.heap.size w (.returned (.tuple #[.agg #[.int .i64 r.1, .slice a r.2.1.length c], .int .i64 r.2.2])) ((W.setCell ⟨w.heap.size + 1, 0, none⟩ u).setCell ⟨w.heap.size + 1, 1, none⟩ v) :=
  ⟨a, c, rfl, hc, ((ho.setFar (by simp; omega) _).setFar (by simp; omega) _).mono (by omega), ((P3.trans (hb.mono (by omega))).setCell (by simp <;> omega) _).setCell (by simp <;> omega) _⟩
/-- The power so far, in its variable. -/
structure PowAt (w : World) (lo g : Nat) (p : Int) (a : Option Addr) (c : Nat) : Prop where
  len : (lim p.natAbs).length ≤ 200
  fit : (lim p.natAbs).length ≤ c
  own : Own w lo a (lim p.natAbs)
  box : BoxAt w g 26 #[.int .i64 p.sign, .slice a (lim p.natAbs).length c]
theorem PowAt.below {w w' : World} {lo g : Nat} {p : Int} {a : Option Addr} {c : Nat} (h : PowAt w lo g p a c) (hb : Below w.heap.size w w') : PowAt w' lo g p a c := ⟨h.len, h.fit, h.own.below hb, h.box.below hb⟩
theorem PowAt.start (w : World) : PowAt ((w.alloc (.cells #[.int .i64 1] 2)).alloc (.cells #[.int .i64 1, .slice (some ⟨w.heap.size, 0, none⟩) 1 1] 26)) w.heap.size (w.heap.size + 1) 1 (some ⟨w.heap.size, 0, none⟩) 1 := by
  have e : lim (1 : Int).natAbs = [1] := lim_one
  refine ⟨by rw [e]; simp, by rw [e]; simp, ?_, ?_⟩
  · rw [e]
    refine .inr ⟨w.heap.size, rfl, Nat.le_refl _, RowI.alloc ⟨_, heap_alloc_new w _, fun i hi => ?_⟩ _⟩
    have : i = 0 := by simp at hi; omega
    subst this
    rfl
  · rw [e]
    have := BoxAt.new (w.alloc (.cells #[.int .i64 1] 2)) 26 #[.int .i64 1, .slice (some ⟨w.heap.size, 0, none⟩) 1 1]
    simpa using this
theorem PowAt.set_ {w w' : World} {lo g : Nat} {p q : Int} {a a' : Option Addr} {c c' : Nat} (h : PowAt w lo g p a c) (hb : Below w.heap.size w w') (hlo : lo ≤ w.heap.size) (hl : (lim q.natAbs).length ≤ 200) (hc : (lim q.natAbs).length ≤ c') (ho : Own w' w.heap.size a' (lim q.natAbs)) :
    PowAt ((w'.setCell ⟨g, 0, none⟩ (.int .i64 q.sign)).setCell ⟨g, 1, none⟩ (.slice a' (lim q.natAbs).length c')) lo g q a' c' := by
  have hg := h.box.lt
  refine ⟨hl, hc, ((ho.setFar (by simpa using hg) _).setFar (by simpa using hg) _).mono hlo, ?_⟩
  have := ((h.box.below hb).set_ 0 (.int .i64 q.sign)).set_ 1 (.slice a' (lim q.natAbs).length c')
  simpa using this

set_option maxRecDepth 100000 in
set_option maxHeartbeats 4000000 in
theorem iPowerOfWhole (s : Int) (a : Option Addr) (xs : List Int) (c1 : Nat) (k : Int) (w : World) (B : Nat) (hB : B ≤ w.heap.size) (hx : Ints w B a xs) (hl : xs.length ≤ 9223372036854775807) :
    Calls Try.prog 47 #[.agg #[.int .i64 s, .slice a xs.length c1], .int .i64 k] w (RetWC (powR s xs k) w.heap.size w) := by
  obtain ⟨W0, hW0⟩ : ∃ W0 : World, (w.alloc (.cells #[.int .i64 s, .slice a xs.length c1] 26)).alloc (.cells #[.int .i64 0, .slice none 0 0] 26) = W0 := ⟨_, rfl⟩
  obtain ⟨p1, p2, p3, p4⟩ := two_box w 26 #[.int .i64 s, .slice a xs.length c1] #[.int .i64 0, .slice none 0 0]
  rw [hW0] at p1 p2 p3 p4
  have HW0 := Lib.hid hW0
  have P3 := Lib.hid p3
  have P4 := Lib.hid p4
  have SS := Lib.hid (show ∀ W, Below W0.heap.size W0 W → (W.cell? ⟨w.heap.size, 0, none⟩ = some (.int .i64 s) ∧ W.cell? ⟨w.heap.size, 1, none⟩ = some (.slice a xs.length c1)) from
    fun W hW => ⟨(p1.below hW).cell 0, (p1.below hW).cell 1⟩)
  have SR := Lib.hid (show ∀ W, Below W0.heap.size W0 W → (W.cell? ⟨w.heap.size + 1, 0, none⟩ = some (.int .i64 0) ∧ W.cell? ⟨w.heap.size + 1, 1, none⟩ = some (.slice none 0 0) ∧ W.frozen? ⟨w.heap.size + 1, 0, none⟩ = false ∧ W.frozen? ⟨w.heap.size + 1, 1, none⟩ = false) from
    fun W hW => (p2.below hW).two)
  have hT : Below W0.heap.size W0 W0 := Below.refl _ _
  have IX := Lib.hid (show ∀ W, Below W0.heap.size W0 W → Ints W B a xs ∧ B ≤ W.heap.size from fun W hW => ⟨hx.below ((p3.mono hB).trans (hW.mono (by omega))), by have := hW.size; omega⟩)
  have HI := Lib.hid (show ∀ W, Below W0.heap.size W0 W → Calls Try.prog 22 #[.agg #[.int .i64 s, .slice a xs.length c1]] W fun e w' => e = .returned (.bool (whB s xs)) ∧ Below W0.heap.size W0 w' from
    fun W hW => (iIsWhole s a xs c1 W B (IX.out W hW).2 hl (IX.out W hW).1).mono fun e w' ⟨he, hb⟩ => ⟨he, hW.trans (hb.mono hW.size)⟩)
  cases h1 : whB s xs
  · rw [powR_no (fun h => by rw [whB_iff.2 h] at h1; cases h1)]
    rw [h1] at HI
    clear p1 p2 p3 p4 hx hW0 hB h1 hl IX
    go_enter Try.func47, Try.ntmps47
    go_wp2_with fail
    rw [HW0.out]
    refine (HI.out _ hT).mono ?_
    rintro e w1 ⟨rfl, hb⟩
    obtain ⟨q1, q2, q3, q4⟩ := SR.out _ hb
    go_wp2_with fail
    refine bodyPost_ret (v := .tuple #[.agg #[.int .i64 0, .slice none 0 0], .int .i64 1]) (by simp [results, Try.results47, go_sem, *]) rfl ?_
    exact retWC_zero2 1 P3.out P4.out hb _ _
  · have e1 := Lib.hid (whB_iff.1 h1)
    rw [h1] at HI
    clear h1
    by_cases hk0 : k < 0
    · rw [powR_range e1.out (.inl hk0)]
      clear p1 p2 p3 p4 hx hW0 hB hl IX
      go_enter Try.func47, Try.ntmps47
      go_wp2_with fail
      rw [HW0.out]
      refine (HI.out _ hT).mono ?_
      rintro e w1 ⟨rfl, hb⟩
      obtain ⟨q1, q2, q3, q4⟩ := SR.out _ hb
      go_wp2_with fail
      refine bodyPost_ret (v := .tuple #[.agg #[.int .i64 0, .slice none 0 0], .int .i64 2]) (by simp [results, Try.results47, go_sem, *]) rfl ?_
      exact retWC_zero2 2 P3.out P4.out hb _ _
    · by_cases hk2 : 200 < k
      · rw [powR_range e1.out (.inr hk2)]
        have hd0 : decide (k < 0) = false := decide_eq_false hk0
        clear p1 p2 p3 p4 hx hW0 hB hl IX hk0
        go_enter Try.func47, Try.ntmps47
        go_wp2_with fail
        rw [HW0.out]
        refine (HI.out _ hT).mono ?_
        rintro e w1 ⟨rfl, hb⟩
        obtain ⟨q1, q2, q3, q4⟩ := SR.out _ hb
        go_wp2_with fail
        refine bodyPost_ret (v := .tuple #[.agg #[.int .i64 0, .slice none 0 0], .int .i64 2]) (by simp [results, Try.results47, go_sem, *]) rfl ?_
        exact retWC_zero2 2 P3.out P4.out hb _ _
      · obtain ⟨K, rfl⟩ := Int.eq_ofNat_of_zero_le (show 0 ≤ k by omega)
        have hK : K ≤ 200 := by omega
        rw [powR_yes e1.out hK]
        obtain ⟨m, rfl, hm, sm⟩ := isWh_of e1.out
        rw [wv_lim]
        have HT := Lib.hid (show ∀ (p : Int) (b : Option Addr) (d : Nat) W, Below W0.heap.size W0 W → (lim p.natAbs).length ≤ 200 → Ints W W.heap.size b (lim p.natAbs) → Calls Try.prog 63 #[.agg #[.int .i64 p.sign, .slice b (lim p.natAbs).length d], .agg #[.int .i64 s, .slice a (lim m).length c1]] W (RetZ (p * (s * m)) W) from
          fun p b d W hW h1 h2 => by
            have := iWTimes p.sign s b a p.natAbs m d c1 W W.heap.size B (Nat.le_refl _) (IX.out W hW).2 h2 (IX.out W hW).1 (Sg.of p) sm (by omega) (by omega)
            rw [Int.sign_mul_natAbs] at this
            exact this)
        obtain ⟨z, hz⟩ : ∃ z, z = s * (m : Int) := ⟨_, rfl⟩
        rw [← hz] at HT ⊢
        obtain ⟨⟨r1, r2, r3⟩, hr⟩ : ∃ r, r = powF z 1 K := ⟨_, rfl⟩
        rw [← hr]
        have HR := Lib.hid hr.symm
        have hKI : (K : Int) ≤ 200 := by omega
        have hd0 : decide ((K : Int) < 0) = false := decide_eq_false hk0
        have hd2 : decide (200 < (K : Int)) = false := decide_eq_false hk2
        clear p1 p2 p3 p4 hx hW0 hB hl IX hk0 hk2 hz hr sm hm e1 hK
        go_enter Try.func47, Try.ntmps47
        go_wp2_with fail
        rw [HW0.out]
        refine (HI.out _ hT).mono ?_
        rintro e w1 ⟨rfl, hb⟩
        have HB1 := Lib.hid hb
        clear hb
        go_wp2_with fail
        clear hd0 hd2
        have P4' := P4.out
        have hs1 := HB1.out.size
        go_loopw [21] (fun q wr => ∃ (j : Nat) (p : Int) (b : Option Addr) (d : Nat), q = .int .i64 j ∧ j ≤ K ∧ Hid (powF z p (K - j) = (r1, r2, r3)) ∧ PowAt wr w1.heap.size (w1.heap.size + 1) p b d ∧ Below w1.heap.size w1 wr) (fun q _ => K - (intOf q).toNat)
        case atStart => exact ⟨0, 1, _, _, rfl, Nat.zero_le _, HR, PowAt.start w1, ((Below.refl _ _).alloc (Nat.le_refl _) _).alloc (by simp) _⟩
        case round =>
          obtain ⟨j, p, b, d, rfl, hj, hf, hpow, hbel⟩ := hrel
          have HP := Lib.hid hpow
          have HB2 := Lib.hid (HB1.out.trans (hbel.mono hs1))
          have HBL := Lib.hid hbel
          have hs2 := hbel.size
          clear hpow hbel
          obtain ⟨y1, y2, y3, y4⟩ := HP.out.box.two
          by_cases hjK : j < K
          · have hjI : (j : Int) < (K : Int) := by omega
            obtain ⟨k1, k2⟩ := SS.out _ HB2.out
            have hf2 : powF z p ((K - (j + 1)) + 1) = (r1, r2, r3) := by rw [show K - (j + 1) + 1 = K - j by omega]; exact hf.out
            have HF := Lib.hid hf2
            clear hf2 hf
            go_wp2_with fail
            refine (HT.out p b d _ HB2.out HP.out.len HP.out.own.ints).mono ?_
            rintro e w2 ⟨b2, d2, rfl, hd2, ho2, hb2⟩
            obtain ⟨y, hy⟩ : ∃ y, y = p * z := ⟨_, rfl⟩
            rw [← hy] at hd2 ho2 ⊢
            have HY := Lib.hid hy
            have hs3 := hb2.size
            have HB3 := Lib.hid (HB2.out.trans (hb2.mono HB2.out.size))
            have HBL3 := Lib.hid (HBL.out.trans (hb2.mono HBL.out.size))
            have HD2 := Lib.hid hd2
            by_cases hfit : (lim y.natAbs).length ≤ 200
            · have HP2 := Lib.hid (HP.out.set_ hb2 hs2 hfit hd2 ho2)
              obtain ⟨x1, x2, x3, x4⟩ := HP2.out.box.two
              obtain ⟨z1, z2, z3, z4⟩ := (HP.out.box.below hb2).two
              have hdf : decide (200 < ((lim y.natAbs).length : Int)) = false := decide_eq_false (by omega)
              have hF2 := HF.out
              rw [powF_yes (by rw [← hy]; exact hfit), ← hy] at hF2
              have HF2 := Lib.hid hF2
              clear hy hd2 ho2 hb2 hfit y1 y2 y3 y4 hF2 HF k1 k2
              go_wp2_with fail
              go_roundw
              case rel => exact ⟨j + 1, y, b2, d2, by go_num, by omega, HF2.out, HP2.out, (HBL3.out.setCell (by simp <;> omega) _).setCell (by simp <;> omega) _⟩
              case measure => simp [intOf]; omega
            · have hF2 := HF.out
              rw [powF_no (by rw [← hy]; omega)] at hF2
              simp only [Prod.mk.injEq] at hF2
              obtain ⟨rfl, rfl, rfl⟩ := hF2
              have hdf : 200 < ((lim y.natAbs).length : Int) := by omega
              obtain ⟨z1, z2, z3, z4⟩ := (HP.out.box.below hb2).two
              have HB4 := Lib.hid (show Below W0.heap.size W0 ((w2.setCell ⟨w1.heap.size + 1, 0, none⟩ (.int .i64 y.sign)).setCell ⟨w1.heap.size + 1, 1, none⟩ (.slice b2 (lim y.natAbs).length d2)) from
                (HB3.out.setCell (by simp <;> omega) _).setCell (by simp <;> omega) _)
              obtain ⟨q1, q2, q3, q4⟩ := SR.out _ HB4.out
              clear hy hd2 ho2 hb2 hfit y1 y2 y3 y4 HF k1 k2
              go_wp2_with fail
              refine bodyPost_ret (v := .tuple #[.agg #[.int .i64 0, .slice none 0 0], .int .i64 3]) (by simp [results, Try.results47, go_sem, *]) rfl ?_
              exact retWC_zero2 3 P3.out P4.out HB4.out _ _
          · obtain rfl : j = K := by omega
            have hF := hf.out
            rw [Nat.sub_self, powF] at hF
            simp only [Prod.mk.injEq] at hF
            obtain ⟨rfl, rfl, rfl⟩ := hF
            obtain ⟨q1, q2, q3, q4⟩ := SR.out _ HB2.out
            have HO := Lib.hid (HP.out.own.mono (show W0.heap.size ≤ w1.heap.size from hs1))
            clear hf hjK
            go_wp2_with fail
            refine bodyPost_ret (v := .tuple #[.agg #[.int .i64 p.sign, .slice b (lim p.natAbs).length d], .int .i64 0]) (by simp [results, Try.results47, go_sem, *]) rfl ?_
            exact retWC_end2 (r := (p.sign, lim p.natAbs, 0)) P3.out P4.out HB2.out _ _ HO.out HP.out.fit
end Go.Proofs.Ytcfdfneaanamhaa
