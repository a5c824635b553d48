/-
  Contract: dividedBy. Conditions: the limbs can be read, the divisor is not 0.
-/
import Derived.Test.YtebkpaonmeokgaaWg
namespace Go.Proofs.Ytebkpaonmeokgaa
set_option linter.unusedVariables false
open Go Go.RowKit

/-- The division as it begins. -/
theorem divSt_start {w W' : World} {gr rc lq : Nat} {da : Option Addr} {dc : Nat} {D R : List Nat} {n : Nat} (hb : Below w.heap.size w W') (hr : RowI W' gr (ofN R)) (hn : R.length = n) :
    DivSt w w.heap.size W'.heap.size gr (W'.heap.size + 1) da dc lq rc D R (List.replicate lq 0)
      ((W'.alloc (.cells #[.slice da D.length dc, .slice (some ⟨W'.heap.size + 1, 0, none⟩) lq lq, .slice (some ⟨gr, 0, none⟩) n rc] 97)).alloc (.cells (madeCells #[.int .i64 0] lq) 2)) := by
  subst hn
  have hlt := hr.lt
  have h1 := (BoxAt.new W' 97 #[.slice da D.length dc, .slice (some ⟨W'.heap.size + 1, 0, none⟩) lq lq, .slice (some ⟨gr, 0, none⟩) R.length rc]).alloc (.cells (madeCells #[.int .i64 0] lq) 2)
  have h3 := RowI.made (W'.alloc (.cells #[.slice da D.length dc, .slice (some ⟨W'.heap.size + 1, 0, none⟩) lq lq, .slice (some ⟨gr, 0, none⟩) R.length rc] 97)) lq
  refine ⟨(hb.alloc (by exact hb.size) _).alloc (by have := hb.size; simp; omega) _, ?_, (hr.alloc _).alloc _, ?_⟩
  · rw [List.length_replicate]
    exact h1
  · rw [ofN_zeros]
    simpa using h3
theorem quietT {w : World} {a : Option Addr} {L : List Nat} {c B : Nat} (hx : Ints w B a (ofN L)) (hs : Small L) (hc : L.length ≤ c) (hc2 : c ≤ 9223372036854775807) (n : Nat) :
    Calls Try.prog 81 #[.slice a L.length c] (w.drewN n) fun e w'' => e = .returned (.slice a (dig (val L)).length c) ∧ ∃ m, w'' = w.drewN m :=
  (iTrimmed a L c (w.drewN n) B hx hs hc hc2).mono fun _ _ ⟨he, hm⟩ => ⟨he, n, hm.symm⟩
theorem quietT2 {w : World} {a : Option Addr} {L : List Nat} {c B : Nat} (hx : Ints w B a (ofN L)) (hs : Small L) (hc : L.length ≤ c) (hc2 : c ≤ 9223372036854775807) (q n : Nat) :
    Calls Try.prog 81 #[.slice a L.length c] (w.drewN (q + n)) fun e w'' => e = .returned (.slice a (dig (val L)).length c) ∧ ∃ m, w'' = w.drewN (q + m) :=
  (iTrimmed a L c (w.drewN (q + n)) B hx hs hc hc2).mono fun _ _ ⟨he, hm⟩ => ⟨he, n, hm.symm⟩

theorem OwnV.row1 {w : World} {lo : Nat} {v : Value} {xs : List Int} {z : Int} {n : Nat} (h : OwnV w lo v (xs ++ [z])) (hn : xs.length = n) : ∃ g c, v = .slice (some ⟨g, 0, none⟩) (n + 1) c ∧ n + 1 ≤ c ∧ c ≤ 9223372036854775807 ∧ lo ≤ g ∧ RowI w g (xs ++ [z]) := by
  obtain ⟨a, c, rfl, h1, h2, h3⟩ := h.parts
  rcases h3 with h3 | ⟨g, rfl, hg, hr⟩
  · simp at h3
  · exact ⟨g, c, by simp [hn], by simpa [hn] using h1, h2, hg, hr⟩
set_option maxRecDepth 100000 in
set_option maxHeartbeats 4000000 in
theorem iDivMany (a b : Option Addr) (m n c1 c2 : Nat) (w : World) (B C : Nat) (hB : B ≤ w.heap.size) (hC : C ≤ w.heap.size) (hx : Ints w B a (lim m)) (hy : Ints w C b (lim n)) (hl : (lim m).length ≤ 1048000) (hle : n ≤ m) (h2 : 2 ≤ (dig n).length) :
    Calls Try.prog 40 #[.slice a (lim m).length c1, .slice b (lim n).length c2] w (RetQR (m / n) (m % n) w) := by
  have hll : (lim n).length ≤ (lim m).length := lim_le_of_le hle
  have HCMP := Lib.hid (iMagCompare a b m n c1 c2 w B C hx hy (by omega) (by omega))
  have hcm : cmpZ (m : Int) (n : Int) = 0 ∨ cmpZ (m : Int) (n : Int) = 1 := by
    rcases Nat.lt_or_ge n m with h | h
    · right; exact cmpZ_gt (by omega)
    · left; exact cmpZ_eq (by omega)
  obtain ⟨z, hz⟩ : ∃ z, z = cmpZ (m : Int) (n : Int) := ⟨_, rfl⟩
  rw [← hz] at HCMP hcm
  have hz0 : decide (z < 0) = false := decide_eq_false (by omega)
  have HCL := Lib.hid (show ∀ W, Below w.heap.size w W → Calls Try.prog 78 #[.slice a (lim m).length c1] W fun e w' => ∃ v, e = .returned v ∧ OwnV w' w.heap.size v (lim m) ∧ Below w.heap.size w w' from
    fun W hW => (iCloneV a (lim m) c1 W B (by have := hW.size; omega) (by omega) (hx.below (hW.mono hB))).mono fun e w' ⟨v, he, ho, hb⟩ => ⟨v, he, ⟨ho.1, by
      rcases ho.2 with h | ⟨g, cap, cur, h1, h2, h3⟩
      · exact .inl h
      · exact .inr ⟨g, cap, cur, h1, Nat.le_trans hW.size h2, h3⟩⟩, hW.trans (hb.mono hW.size)⟩)
  obtain ⟨lm, hlm⟩ : ∃ lm, lm = (dig m).length := ⟨_, rfl⟩
  obtain ⟨D, hD⟩ : ∃ D, D = dig n := ⟨_, rfl⟩
  have hDl : (lim n).length = D.length := by rw [lim_length, hD]
  have hml : (lim m).length = lm := by rw [lim_length, hlm]
  rw [hDl, hml] at HCMP
  rw [hml] at HCL hl
  rw [hDl, hml] at hll ⊢
  rw [← hD] at h2
  have hy' : Ints w C b (ofN D) := by rw [hD]; exact hy
  have hND : Norm D := by rw [hD]; exact norm_dig n
  have hvD : val D = n := by rw [hD, val_dig]
  have HY := Lib.hid hy'
  have HND := Lib.hid hND
  have HVD := Lib.hid hvD
  have HDV := Lib.hid (divInv_start (M := m) hND h2 (by rw [← hlm]; exact hll))
  rw [← hlm] at HDV
  have hmk := mk_mag (lm - D.length + 1) (by omega)
  have e1 : (((lm - D.length + 1 : Nat)) : Int) = (lm : Int) - (D.length : Int) + 1 := by omega
  rw [e1] at hmk
  have HT := Lib.hid (Below.refl w.heap.size w)
  have HLM := Lib.hid (show lm = (dig m).length from hlm)
  have hlI : (lm : Int) ≤ 1048000 := by omega
  have hdI : (D.length : Int) ≤ (lm : Int) := by omega
  have hd2 : (2 : Int) ≤ (D.length : Int) := by omega
  have hne : ((D.length : Int) == 1) = false := beq_eq_false_iff_ne.2 (by omega)
  have HC := Lib.hid hC
  have H2 := Lib.hid h2
  have HLL := Lib.hid hll
  clear hx hy hl hle hz hcm hB hC hy' hND hvD hlm hD hDl hml e1 h2 hll
  go_enter Try.func40, Try.ntmps40
  go_wp2_with fail
  refine HCMP.out.mono ?_
  rintro e w1 ⟨k, rfl, rfl⟩
  go_wp2_with fail
  refine (HCL.out _ (below_drewN HT.out _)).mono ?_
  rintro e w2 ⟨v, rfl, hown, hb⟩
  have OW := Lib.hid hown
  have HB2 := Lib.hid hb
  have hs2 := hb.size
  clear hown hb
  go_wp2_with (at_builtin; refine wp_app1 rfl _ _ 54 rfl Try.underlying54 w2 (0 : Int) (by simp) w.heap.size _ (lim m) OW.out rfl rfl (by rw [lim_length, ← HLM.out]; omega) (by omega) ?_; intro v' w' hown hb hs; obtain ⟨gr, rc, rfl, hrc, hrc2, hgr, hrow⟩ := OwnV.row1 hown (show (lim m).length = lm by rw [lim_length, HLM.out]); have HROW := Lib.hid hrow; have HB3 := Lib.hid (hb w.heap.size (by omega) (Nat.le_refl _)); clear hown hb hrow)
  have hRl : (dig m ++ [0]).length = lm + 1 := by simp [HLM.out]
  have hst0 := divSt_start (lq := lm - D.length + 1) (rc := rc) (da := b) (dc := c2) (D := D) (R := dig m ++ [0]) (HB2.out.trans HB3.out) (by rw [ofN_append]; exact HROW.out) hRl
  have HST := Lib.hid hst0
  have hszw : w.heap.size ≤ w'.heap.size := (HB2.out.trans HB3.out).size
  have HGR := Lib.hid (show gr < w'.heap.size from HROW.out.lt)
  have HSZ := Lib.hid hszw
  have HGR0 := Lib.hid hgr
  have HRC := Lib.hid (show lm + 1 ≤ rc ∧ rc ≤ 9223372036854775807 from ⟨hrc, hrc2⟩)
  clear hst0 hRl OW HB2 HB3 HROW hgr hrc hrc2 HCL HCMP hmk
  go_loopw [9] (fun q wr => ∃ (k : Nat) (R Q : List Nat), k ≤ lm - D.length + 1 ∧ q = .int .i64 ((k : Int) - 1) ∧ Hid (DivInv m D lm R Q k) ∧ Hid (DivSt w w.heap.size w'.heap.size gr (w'.heap.size + 1) b c2 (lm - D.length + 1) rc D R Q wr)) (fun q _ => (intOf q + 1).toNat)
  case atStart => exact ⟨lm - D.length + 1, _, _, Nat.le_refl _, by congr 1; omega, HDV, HST⟩
  case round =>
    obtain ⟨k, R, Q, hk, rfl, hinv, hst⟩ := hrel
    by_cases hk0 : 0 < k
    · have hI : DivInv m D lm R Q ((k - 1) + 1) := by rw [show k - 1 + 1 = k by omega]; exact hinv.out
      have hiQ : k - 1 < Q.length := by rw [hI.ql]; omega
      obtain ⟨hat, hv1, hz⟩ := divInv_at hI HND.out H2.out HLL.out hiQ
      have hbel := hst.out.bel
      have hsz := hbel.size
      have hcall := iStep w w.heap.size w'.heap.size gr (w'.heap.size + 1) (k - 1) (val (R.drop (k - 1))) b c2 (lm - D.length + 1) rc D R Q wr hst.out ((HY.out.below (hbel.mono HC.out)).more HC.out) hsz HSZ.out HGR0.out (by have := HSZ.out; omega) (by have := HGR.out; omega) (by have := HGR.out; omega) (by omega) HND.out.1 hI.rs hat hiQ (by rw [hI.rl]; omega)
      have ek : (((k - 1 : Nat)) : Int) = (k : Int) - 1 := by omega
      rw [ek] at hcall
      have HCALL := Lib.hid hcall
      have HNXT := Lib.hid (fun R' s1 s2 s3 s4 => divInv_step (R' := R') hI HND.out H2.out HLL.out hiQ s1 s2 s3 s4)
      have hkI : (0 : Int) ≤ (k : Int) - 1 := by omega
      have hkb : (k : Int) ≤ 1048576 := by omega
      clear hcall hat hv1 hz hbel hI hiQ ek
      go_wp2_with fail
      refine HCALL.out.mono ?_
      rintro e w3 ⟨rfl, R', s1, s2, s3, s4, s5⟩
      have HIN := Lib.hid (HNXT.out R' s1 s2 s3 s4)
      have HS5 := Lib.hid s5
      clear s1 s2 s3 s4 s5
      go_wp2_with fail
      go_roundw
      case rel => exact ⟨k - 1, R', _, by omega, by congr 1; omega, HIN, HS5⟩
      case measure => simp [intOf]; omega
    · obtain rfl : k = 0 := by omega
      obtain ⟨d1, d2⟩ := divInv_end hinv.out
      rw [HVD.out] at d1 d2
      have hql := hinv.out.ql
      have hrl := hinv.out.rl
      have hqs := hinv.out.qs
      have hrs := hinv.out.rs
      have hbox := hst.out.box
      have hc1 := hbox.cell 1
      have hc2 := hbox.cell 2
      simp at hc1 hc2
      have HQ1 := Lib.hid (fun k => quietT (c := lm - D.length + 1) hst.out.quo.ints hqs (by omega) (by omega) k)
      have HQ2 := Lib.hid (fun q k => quietT2 (c := lm - D.length + 1) hst.out.quo.ints hqs (by omega) (by omega) q k)
      have HR1 := Lib.hid (fun k => quietT (c := rc) hst.out.row.ints hrs (by have := HRC.out; omega) HRC.out.2 k)
      have HR2 := Lib.hid (fun q k => quietT2 (c := rc) hst.out.row.ints hrs (by have := HRC.out; omega) HRC.out.2 q k)
      have HEND := Lib.hid (show ∀ j, RetQR (m / n) (m % n) w (.returned (.tuple #[.slice (some ⟨w'.heap.size + 1, 0, none⟩) (dig (val Q)).length (lm - D.length + 1), .slice (some ⟨gr, 0, none⟩) (dig (val R)).length rc])) (wr.drewN j) from fun j => by
        have hle := dig_length_val_le hqs
        have hle2 := dig_length_val_le hrs
        have hg := HGR.out
        have hs := HSZ.out
        have hg0 := HGR0.out
        rw [← d1, ← d2]
        refine ⟨_, _, _, _, by rw [lim_length (val Q), lim_length (val R)], by rw [lim_length]; omega, by rw [lim_length]; have := HRC.out; omega, Own.row ?_ (by omega), Own.row ?_ hg0, .inr (.inr (fun e => by simp at e; try omega)), below_drewN hst.out.bel _⟩
        · have := hst.out.quo.take (dig (val Q)).length
          rwa [ofN_take, take_dig_len hqs] at this
        · have := hst.out.row.take (dig (val R)).length
          rwa [ofN_take, take_dig_len hrs] at this)
      obtain ⟨uq, huq⟩ : ∃ u, u = (dig (val Q)).length := ⟨_, rfl⟩
      obtain ⟨ur, hur⟩ : ∃ u, u = (dig (val R)).length := ⟨_, rfl⟩
      rw [← huq] at HQ1 HQ2 HEND
      rw [← hur] at HR1 HR2 HEND
      clear hinv hst d1 d2 hqs hrs hbox hql hrl hk hk0 huq hur
      go_wp2
      go_quiet ((go_at_call 81; first | (with_reducible exact HQ1.out _) | (with_reducible exact HQ2.out _ _) | (with_reducible exact HR1.out _) | (with_reducible exact HR2.out _ _)))
      go_wp2_with fail
      go_ret2
      exact HEND.out _

set_option maxHeartbeats 1000000 in
/-- **dividedBy**, whatever the divisor but 0. -/
theorem iDividedBy (a b : Option Addr) (m n c1 c2 : Nat) (w : World) (B C : Nat) (hB : B ≤ w.heap.size) (hC : C ≤ w.heap.size) (hx : Ints w B a (lim m)) (hy : Ints w C b (lim n)) (hl : (lim m).length ≤ 1048000) (hl' : (lim n).length ≤ 1048000) (hn : n ≠ 0) :
    Calls Try.prog 40 #[.slice a (lim m).length c1, .slice b (lim n).length c2] w (RetQR (m / n) (m % n) w) := by
  by_cases hlt : m < n
  · exact iDivLess a b m n c1 c2 w B C hB hx hy hl hl' hlt
  · by_cases h1 : (dig n).length = 1
    · exact iDivOne a b m n c1 c2 w B C hB hC hx hy hl (by omega) h1
    · have := dig_length_pos hn
      exact iDivMany a b m n c1 c2 w B C hB hC hx hy hl (by omega) (by omega)
end Go.Proofs.Ytebkpaonmeokgaa
