/-
  Contract: l02Text of the model. Conditions: the limbs can be read.
-/
import Derived.Test.YtpchcigpppdfiaaDoorTy
import Derived.Test.YtpchcigpppdfiaaDoorTa
import Derived.Test.YtpchcigpppdfiaaDoorUl
namespace Go.Proofs.YtpchcigpppdfiaaDoor
set_option linter.unusedVariables false
open Go Go.RowKit

/-- A text from its bytes. -/
def btx (l : List UInt8) : ByteArray := ⟨l.toArray⟩
theorem btx_size (l : List UInt8) : (btx l).size = l.length := by simp [btx, ByteArray.size]
theorem btx_app (a b : List UInt8) : btx a ++ btx b = btx (a ++ b) := by
  apply ByteArray.ext
  simp [btx, ByteArray.data_append]
theorem btx_cons (x : UInt8) (b : List UInt8) : ({ data := #[x] } : ByteArray) ++ btx b = btx (x :: b) := btx_app [x] b
def strL : Value → Nat
  | .string b => b.size
  | _ => 0
def slcL : Value → Nat
  | .slice _ n _ => n
  | _ => 0
/-- The text so far, behind the number that is left. -/
structure TextAt (m V : Nat) (T : List UInt8) : Prop where
  more : 0 < V → decT m = decT V ++ T
  last : V = 0 → decT m = T
theorem TextAt.start {m : Nat} (h : m ≠ 0) : TextAt m m [] := ⟨fun _ => by simp, fun h' => absurd h' h⟩
theorem TextAt.len {m V : Nat} {T : List UInt8} (h : TextAt m V T) : T.length ≤ nd m ∧ (0 < V → T.length + 1 ≤ nd m) := by
  rw [← decT_length m]
  rcases Nat.eq_zero_or_pos V with h0 | h0
  · rw [h.last h0]; exact ⟨Nat.le_refl _, fun h => absurd h (by omega)⟩
  · have := nd_pos V
    rw [h.more h0, List.length_append, decT_length]
    exact ⟨by omega, fun _ => by omega⟩
theorem TextAt.step {m V : Nat} {T : List UInt8} (h : TextAt m V T) (h0 : 0 < V) (P : List UInt8)
    (hP : (V / 10000000 = 0 → P = decT (V % 10000000)) ∧ (0 < V / 10000000 → P = pad 7 (V % 10000000))) : TextAt m (V / 10000000) (P ++ T) := by
  have h1 := h.more h0
  refine ⟨fun hq => ?_, fun hq => ?_⟩
  · rw [h1, hP.2 hq, decT_split (k := 7) (n := V) (by omega), show (10 : Nat) ^ 7 = 10000000 from rfl, List.append_assoc]
  · rw [h1, hP.1 hq, Nat.mod_eq_of_lt (by omega)]
theorem pow_base (n : Nat) : 16777216 ^ n ≤ 10 ^ (8 * n) := by
  rw [Nat.pow_mul]
  exact Nat.pow_le_pow_left (by omega) n
theorem nd_lim {m : Nat} (hl : (lim m).length ≤ 200) : nd m ≤ 1601 := by
  have h1 := val_lt (small_dig m)
  rw [val_dig, ← lim_length] at h1
  have h2 := Nat.lt_of_lt_of_le h1 (pow_base _)
  have h3 := nd_le (k := 8 * (lim m).length) (Nat.lt_of_lt_of_le h2 (Nat.pow_le_pow_right (by omega) (by omega)))
  omega
/-- A row that is divided in place. -/
def mix (L Q : List Nat) (k : Nat) : List Nat := L.take k ++ Q.drop k
theorem mix_start {L Q : List Nat} (h : Q.length = L.length) : mix L Q L.length = L := by
  unfold mix
  rw [List.take_length, List.drop_eq_nil_of_le (by omega), List.append_nil]
theorem mix_zero (L Q : List Nat) : mix L Q 0 = Q := rfl
theorem mix_length {L Q : List Nat} {k : Nat} (h : Q.length = L.length) : (mix L Q k).length = L.length := by
  unfold mix
  rw [List.length_append, List.length_take, List.length_drop]
  omega
theorem mix_get {L Q : List Nat} {k : Nat} (hk : k < L.length) (h : k < (mix L Q (k + 1)).length) : (mix L Q (k + 1))[k] = L[k] := by
  unfold mix at h ⊢
  rw [List.getElem_append_left (by rw [List.length_take]; omega), List.getElem_take]
theorem mix_set {L Q : List Nat} {k : Nat} (hk : k < L.length) (h : Q.length = L.length) (q : Nat) : (mix L Q (k + 1)).set k q = mix L (Q.set k q) k := by
  apply List.ext_getElem
  · simp [mix]; omega
  · intro i h1 h2
    unfold mix at h1 h2 ⊢
    rw [List.getElem_set, List.getElem_append, List.getElem_append]
    simp only [List.length_take, List.getElem_take, List.getElem_drop, List.getElem_set]
    rcases Nat.lt_trichotomy i k with hi | hi | hi
    · rw [if_neg (by omega), dif_pos (by omega), dif_pos (by omega)]
    · subst hi
      rw [if_pos rfl, dif_neg (by omega), if_pos (by omega)]
    · rw [if_neg (by omega), dif_neg (by omega), dif_neg (by omega), if_neg (by omega)]
      congr 1
      omega
/-- A whole number's text. -/
def wtx (s : Int) (m : Nat) : List UInt8 := if s < 0 then 45 :: decT m else decT m

/-- The number of limbs goes down with the number. -/
theorem dig_len_mono {q n : Nat} (h : q ≤ n) : (dig q).length ≤ (dig n).length := by
  rcases Nat.eq_zero_or_pos q with h0 | h0
  · subst h0; rw [dig_zero]; exact Nat.zero_le _
  · have := dig_length_val_le (small_dig n) 
    have h1 := val_lt (small_dig n)
    rw [val_dig] at h1
    rcases Nat.lt_or_ge (dig n).length (dig q).length with hl | hl
    · exfalso
      have h2 := norm_dig q
      have h3 := dig_length_le (Nat.lt_of_le_of_lt h h1)
      omega
    · exact hl

set_option maxRecDepth 100000 in
set_option maxHeartbeats 4000000 in
theorem sText (s : Int) (a : Option Addr) (m c : Nat) (w : World) (B : Nat) (hB : B ≤ w.heap.size) (hx : Ints w B a (lim m)) (hs : Sg s m) (hl : (lim m).length ≤ 200) :
    Calls Tryd.prog 39 #[.agg #[.int .i64 s, .slice a (lim m).length c]] w (RetB (.string (btx (wtx s m))) w) := by
  obtain ⟨W0, hW0⟩ : ∃ W0 : World, w.alloc (.cells #[.int .i64 s, .slice a (lim m).length c] 26) = W0 := ⟨_, rfl⟩
  obtain ⟨p1, p3, p4⟩ := one_box w 26 #[.int .i64 s, .slice a (lim m).length c]
  rw [hW0] at p1 p3 p4
  have HW0 := Lib.hid hW0
  have P3 := Lib.hid p3
  have HEND := Lib.hid (show ∀ W, Below W0.heap.size W0 W → Below w.heap.size w W from fun W hW => p3.trans (hW.mono (by omega)))
  have SS := Lib.hid (show ∀ W, Below W0.heap.size W0 W → (W.cell? ⟨w.heap.size, 0, none⟩ = some (.int .i64 s) ∧ W.cell? ⟨w.heap.size, 1, none⟩ = some (.slice a (lim m).length c)) from
    fun W hW => ⟨(p1.below hW).cell 0, (p1.below hW).cell 1⟩)
  by_cases hm : m = 0
  · obtain rfl : s = 0 := by unfold Sg at hs; omega
    subst hm
    have e : btx (wtx 0 0) = { data := #[48] } := by
      unfold wtx
      rw [if_neg (by omega), decT_small (by omega)]
      rfl
    rw [e]
    obtain ⟨k1, k2⟩ := SS.out _ (Below.refl _ _)
    clear p1 p3 p4 hx hl hs hW0 hB e
    go_enter Tryd.func39, Tryd.ntmps39
    go_wp2_with fail
    rw [HW0.out]
    go_wp2_with fail
    go_ret
    exact ⟨rfl, P3.out⟩
  · have hs0 : (s == 0) = false := beq_eq_false_iff_ne.2 (by unfold Sg at hs; omega)
    have HOW := Lib.hid (sOwn a (lim m) c W0 B (by omega) (by omega) (hx.below (p3.mono hB)))
    have ND := Lib.hid (nd_lim hl)
    have HL := Lib.hid hl
    have HT0 := Lib.hid (TextAt.start hm)
    obtain ⟨k1, k2⟩ := SS.out _ (Below.refl _ _)
    obtain ⟨lm, hlm⟩ : ∃ lm, lm = (lim m).length := ⟨_, rfl⟩
    have HLM := Lib.hid hlm
    rw [← hlm] at HW0 SS HOW k2 ⊢
    clear p1 p3 p4 hx hl hs hW0 hB hm hlm
    go_enter Tryd.func39, Tryd.ntmps39
    go_wp2_with fail
    rw [HW0.out]
    go_wp2_with fail
    refine HOW.out.mono ?_
    rintro e w2 ⟨a2, c2, rfl, hc2, hown2, hbel2⟩
    have HC2 := Lib.hid hc2
    have HO2 := Lib.hid hown2
    have HB2 := Lib.hid hbel2
    clear hc2 hown2 hbel2 k1 k2 HOW
    go_wp2_with fail
    go_loopw [3, 4] (fun t v wr => ∃ (V : Nat) (T : List UInt8) (a' : Option Addr) (c' : Nat), t = .string (btx T) ∧ v = .slice a' (lim V).length c' ∧ Hid (TextAt m V T) ∧ Hid (Own wr W0.heap.size a' (lim V)) ∧ Hid (Below W0.heap.size W0 wr) ∧ Hid ((lim V).length ≤ 200 ∧ (lim V).length ≤ c')) (fun t _ _ => 1700 - strL t)
    case atStart => exact ⟨m, [], a2, c2, rfl, rfl, HT0, HO2, HB2, Lib.hid ⟨HL.out, HC2.out⟩⟩
    case round =>
      clear HT0 HO2 HB2 HC2
      obtain ⟨V, T, a', c', rfl, rfl, hta, hown, hbel, hlc⟩ := hrel
      by_cases hV : V = 0
      · subst hV
        rw [lim_len_zero.2 rfl]
        obtain ⟨k1, k2⟩ := SS.out _ hbel.out
        have HB := hbel
        have HTL := Lib.hid (hta.out.last rfl)
        have hTb : (btx T).size ≤ 1700 := by rw [btx_size]; have := hta.out.len; have := ND.out; omega
        have hno : ¬ (9223372036854775807 < 1 + (btx T).size) := by omega
        have hcat := btx_cons 45 T
        clear hta hown hlc hbel hTb k2
        by_cases hsn : s < 0
        · have HEQ := Lib.hid (show btx (wtx s m) = btx (45 :: T) from by unfold wtx; rw [if_pos hsn, HTL.out])
          go_wp2_with fail
          go_ret
          exact ⟨by rw [HEQ.out]; rfl, HEND.out _ HB.out⟩
        · have HEQ := Lib.hid (show btx (wtx s m) = btx T from by unfold wtx; rw [if_neg hsn, HTL.out])
          have hsn' : decide (s < 0) = false := decide_eq_false hsn
          go_wp2_with fail
          go_ret
          exact ⟨by rw [HEQ.out]; rfl, HEND.out _ HB.out⟩
      · have hV0 : 0 < V := by omega
        obtain ⟨g, rfl, hg, hrow⟩ : ∃ g, a' = some ⟨g, 0, none⟩ ∧ W0.heap.size ≤ g ∧ RowI wr g (lim V) := by
          rcases hown.out with h | h
          · exfalso
            have := lim_len_zero.1 (by rw [h]; rfl : (lim V).length = 0)
            omega
          · exact h
        obtain ⟨n, hn⟩ : ∃ n, n = (lim V).length := ⟨_, rfl⟩
        have hnd : (dig V).length = n := by rw [hn, lim_length]
        have HN := Lib.hid (show n ≤ 200 ∧ n ≤ c' ∧ 0 < n from ⟨by have := hlc.out.1; omega, by have := hlc.out.2; omega, by rw [← hnd]; exact dig_length_pos hV⟩)
        have HND := Lib.hid hnd
        have HG := Lib.hid hg
        have HV := Lib.hid hV0
        have HR0 := Lib.hid (show RowI wr g (ofN (mix (dig V) (List.replicate n 0) n)) from by rw [← hnd, mix_start (by simp)]; exact hrow)
        have HP0 := Lib.hid (show PartInv (dig V) 10000000 (List.replicate n 0) n 0 from by rw [← hnd]; exact partInv_start _ (by omega))
        have HMIX := hta
        have hn0 : (0 : Int) < (n : Int) := by have := HN.out; omega
        have hnI : (n : Int) ≤ 200 := by have := HN.out; omega
        rw [← hn]
        clear hown hrow hg hlc hnd hn hV hV0
        go_wp2_with fail
        go_loopw [6, 5] (fun i r wq => ∃ (k rr : Nat) (Q : List Nat), k ≤ n ∧ i = .int .i64 ((k : Int) - 1) ∧ r = .int .i64 (rr : Int) ∧ Hid (PartInv (dig V) 10000000 Q k rr) ∧ Hid (RowI wq g (ofN (mix (dig V) Q k))) ∧ Hid (Below W0.heap.size W0 wq)) (fun i _ _ => (intOf i + 1).toNat)
        case atStart => exact ⟨n, 0, _, Nat.le_refl _, rfl, rfl, HP0, HR0, hbel⟩
        case round =>
          clear HP0 HR0 hbel
          obtain ⟨k, rr, Q, hk, rfl, rfl, hinv, hrw, hb⟩ := hrel
          by_cases hk0 : 0 < k
          · obtain ⟨j, rfl⟩ : ∃ j, k = j + 1 := ⟨k - 1, by omega⟩
            have hjd : j < (dig V).length := by rw [HND.out]; omega
            have hQl := hinv.out.len
            obtain ⟨hst, hqb⟩ := partInv_step hinv.out hjd (small_dig V)
            obtain ⟨x, hxk⟩ : ∃ x : Nat, x = (dig V)[j] := ⟨_, rfl⟩
            have hjm : j < (ofN (mix (dig V) Q (j + 1))).length := by rw [ofN_length, mix_length hQl]; exact hjd
            have h2 := hrw.out.cell j hjm
            rw [ofN_at, mix_get hjd, ← hxk] at h2
            have h3 := hrw.out.frozen j
            rw [← hxk] at hst hqb
            have hxb : x < 16777216 := by rw [hxk]; exact small_dig V j hjd
            have hrb := hinv.out.rest
            obtain ⟨q, hq⟩ : ∃ q, q = (rr * 16777216 + x) / 10000000 := ⟨_, rfl⟩
            obtain ⟨r', hr'⟩ : ∃ r', r' = (rr * 16777216 + x) % 10000000 := ⟨_, rfl⟩
            rw [← hq] at hst hqb
            rw [← hr'] at hst
            have hqI : Int.tdiv ((rr : Int) * 16777216 + (x : Int)) 10000000 = (q : Int) := by rw [Int.tdiv_eq_ediv_of_nonneg (by omega), hq]; omega
            have hmI : Int.tmod ((rr : Int) * 16777216 + (x : Int)) 10000000 = (r' : Int) := by rw [Int.tmod_eq_emod_of_nonneg (by omega), hr']; omega
            have HST := Lib.hid hst
            have HROW := Lib.hid (show ∀ u, u = Value.int .i64 (q : Int) → RowI (wr.setCell ⟨g, j, none⟩ u) g (ofN (mix (dig V) (Q.set j q) j)) from by
              rintro u rfl
              rw [← mix_set hjd hQl, ← ofN_set]
              exact hrw.out.set_ j hjm _)
            have HBN := Lib.hid (show ∀ u, Below W0.heap.size W0 (wr.setCell ⟨g, j, none⟩ u) from fun u => hb.out.setCell HG.out u)
            have ej : (((j + 1 : Nat)) : Int) - 1 = (j : Int) := by omega
            have hjI : (j : Int) < (n : Int) := by omega
            have hxI : (x : Int) < 16777216 := by omega
            have hrI : (rr : Int) ≤ 9999999 := by omega
            have hq2 : (q : Int) ≤ 16777215 := by omega
            have hr2 : (r' : Int) ≤ 9999999 := by omega
            rw [ej]
            clear hst hqb hxk hxb hrb hq hr' hjm hinv hrw hb ej hjd hQl
            go_wp2_with fail
            go_roundw
            case rel => exact ⟨j, r', Q.set j q, by omega, by first | rfl | (congr 1; omega), rfl, HST, Lib.hid (HROW.out _ rfl), Lib.hid (HBN.out _)⟩
            case measure => simp [intOf] <;> omega
          · obtain rfl : k = 0 := by omega
            obtain ⟨d1, d2⟩ := partInv_end hinv.out
            rw [val_dig] at d1 d2
            have hQn : Q.length = n := hinv.out.len.trans HND.out
            have HS := Lib.hid hinv.out.small
            have HQN := Lib.hid hQn
            have HRQ := Lib.hid (show RowI wr g (ofN Q) from hrw.out)
            obtain ⟨q, hq⟩ : ∃ q, q = V / 10000000 := ⟨_, rfl⟩
            obtain ⟨r, hr⟩ : ∃ r, r = (dig (val Q)).length := ⟨_, rfl⟩
            have HR := Lib.hid hr
            have HRQL := Lib.hid (show r = (lim q).length from by rw [hr, d1, ← hq, lim_length])
            have hrr : rr < 10000000 := hinv.out.rest
            have HDG := Lib.hid (show Calls Tryd.prog 79 #[.int .i64 (rr : Int)] wr (RetB (.string (btx (decT rr))) wr) from sDigits rr hrr wr)
            have HRR := Lib.hid (show rr = V % 10000000 ∧ rr < 10000000 from ⟨d2, hrr⟩)
            have HQ := Lib.hid hq
            have HDV := Lib.hid d1
            have hnc : (n : Int) ≤ (c' : Int) := by have := HN.out; omega
            clear d1 d2 hinv hrw hQn hq hr hrr hk hk0
            go_wp2_with fail
            go_loop [4] (fun v => ∃ k : Nat, k ≤ n ∧ v = .slice (some ⟨g, 0, none⟩) k c' ∧ Hid (∀ (j : Nat) (h : j < Q.length), k ≤ j → Q[j] = 0)) (fun v => slcL v)
            case atStart => exact ⟨n, Nat.le_refl _, rfl, Lib.hid fun j h hj => absurd h (by have := HQN.out; omega)⟩
            case round =>
              obtain ⟨k, hk, rfl, hz⟩ := hrel
              have hend : (∀ (h0 : 0 < k), Q[k - 1]'(by have := HQN.out; omega) ≠ 0) → k = r := fun h => by
                have := take_dig HS.out (by have := HQN.out; omega) hz.out h
                rw [HR.out, ← this, List.length_take]
                have := HQN.out
                omega
              have hrest : k = r → True := fun _ => trivial
              by_cases h0 : 0 < k
              · have hkQ : k - 1 < Q.length := by have := HQN.out; omega
                obtain ⟨x, hxk⟩ : ∃ x : Nat, x = Q[k - 1] := ⟨_, rfl⟩
                have hcell := HRQ.out.cell (k - 1) (by rw [ofN_length]; exact hkQ)
                rw [ofN_at, ← hxk] at hcell
                have HXK := Lib.hid hxk
                have hi1 : ((k : Int) - 1).toNat = k - 1 := by omega
                have hi2 : (0 : Int) ≤ (k : Int) - 1 := by omega
                have hi3 : (k : Int) - 1 < (k : Int) := by omega
                have hi4 : (k : Int) - 1 ≤ (c' : Int) := by omega
                have h0I : (0 : Int) < (k : Int) := by omega
                have hkn : (k : Int) ≤ 200 := by omega
                clear hxk
                by_cases hx0 : x = 0
                · subst hx0
                  clear hend hrest
                  go_wp2_with fail
                  go_round
                  case rel =>
                    refine ⟨k - 1, by omega, by (try simp) <;> omega, Lib.hid fun j h hj => ?_⟩
                    by_cases hjk : j = k - 1
                    · subst hjk; exact HXK.out.symm
                    · exact hz.out j h (by omega)
                  case measure => simp [slcL]; omega
                · have hne : ((x : Int) == 0) = false := by simpa using hx0
                  obtain rfl : k = r := hend (fun _ => by rw [← HXK.out]; exact hx0)
                  clear hend hrest hx0
                  go_wp2_with fail
                  refine HDG.out.mono ?_
                  rintro e w4 ⟨rfl, hb4⟩
                  have HB4 := Lib.hid hb4
                  have hk7 := nd_le (k := 6) (n := rr) HRR.out.2
                  have HK0 := Lib.hid (show (∃ i, decT rr = List.replicate i 48 ++ decT rr) ∧ (decT rr).length ≤ 7 from ⟨⟨0, rfl⟩, by rw [decT_length]; exact hk7⟩)
                  clear hcell hi1 hi2 hi3 hi4 hne hb4 hz HDG HXK hkQ hk7
                  go_wp2_with fail
                  go_loop [8] (fun p => ∃ F : List UInt8, p = .string (btx F) ∧ Hid ((∃ i, F = List.replicate i 48 ++ decT rr) ∧ F.length ≤ 7)) (fun p => 7 - strL p)
                  case atStart => exact ⟨_, rfl, HK0⟩
                  case round =>
                    clear HK0
                    obtain ⟨F, rfl, hF⟩ := hrel
                    have hsz := btx_size F
                    by_cases hF7 : F.length < 7
                    · have hlt : ((F.length : Nat) : Int) < 7 := by omega
                      have hno : ¬ (9223372036854775807 < 1 + F.length) := by omega
                      have hcat := btx_cons 48 F
                      go_wp2_with fail
                      go_round
                      case rel =>
                        obtain ⟨⟨i, hi⟩, h7⟩ := hF.out
                        exact ⟨48 :: F, rfl, Lib.hid ⟨⟨i + 1, by rw [List.replicate_succ, List.cons_append, ← hi]⟩, by rw [List.length_cons]; omega⟩⟩
                      case measure => simp [strL, btx_size]; omega
                    · have hge : decide (((F.length : Nat) : Int) < 7) = false := decide_eq_false (by omega)
                      have hFP : F = pad 7 rr := by
                        obtain ⟨⟨i, hi⟩, h7⟩ := hF.out
                        have h := pad_fill (k := 6) (n := rr) HRR.out.2
                        rw [h, hi]
                        congr 2
                        have := congrArg List.length hi
                        rw [List.length_append, List.length_replicate, decT_length] at this
                        omega
                      have hTl := HMIX.out.len
                      have hno : ¬ (9223372036854775807 < F.length + T.length) := by have := ND.out; have := hF.out.2; omega
                      have hszT := btx_size T
                      have hcat := btx_app F T
                      have HTA := Lib.hid (show TextAt m q (F ++ T) from by
                        rw [HQ.out]
                        exact HMIX.out.step HV.out F ⟨fun h => absurd (by rw [HRQL.out, HQ.out, h, lim_zero]; rfl : k = 0) (by omega), fun _ => by rw [hFP, HRR.out.1]⟩)
                      have HOWN := Lib.hid (show Own w4 W0.heap.size (some ⟨g, 0, none⟩) (lim q) from by
                        have h := HRQ.out.take (dig (val Q)).length
                        rw [ofN_take, take_dig_len HS.out, HDV.out, ← HQ.out] at h
                        exact Own.row (h.below HB4.out h.lt) HG.out)
                      have HBEL := Lib.hid (hb.out.trans (HB4.out.mono hb.out.size))
                      have HLC := Lib.hid (show (lim q).length ≤ 200 ∧ (lim q).length ≤ c' from by rw [← HRQL.out]; have := HN.out; omega)
                      have HME := Lib.hid (show 1700 - (F.length + T.length) < 1700 - T.length from by
                        have h1 := hTl.2 HV.out
                        have := ND.out
                        omega)
                      clear hF7 hFP hTl
                      go_wp2_with fail
                      go_roundw
                      case rel => exact ⟨q, F ++ T, _, c', rfl, by rw [HRQL.out], HTA, HOWN, HBEL, HLC⟩
                      case measure => simp [strL, btx_size]; exact HME.out
              · obtain rfl : k = 0 := by omega
                obtain rfl : 0 = r := hend (fun h => absurd h (Nat.lt_irrefl 0))
                clear hend hrest
                go_wp2_with fail
                refine HDG.out.mono ?_
                rintro e w4 ⟨rfl, hb4⟩
                have HB4 := Lib.hid hb4
                have hk7 := nd_le (k := 6) (n := rr) HRR.out.2
                have hq0 : q = 0 := lim_len_zero.1 HRQL.out.symm
                have HF0 := Lib.hid (show (decT rr).length ≤ 7 from by rw [decT_length]; exact hk7)
                obtain ⟨F, hFe⟩ : ∃ F, F = decT rr := ⟨_, rfl⟩
                have HFE := Lib.hid hFe
                rw [← hFe] at HF0 ⊢
                clear hFe hb4 hz HDG hk7
                go_wp2_with fail
                go_loop [8] (fun p => p = .string (btx F)) (fun p => 0)
                case atStart => rfl
                case round =>
                  obtain rfl := hrel
                  have hsz := btx_size F
                  have hTl := HMIX.out.len
                  have hno : ¬ (9223372036854775807 < F.length + T.length) := by have := ND.out; have := HF0.out; omega
                  have hszT := btx_size T
                  have hcat := btx_app F T
                  have HTA := Lib.hid (show TextAt m q (F ++ T) from by
                    rw [HQ.out]
                    exact HMIX.out.step HV.out F ⟨fun h => by rw [HFE.out, HRR.out.1], fun h => absurd h (by rw [← HQ.out, hq0]; omega)⟩)
                  have HOWN := Lib.hid (show Own w4 W0.heap.size (some ⟨g, 0, none⟩) (lim q) from by rw [hq0, lim_zero]; exact Own.nil)
                  have HBEL := Lib.hid (hb.out.trans (HB4.out.mono hb.out.size))
                  have HLC := Lib.hid (show (lim q).length ≤ 200 ∧ (lim q).length ≤ c' from by rw [← HRQL.out]; omega)
                  have HME := Lib.hid (show 1700 - (F.length + T.length) < 1700 - T.length from by
                    have h1 := hTl.2 HV.out
                    have h2 := nd_pos rr
                    rw [← decT_length, ← HFE.out] at h2
                    have := ND.out
                    omega)
                  clear hTl hq0
                  go_wp2_with fail
                  go_roundw
                  case rel => exact ⟨q, F ++ T, _, c', rfl, by rw [← HRQL.out], HTA, HOWN, HBEL, HLC⟩
                  case measure => simp [strL, btx_size]; exact HME.out
end Go.Proofs.YtpchcigpppdfiaaDoor
