/-
  Contract: the text of a magnitude. Conditions: the limbs can be read, the listed table of powers of 10.
-/
import Derived.Test.YtpchcigpppdfiaaDoorTu
namespace Go.Proofs.YtpchcigpppdfiaaDoor
set_option linter.unusedVariables false
open Go Go.RowKit

theorem OwnS.slc {w : World} {lo : Nat} {v : Value} {xs : List (List UInt8)} (h : OwnS w lo v xs) : slcL v = xs.length := by
  obtain ⟨_, h | ⟨g, cap, cur, rfl, hb, hg, hn, hm, hs, ht⟩⟩ := h
  · obtain ⟨rfl, h0⟩ := h
    exact h0.symm
  · rfl
/-- The parts so far, the last one first, behind the number that is left. -/
structure PartsAt (m V : Nat) (xs : List (List UInt8)) : Prop where
  eq : decT m = decT V ++ xs.reverse.flatten
  count : 11 * xs.length ≤ xs.reverse.flatten.length
theorem PartsAt.few {m V : Nat} {xs : List (List UInt8)} (h : PartsAt m V xs) (hm : nd m ≤ 1601) : xs.length ≤ 145 := by
  have h1 := congrArg List.length h.eq
  rw [List.length_append, decT_length, decT_length] at h1
  have := h.count
  omega
theorem PartsAt.start (m : Nat) : PartsAt m m [] := ⟨by simp, by simp⟩
theorem PartsAt.step {m V : Nat} {xs : List (List UInt8)} (h : PartsAt m V xs) (hq : V / 100000000000 ≠ 0) : PartsAt m (V / 100000000000) (xs ++ [pad 11 (V % 100000000000)]) := by
  have hs : decT V = decT (V / 100000000000) ++ pad 11 (V % 100000000000) := by
    have := decT_split (k := 11) (n := V) (by omega)
    rwa [show (10 : Nat) ^ 11 = 100000000000 from rfl] at this
  refine ⟨?_, ?_⟩
  · rw [h.eq, hs]
    simp [List.append_assoc]
  · have := h.count
    simp only [List.reverse_append, List.reverse_singleton, List.singleton_append, List.flatten_cons, List.length_append, pad_length, List.length_singleton]
    omega
theorem PartsAt.done {m V : Nat} {xs : List (List UInt8)} (h : PartsAt m V xs) (hq : V / 100000000000 = 0) : (xs ++ [decT (V % 100000000000)]).reverse.flatten = decT m := by
  rw [h.eq, Nat.mod_eq_of_lt (by omega)]
  simp
theorem pad11 {r : Nat} (h : r < 100000000000) : List.replicate (11 - (decT r).length) 48 ++ decT r = pad 11 r := by
  rw [decT_length]
  exact (pad_fill (k := 10) (n := r) h).symm

set_option maxRecDepth 100000 in
set_option maxHeartbeats 4000000 in
theorem iMagText (a : Option Addr) (m c : Nat) (w : World) (hx : Ints w w.heap.size a (lim m)) (hl : (lim m).length ≤ 200) (hp : Pows w.heap.size w) :
    Calls Tryd.prog 77 #[.slice a (lim m).length c] w (RetB (.string (btx (decT m))) w) := by
  have HX := Lib.hid hx
  have HP := Lib.hid hp
  have ND := Lib.hid (nd_lim hl)
  have HL := Lib.hid hl
  clear hx hp hl
  go_enter Tryd.func77, Tryd.ntmps77
  go_wp2_with fail
  go_loopw [0, 3] (fun s v wr => ∃ (V : Nat) (a' : Option Addr) (c' : Nat) (xs : List (List UInt8)), s = .slice a' (lim V).length c' ∧ Hid (Ints wr wr.heap.size a' (lim V)) ∧ Hid ((lim V).length ≤ 200) ∧ Hid (PartsAt m V xs) ∧ Hid (OwnS wr w.heap.size v xs) ∧ Hid (Below w.heap.size w wr)) (fun _ v _ => 200 - slcL v)
  case atStart => exact ⟨m, a, c, [], rfl, HX, HL, Lib.hid (PartsAt.start m), Lib.hid (OwnS.nil _ _), Lib.hid (Below.refl _ _)⟩
  case round =>
    obtain ⟨V, a', c', xs, rfl, hx, hl, hpa, hown, hb⟩ := hrel
    have HD := Lib.hid (iByPart a' V c' 100000000000 wr wr.heap.size (Nat.le_refl _) hx.out (by have := hl.out; omega) (by omega) (by omega))
    have hsz := hb.out.size
    clear HX HL
    go_wp2_with fail
    refine HD.out.mono ?_
    rintro e w3 ⟨a3, c3, rfl, hc3, ho3, hb3⟩
    obtain ⟨q, hq⟩ : ∃ q, q = V / 100000000000 := ⟨_, rfl⟩
    obtain ⟨r, hr⟩ : ∃ r, r = V % 100000000000 := ⟨_, rfl⟩
    rw [← hq] at hc3 ho3 ⊢
    rw [← hr]
    have HB3 := Lib.hid (hb.out.trans (hb3.mono hsz))
    have HOW := Lib.hid (OwnS.below hown.out hb3)
    have HQ := Lib.hid hq
    have HR := Lib.hid (show r = V % 100000000000 ∧ r < 100000000000 from ⟨hr, by omega⟩)
    have HO3 := Lib.hid ho3
    have HLQ := Lib.hid (show (lim q).length ≤ 200 from by
      have := dig_len_mono (show q ≤ V from by rw [hq]; exact Nat.div_le_self _ _)
      rw [lim_length]
      have h2 := hl.out
      rw [lim_length] at h2
      omega)
    have HF := Lib.hid (iFormat r (by omega) w3 (HP.out.on HB3.out))
    have hn := hpa.out.few ND.out
    have HSL := Lib.hid (OwnS.slc hown.out)
    have HLT := Lib.hid (show ∀ g, Value.ownBlock _ = some g → g < wr.heap.size from fun g hg => (World.ownsRow.lt hown.out g hg).2)
    clear hq hr ho3 hown hb hb3 HD hx hl hc3 hsz
    go_wp2_with fail
    refine HF.out.mono ?_
    rintro e w4 ⟨rfl, hb4⟩
    have HB4 := Lib.hid (HB3.out.trans (hb4.mono HB3.out.size))
    have HOW4 := Lib.hid (OwnS.below HOW.out hb4)
    have HO4 := Lib.hid (HO3.out.below hb4)
    have hsz4 := HB4.out.size
    clear HF HOW HO3 HB3 hb4
    by_cases hq0 : q = 0
    · have hz := lim_len_zero.2 hq0
      have HDN := Lib.hid (hpa.out.done (by rw [← HQ.out]; exact hq0))
      rw [← HR.out.1] at HDN
      rw [hz]
      clear hz
      obtain ⟨z, hz⟩ : ∃ z, z = decT r := ⟨_, rfl⟩
      rw [← hz] at HDN ⊢
      clear hz
      go_wp2_with (at_builtin; refine wp_appS rfl _ _ 106 rfl Tryd.underlying106 w4 z (by simp) w.heap.size _ xs HOW4.out rfl rfl (by omega) (by omega) ?_; intro v' w' hown' hb' hs' hk'; have OW2 := Lib.hid hown'; have HB5 := Lib.hid (hb' w.heap.size (by omega) (Nat.le_refl _)); clear hown' hb' hk')
      have HL5 := Lib.hid (show (xs ++ [z]).length ≤ 4096 from by rw [List.length_append, List.length_singleton]; omega)
      refine (iReverse OW2.out (by simp) HL5.out).mono ?_
      rintro e w6 ⟨rfl, hb6, ht6⟩
      have HB6 := Lib.hid hb6
      have HJ := Lib.hid (iJoin ht6 HL5.out (by rw [HDN.out, decT_length]; have := ND.out; omega))
      rw [HDN.out] at HJ
      clear hb6 ht6
      go_wp2_with fail
      refine HJ.out.mono ?_
      rintro e w7 ⟨rfl, hb7⟩
      have HEND := Lib.hid (HB4.out.trans (HB5.out.trans (HB6.out.trans (hb7.mono (by have := HB6.out.size; omega)))))
      clear hb7
      go_wp2_with fail
      go_ret
      exact ⟨rfl, HEND.out⟩
    · have hz : (((lim q).length : Int) == 0) = false := beq_eq_false_iff_ne.2 (by
        have : (lim q).length ≠ 0 := fun h => hq0 (lim_len_zero.1 h)
        omega)
      have HST := Lib.hid (hpa.out.step (by rw [← HQ.out]; exact hq0))
      have HPD := Lib.hid (pad11 HR.out.2)
      have hzl := nd_le (k := 10) (n := r) HR.out.2
      rw [← decT_length] at hzl
      rw [← HR.out.1, ← HQ.out] at HST
      obtain ⟨z, hze⟩ : ∃ z, z = decT r := ⟨_, rfl⟩
      obtain ⟨p, hpe⟩ : ∃ p, p = pad 11 r := ⟨_, rfl⟩
      rw [← hze] at HPD hzl ⊢
      rw [← hpe] at HPD HST
      obtain ⟨k, hk⟩ : ∃ k, k = 11 - z.length := ⟨_, rfl⟩
      rw [← hk] at HPD
      have hsub : (11 : Int) - (z.length : Int) = (k : Int) := by omega
      have hszz := btx_size z
      have HRP := Lib.hid (iRepeat k (by omega) w4)
      have hszr : (btx (List.replicate k 48)).size = k := by rw [btx_size, List.length_replicate]
      have hcat := btx_app (List.replicate k 48) z
      rw [HPD.out] at hcat
      have hno : ¬ (9223372036854775807 < k + z.length) := by omega
      have hzI : (z.length : Int) ≤ 11 := by omega
      clear hk hze hpe hzl hq0
      go_wp2_with fail
      refine HRP.out.mono ?_
      rintro e w5 ⟨rfl, hb5⟩
      have HB5 := Lib.hid (HB4.out.trans (hb5.mono HB4.out.size))
      have HOW5 := Lib.hid (OwnS.below HOW4.out hb5)
      have HO5 := Lib.hid (HO4.out.below hb5)
      have hsz5 := HB5.out.size
      have hsz45 := hb5.size
      clear HRP hb5 hsz4 hsz45 HB4 HOW4 HO4
      go_wp2_with (at_builtin; refine wp_appS rfl _ _ 106 rfl Tryd.underlying106 w5 p (by simp) w.heap.size _ xs HOW5.out rfl rfl (by omega) (by omega) ?_; intro v' w' hown' hb' hs' hk'; have OW2 := Lib.hid hown'; have HB6 := Lib.hid (hb' w.heap.size (by omega) (Nat.le_refl _)); have HK7 := Lib.hid (hk' _ _ _ HO5.out HLT.out); clear hown' hb' hk')
      go_roundw
      case rel => exact ⟨q, a3, c3, xs ++ [p], rfl, Lib.hid HK7.out.ints, HLQ, HST, OW2, Lib.hid (HB5.out.trans HB6.out)⟩
      case measure =>
        have h1 := OwnS.slc OW2.out
        have h2 := HSL.out
        rw [List.length_append, List.length_singleton] at h1
        show 200 - slcL _ < 200 - slcL _
        rw [h2]
        simp only [h1]
        omega
end Go.Proofs.YtpchcigpppdfiaaDoor
