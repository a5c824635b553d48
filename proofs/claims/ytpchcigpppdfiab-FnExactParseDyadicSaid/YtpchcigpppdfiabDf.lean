/-
  Contract: magnitudeOfDigits. Conditions: the text has digits alone.
-/
import Derived.Test.YtpchcigpppdfiabDe
namespace Go.Proofs.Ytpchcigpppdfiab
set_option linter.unusedVariables false
open Go Go.RowKit

theorem dv_lim {p : List UInt8} (h : ∀ b ∈ p, isDig b) (hl : p.length ≤ 2400) : (lim (dv p)).length ≤ 1000 := by
  have h1 := dv_lt h
  have h2 : (10 : Nat) ^ p.length ≤ 2 ^ (4 * p.length) := by
    rw [Nat.pow_mul]
    exact Nat.pow_le_pow_left (by decide) _
  refine Nat.le_trans (lim_le_of_le (show dv p ≤ 2 ^ (4 * p.length) by omega)) ?_
  have h3 : ∀ K L : Nat, K < 24 * L → (lim (2 ^ K)).length ≤ L := fun K L h => by
    rw [lim_length]
    refine dig_length_le ?_
    rw [show (16777216 : Nat) = 2 ^ 24 by rfl, ← Nat.pow_mul]
    exact Nat.pow_lt_pow_right (by omega) h
  exact h3 _ _ (by omega)
def strLen : Value → Nat
  | .string s => s.size
  | _ => 0
theorem pow11 {k : Nat} (h : k ≤ 11) : 10 ^ k ≤ 100000000000 := Nat.le_trans (Nat.pow_le_pow_right (by omega) h) (by decide)
theorem conv_bytesW (l : List UInt8) (w : World) : ∃ (W : World) (c : Nat), (convert 9 32 (.string ⟨l.toArray⟩)).run Try.prog w = .ok (.slice (some ⟨w.heap.size, 0, none⟩) l.length c) W ∧
    (∀ j (h : j < l.length), W.cell? ⟨w.heap.size, j, none⟩ = some (.int .u8 ((l[j].toNat : Nat) : Int))) ∧ (∀ B, B ≤ w.heap.size → Below B w W) ∧ W.heap.size = w.heap.size + 1 := by
  have h := run_bytes_of_string (P := Try.prog) w 9 32 5 ⟨l.toArray⟩ Try.underlying9 Try.underlying32 Try.underlying5
  refine ⟨_, _, by simpa [ByteArray.size] using h, fun j hj => ?_, fun B hB => (Below.refl _ w).drew.alloc (by simpa using hB) _, by simp⟩
  show (w.drew.alloc _).cell? ⟨w.drew.heap.size, j, none⟩ = _
  rw [World.cell?_alloc_mark]
  exact bytesRow_cell l _ j hj

set_option maxRecDepth 100000 in
set_option maxHeartbeats 4000000 in
theorem iDigits (l : List UInt8) (hd : ∀ b ∈ l, isDig b) (hl : l.length ≤ 1500) (w : World) :
    Calls Try.prog 102 #[.string ⟨l.toArray⟩] w (RetL (lim (dv l)) w) := by
  have HD := Lib.hid hd
  have HL := Lib.hid hl
  clear hd hl
  go_enter Try.func102, Try.ntmps102
  go_wp2
  go_loopw [0] (fun q wr => ∃ (p r : List UInt8) (a : Option Addr) (c : Nat), Hid (l = p ++ r) ∧ q = .string ⟨r.toArray⟩ ∧ BoxAt wr w.heap.size 109 #[.slice a (lim (dv p)).length c] ∧ OwnV wr (w.heap.size + 1) (.slice a (lim (dv p)).length c) (lim (dv p)) ∧ Below w.heap.size w wr ∧ w.heap.size + 1 ≤ wr.heap.size) (fun q _ => strLen q)
  case atStart => exact ⟨[], l, none, 0, Lib.hid rfl, rfl, by rw [dv_nil, lim_zero]; exact BoxAt.new _ _ _, by rw [dv_nil, lim_zero]; exact OwnV.nil _ _, (Below.refl _ _).alloc (Nat.le_refl _) _, by simp⟩
  case round =>
    obtain ⟨p, r, a, c, hpr, rfl, hbox, hown, hbel, hsz⟩ := hrel
    rcases r with _ | ⟨b, r⟩
    · have hp : l = p := by have := hpr.out; simpa using this
      obtain ⟨a', c', e, hc, _, ho⟩ := OwnV.parts hown
      injection e with e1 e2 e3
      subst e1
      subst e3
      have HEND := Lib.hid (show RetL (lim (dv l)) w (.returned (.slice a (lim (dv p)).length c)) wr from by rw [hp]; exact ⟨a, c, rfl, hc, ho.mono (by omega), hbel⟩)
      have hp2 := hbox.cell 0
      simp at hp2
      clear hown hbox hp hpr ho hc e2
      go_wp2
      go_ret
      exact HEND.out
    · have hpos : (0 : Int) < (r.length : Int) + 1 := by omega
      obtain ⟨n, hn⟩ : ∃ n : Nat, n = min (r.length + 1) 11 := ⟨_, rfl⟩
      have hmin : min ((r.length : Int) + 1) 11 = (n : Int) := by omega
      have hnb : (n : Int) ≤ (r.length : Int) + 1 := by omega
      have hx := extract_take (b :: r) n
      obtain ⟨t, ht⟩ : ∃ t, t = (b :: r).take n := ⟨_, rfl⟩
      obtain ⟨W, c2, hconv, hcell, hbw, hws⟩ := conv_bytesW t wr
      have htl : t.length = n := by rw [ht, List.length_take, List.length_cons]; omega
      have hy := extract_drop (b :: r) n (r.length + 1) rfl
      rw [← ht] at hx
      have HB := Lib.hid hbel
      have HBX := Lib.hid (BoxAt.belowB hbox (hbw wr.heap.size (Nat.le_refl _)) hbox.lt)
      have HOW := Lib.hid (hown.belowH (hbw wr.heap.size (Nat.le_refl _)))
      have HCE := Lib.hid hcell
      have HT := Lib.hid ht
      have HTL := Lib.hid htl
      have HN := Lib.hid hn
      have HDT := Lib.hid (show ∀ b ∈ t, isDig b from fun x hx => HD.out x (by rw [hpr.out]; exact List.mem_append_right _ (List.mem_of_mem_take (by rw [← ht]; exact hx))))
      have HWS := Lib.hid hws
      have HBW := Lib.hid hbw
      clear hbox hown hbel hcell ht hn hbw
      go_wp2
      go_loop [20, 5, 6] (fun i q u => ∃ (k : Nat) (P V : Int), k ≤ t.length ∧ Hid (P = ((10 ^ k : Nat) : Int)) ∧ Hid (V = ((dv (t.take k) : Nat) : Int)) ∧ i = .int .i64 (k : Int) ∧ q = .int .i64 P ∧ u = .int .i64 V) (fun i _ _ => t.length - (intOf i).toNat)
      case atStart => exact ⟨0, 1, 0, Nat.zero_le _, Lib.hid (by simp), Lib.hid (by simp [dv_nil]), rfl, rfl, rfl⟩
      case round =>
        obtain ⟨k, P, V, hk, HP, HV, rfl, rfl, rfl⟩ := hrel
        by_cases hkt : k < t.length
        · have hc := HCE.out k hkt
          have hdg := HDT.out _ (List.getElem_mem hkt)
          have hst := dv_take t k hkt
          have hvb : dv (t.take k) < 10 ^ k := by
            have h := dv_lt (l := t.take k) (fun b hb => HDT.out b (List.mem_of_mem_take hb))
            rwa [List.length_take, Nat.min_eq_left hk] at h
          have hPb := pow11 (k := k) (by have := HN.out; have := HTL.out; omega)
          have hp10 : (10 : Nat) ^ (k + 1) = 10 ^ k * 10 := Nat.pow_succ _ _
          unfold isDig at hdg
          have HPo := HP.out
          have HVo := HV.out
          obtain ⟨d, hdd⟩ : ∃ d : Int, d = ((t[k].toNat : Nat) : Int) := ⟨_, rfl⟩
          rw [← hdd] at hc
          obtain ⟨ee, hee⟩ : ∃ ee : Int, ee = d - 48 := ⟨_, rfl⟩
          obtain ⟨P1, hP1⟩ : ∃ P1 : Int, P1 = P * 10 := ⟨_, rfl⟩
          obtain ⟨V1, hV1⟩ : ∃ V1 : Int, V1 = V * 10 := ⟨_, rfl⟩
          obtain ⟨V2, hV2⟩ : ∃ V2 : Int, V2 = V1 + ee := ⟨_, rfl⟩
          generalize (10 : Nat) ^ (k + 1) = Q1 at hp10
          have HPN := Lib.hid (show P1 = ((10 ^ (k + 1) : Nat) : Int) by rw [Nat.pow_succ, hP1, HPo]; simp)
          have HVN := Lib.hid (show V2 = ((dv (t.take (k + 1)) : Nat) : Int) by rw [hst, hV2, hV1, hee, HVo, hdd]; omega)
          generalize (10 : Nat) ^ k = Q0 at *
          have hkI : (k : Int) < (t.length : Int) := by omega
          have hw1 : wrap64 (P * 10) = P1 := by rw [hP1]; unfold wrap64; omega
          have hw2 : wrap64 (V * 10) = V1 := by rw [hV1]; unfold wrap64; omega
          have hw3 : IntKind.u8.wrap (d - 48) = ee := by rw [hee, IntKind.wrap_u8]; omega
          have hw5 : wrap64 ee = ee := by unfold wrap64; omega
          have hw4 : wrap64 (V1 + ee) = V2 := by rw [hV2]; unfold wrap64; omega
          have HK := Lib.hid hk
          clear hst hvb hPb hdd hdg hk hee hP1 hV1 hV2 HPo HVo hp10
          go_wp2
          go_round
          case rel => exact ⟨k + 1, P1, V2, by omega, HPN, HVN, by go_num, by first | rfl | exact congrArg (Value.int .i64) hw1, by first | rfl | exact congrArg (Value.int .i64) hw4⟩
          case measure => simp [intOf]; omega
        · obtain rfl : k = n := by omega
          obtain ⟨sc, hsc⟩ : ∃ sc : Nat, sc = 10 ^ k := ⟨_, rfl⟩
          obtain ⟨v, hv⟩ : ∃ v : Nat, v = dv t := ⟨_, rfl⟩
          obtain rfl : P = (sc : Int) := by rw [HP.out, hsc]
          obtain rfl : V = (v : Int) := by rw [HV.out, ← htl, List.take_length, hv]
          have hlp : p.length ≤ 1500 := by
            have h := HL.out
            rw [hpr.out, List.length_append] at h
            omega
          have hdp : ∀ b ∈ p, isDig b := fun x hx => HD.out x (by rw [hpr.out]; exact List.mem_append_left _ hx)
          have hscb : sc ≤ 100000000000 := by rw [hsc]; exact pow11 (by have := HN.out; have := HTL.out; omega)
          have hvs : v < sc := by rw [hv, hsc, ← htl]; exact dv_lt HDT.out
          have hEX := iExtend w.heap.size (dv p) c sc v a W (w.heap.size + 1) (by omega) (by have := HWS.out; omega) HBX.out HOW.out (dv_lim hdp (by omega)) (by omega) hscb hvs
          rw [show dv p * sc + v = dv (p ++ t) by rw [dv_app, hsc, hv, htl]] at hEX
          have HEX := Lib.hid hEX
          have HPT := Lib.hid (show l = (p ++ t) ++ (b :: r).drop k by
            rw [hpr.out, List.append_assoc, HT.out, List.take_append_drop])
          have HTP := Lib.hid (show 0 < k by have := HN.out; have := HTL.out; omega)
          clear hEX hvs hscb hdp hlp hv hsc HP HV hk hkt hmin hx hconv
          have hwb := HBW.out w.heap.size (by have := HB.out.size; omega)
          have HBB := Lib.hid (HB.out.trans hwb)
          clear hwb
          have hWs : w.heap.size + 1 ≤ W.heap.size := by omega
          go_wp2_with (go_at_call 133; refine HEX.out.mono ?_; rintro e w2 ⟨rfl, a', c', hbx, how, hbl⟩; have K1 := Lib.hid hbx; have K2 := Lib.hid how; have K3 := Lib.hid hbl; clear hbx how hbl)
          go_roundw
          case rel => exact ⟨p ++ t, (b :: r).drop k, a', c', HPT, rfl, K1.out, K2.out, HBB.out.trans K3.out, by have := K3.out.size; omega⟩
          case measure =>
            simp [strLen, ByteArray.size]
            have := HTP.out
            omega
end Go.Proofs.Ytpchcigpppdfiab
