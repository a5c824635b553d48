/-
  Contracts: sums and products of lists of wide numbers. Conditions: the list's cells can be read.
-/
import Derived.Test.YtpchcigpppdfiaaWd
namespace Go.Proofs.Ytpchcigpppdfiaa
set_option linter.unusedVariables false
open Go Go.RowKit

/-- A list of wide numbers that can be read. -/
def Cells (w : World) (a : Option Addr) (zs : List (Nat × Nat)) : Prop :=
  zs.length ≤ 9223372036854775807 ∧ ∀ (i : Nat) (h : i < zs.length), ∃ c o, a = some ⟨c, o, none⟩ ∧ w.cell? ⟨c, o + i, none⟩ = some (.complex .f64 zs[i].1 zs[i].2)
theorem Cells.drewN {w : World} {a : Option Addr} {zs : List (Nat × Nat)} (h : Cells w a zs) (n : Nat) : Cells (w.drewN n) a zs := h
def allF (zs : List (Nat × Nat)) : Bool := zs.all fun z => finC z.1 z.2
def chkR (zs : List (Nat × Nat)) : Int := if 100 < zs.length then 2 else if allF zs = true then 0 else 1
theorem allF_at {zs : List (Nat × Nat)} (h : allF zs = true) (i : Nat) (hi : i < zs.length) : finC zs[i].1 zs[i].2 = true := by
  unfold allF at h
  rw [List.all_eq_true] at h
  exact h _ (List.getElem_mem hi)
theorem allF_of {zs : List (Nat × Nat)} (h : ∀ (i : Nat) (hi : i < zs.length), finC zs[i].1 zs[i].2 = true) : allF zs = true := by
  unfold allF
  rw [List.all_eq_true]
  intro z hz
  obtain ⟨i, hi, rfl⟩ := List.getElem_of_mem hz
  exact h i hi
theorem drop_step {zs : List (Nat × Nat)} (j : Nat) (h : j < zs.length) : zs.drop j = zs[j] :: zs.drop (j + 1) := List.drop_eq_getElem_cons h

/-- The code came, and the world stayed but for draws. -/
theorem chk_some {zs : List (Nat × Nat)} (h : zs.length ≤ 100) (j : Nat) (hj : j < zs.length) (hb : finC zs[j].1 zs[j].2 = false) : chkR zs = 1 := by
  unfold chkR
  rw [if_neg (by omega)]
  cases ha : allF zs with
  | false => rw [if_neg (by decide)]
  | true => rw [allF_at ha j hj] at hb; cases hb
theorem chk_none {zs : List (Nat × Nat)} (h : zs.length ≤ 100) (hb : ∀ (i : Nat) (hi : i < zs.length), finC zs[i].1 zs[i].2 = true) : chkR zs = 0 := by
  unfold chkR
  rw [if_neg (by omega), if_pos (allF_of hb)]

set_option maxHeartbeats 800000 in
theorem iAll (a : Option Addr) (zs : List (Nat × Nat)) (cap : Nat) (w : World) (hc : Cells w a zs) : Calls Try.prog 97 #[.slice a zs.length cap] w (Ret (.bool (allF zs)) w) := by
  obtain ⟨hl, hcell⟩ := hc
  have HC := Lib.hid hcell
  clear hcell
  go_enter Try.func97, Try.ntmps97
  go_wp2_with fail
  go_loopw [7] (fun i wr => ∃ (j n : Nat), j ≤ zs.length ∧ i = .int .i64 j ∧ wr = w.drewN n ∧ Hid (∀ (i : Nat) (hi : i < zs.length), i < j → finC zs[i].1 zs[i].2 = true)) (fun i _ => zs.length - (intOf i).toNat)
  case atStart => exact ⟨0, 0, Nat.zero_le _, rfl, rfl, fun i hi h => absurd h (Nat.not_lt_zero _)⟩
  case round =>
    obtain ⟨j, n, hj, rfl, rfl, hf⟩ := hrel
    by_cases hjk : j < zs.length
    · obtain ⟨c, o, ha, hcell⟩ := HC.out j hjk
      subst ha
      have hjI : (j : Int) < (zs.length : Int) := by omega
      cases hq : finC zs[j].1 zs[j].2
      · have e : allF zs = false := by
          cases h : allF zs
          · rfl
          · have := allF_at h j hjk; rw [hq] at this; cases this
        rw [e]
        clear e
        go_wp2_with (go_at_call 46; refine (iFin _ _ _).mono ?_; rintro e w' ⟨rfl, rfl⟩)
        go_ret
        exact ⟨_, rfl, rfl⟩
      · have HQ := Lib.hid hq
        go_wp2_with (go_at_call 46; refine (iFin _ _ _).mono ?_; rintro e w' ⟨rfl, rfl⟩)
        go_roundw
        case rel =>
          refine ⟨j + 1, _, by omega, by go_num, rfl, fun i hi h => ?_⟩
          by_cases hij : i = j
          · subst hij; exact HQ.out
          · exact hf.out i hi (by omega)
        case measure => simp [intOf]; omega
    · have e : allF zs = true := allF_of (fun i hi => hf.out i hi (by omega))
      have HE := Lib.hid e
      clear e
      obtain rfl : j = zs.length := by omega
      go_wp2_with fail
      go_ret
      exact ⟨_, by rw [HE.out]; rfl, rfl⟩
set_option maxHeartbeats 800000 in
theorem iChk (a : Option Addr) (zs : List (Nat × Nat)) (cap : Nat) (w : World) (hc : Cells w a zs) : Calls Try.prog 61 #[.slice a zs.length cap] w (Ret (.int .i64 (chkR zs)) w) := by
  have H := Lib.hid (iAll a zs cap w hc)
  obtain ⟨hl, hcell⟩ := hc
  clear hcell
  by_cases h100 : 100 < (zs.length : Int)
  · have e : chkR zs = 2 := if_pos (by omega)
    rw [e]
    clear e hl H
    go_enter Try.func61, Try.ntmps61
    go_wp2
    go_ret
    exact ⟨0, rfl, rfl⟩
  · have hlen : zs.length ≤ 100 := by omega
    have hd : decide (100 < (zs.length : Int)) = false := decide_eq_false h100
    have e : chkR zs = if allF zs = true then 0 else 1 := by unfold chkR; rw [if_neg (by omega)]
    rw [e]
    clear h100 hl e hlen
    cases hq : allF zs
    · rw [if_neg (by decide)]
      rw [hq] at H
      go_enter Try.func61, Try.ntmps61
      go_wp2_with (go_at_call 97; refine (H.out).mono ?_; rintro e w' ⟨n0, rfl, rfl⟩)
      go_ret
      exact ⟨_, rfl, rfl⟩
    · rw [if_pos rfl]
      rw [hq] at H
      go_enter Try.func61, Try.ntmps61
      go_wp2_with (go_at_call 97; refine (H.out).mono ?_; rintro e w' ⟨n0, rfl, rfl⟩)
      go_ret
      exact ⟨_, rfl, rfl⟩

set_option maxHeartbeats 800000 in
theorem sChk (a : Option Addr) (zs : List (Nat × Nat)) (cap : Nat) (w : World) (hc : Cells w a zs) : Calls Try.prog 66 #[.slice a zs.length cap] w (Ret (.int .i64 (chkR zs)) w) := by
  obtain ⟨hl, hcell⟩ := hc
  have HC := Lib.hid hcell
  clear hcell
  by_cases h100 : 100 < (zs.length : Int)
  · have e : chkR zs = 2 := if_pos (by omega)
    rw [e]
    clear e hl
    go_enter Try.func66, Try.ntmps66
    go_wp2
    go_ret
    exact ⟨0, rfl, rfl⟩
  · have hlen : zs.length ≤ 100 := by omega
    have hd : decide (100 < (zs.length : Int)) = false := decide_eq_false h100
    clear h100 hl
    go_enter Try.func66, Try.ntmps66
    go_wp2
    clear hd
    go_loopw [3] (fun i wr => ∃ (j n : Nat), j ≤ zs.length ∧ i = .int .i64 j ∧ wr = w.drewN n ∧ Hid (∀ (i : Nat) (hi : i < zs.length), i < j → finC zs[i].1 zs[i].2 = true)) (fun i _ => zs.length - (intOf i).toNat)
    case atStart => exact ⟨0, 0, Nat.zero_le _, rfl, rfl, fun i hi h => absurd h (Nat.not_lt_zero _)⟩
    case round =>
      obtain ⟨j, n, hj, rfl, rfl, hf⟩ := hrel
      by_cases hjk : j < zs.length
      · obtain ⟨c, o, ha, hcell⟩ := HC.out j hjk
        subst ha
        have hjI : (j : Int) < (zs.length : Int) := by omega
        cases hq : finC zs[j].1 zs[j].2
        · have e := chk_some hlen j hjk hq
          rw [e]
          clear e
          go_wp2_with (go_at_call 49; refine (sFin _ _ _).mono ?_; rintro e w' ⟨_, rfl, rfl⟩)
          go_ret
          exact ⟨_, rfl, rfl⟩
        · have HQ := Lib.hid hq
          go_wp2_with (go_at_call 49; refine (sFin _ _ _).mono ?_; rintro e w' ⟨_, rfl, rfl⟩)
          go_roundw
          case rel =>
            refine ⟨j + 1, _, by omega, by go_num, rfl, fun i hi h => ?_⟩
            by_cases hij : i = j
            · subst hij; exact HQ.out
            · exact hf.out i hi (by omega)
          case measure => simp [intOf]; omega
      · have e := chk_none hlen (fun i hi => hf.out i hi (by omega))
        have HE := Lib.hid e
        clear e
        obtain rfl : j = zs.length := by omega
        go_wp2
        go_ret
        exact ⟨_, by rw [HE.out]; rfl, rfl⟩

def prodL (zs : List (Nat × Nat)) : Nat × Nat × Int := if chkR zs = 0 then foldC mulF (one, 0) zs else (0, 0, chkR zs)
def sumL (zs : List (Nat × Nat)) : Nat × Nat × Int := if chkR zs = 0 then foldC addF (0, 0) zs else (0, 0, chkR zs)
theorem chk_zero {zs : List (Nat × Nat)} (h : chkR zs = 0) : zs.length ≤ 100 := by
  unfold chkR at h
  split at h
  · cases h
  · omega

set_option maxHeartbeats 800000 in
theorem iProd (a : Option Addr) (zs : List (Nat × Nat)) (cap : Nat) (w : World) (hc : Cells w a zs) : Calls Try.prog 19 #[.slice a zs.length cap] w (Ret (pairV (prodL zs)) w) := by
  have HK := Lib.hid fun n => iChk a zs cap (w.drewN n) hc
  have HK0 := Lib.hid (iChk a zs cap w hc)
  obtain ⟨hl, hcell⟩ := hc
  have HC := Lib.hid hcell
  clear hcell hl
  unfold prodL
  by_cases h0 : chkR zs = 0
  · rw [if_pos h0]
    have hlen := chk_zero h0
    rw [h0] at HK0
    clear HK h0
    go_enter Try.func19, Try.ntmps19
    go_wp2_with (go_at_call 61; refine (HK0.out).mono ?_; rintro e w' ⟨n0, rfl, rfl⟩)
    go_loopw [5, 15] (fun v i wr => ∃ (j p1 p2 n : Nat), j ≤ zs.length ∧ v = .complex .f64 p1 p2 ∧ i = .int .i64 j ∧ wr = w.drewN n ∧ Hid (foldC mulF (p1, p2) (zs.drop j) = foldC mulF (one, 0) zs)) (fun _ i _ => zs.length - (intOf i).toNat)
    case atStart => exact ⟨0, _, _, _, Nat.zero_le _, rfl, rfl, rfl, rfl⟩
    case round =>
      obtain ⟨j, p1, p2, n, hj, rfl, rfl, rfl, hf⟩ := hrel
      by_cases hjk : j < zs.length
      · obtain ⟨c, o, ha, hcell⟩ := HC.out j hjk
        subst ha
        have hjI : (j : Int) < (zs.length : Int) := by omega
        have hs := drop_step j hjk
        have HS := Lib.hid hs
        clear hs
        cases hq : finC (mRe p1 p2 zs[j].1 zs[j].2) (mIm p1 p2 zs[j].1 zs[j].2)
        · have hp := Lib.hid fun W => (productWide_any p1 p2 zs[j].1 zs[j].2 W).mono fun _ _ => prod_no hq
          have HQ := Lib.hid hq
          clear hq
          go_wp2_with (first | (go_at_call 56; refine (hp.out _).mono ?_; rintro e w' ⟨r, i, n, rfl, hbad, rfl⟩) | (go_at_call 46; refine (iFin _ _ _).mono ?_; rintro e w' ⟨rfl, rfl⟩))
          go_ret2
          exact ⟨_, by rw [← hf.out, HS.out, foldC_no HQ.out]; rfl, rfl⟩
        · have hp := Lib.hid fun W => (productWide_any p1 p2 zs[j].1 zs[j].2 W).mono fun _ _ => prod_yes hq
          go_wp2_with (first | (go_at_call 56; refine (hp.out _).mono ?_; rintro e w' ⟨_, rfl, rfl⟩) | (go_at_call 46; refine (iFin _ _ _).mono ?_; rintro e w' ⟨rfl, rfl⟩))
          go_roundw
          case rel => exact ⟨j + 1, _, _, _, by omega, rfl, by go_num, rfl, (show _ = _ by rw [← hf.out, HS.out, foldC_yes hq]; rfl)⟩
          case measure => simp [intOf]; omega
      · have he : zs.drop j = [] := List.drop_eq_nil_of_le (by omega)
        have HE := Lib.hid he
        clear he
        obtain rfl : j = zs.length := by omega
        go_wp2
        go_ret2
        exact ⟨_, by rw [← hf.out, HE.out]; rfl, rfl⟩
  · rw [if_neg h0]
    have hd : (chkR zs != 0) = true := by simpa using h0
    clear h0 HK
    go_enter Try.func19, Try.ntmps19
    go_wp2_with (go_at_call 61; refine (HK0.out).mono ?_; rintro e w' ⟨n0, rfl, rfl⟩)
    go_ret2
    exact ⟨_, rfl, rfl⟩

theorem caddF (P : Program) (t : TypeId) (a b c d : Nat) (h : finC (cf .add .f64 a c) (cf .add .f64 b d) = true) :
    (∀ W, (cadd P W .add t .f64 a b c d).1 = cf .add .f64 a c) ∧ (∀ W, (cadd P W .add t .f64 a b c d).2.1 = cf .add .f64 b d) := by
  obtain ⟨f1, f2⟩ := finC_split h
  exact ⟨fun W => (cadd_spec P W .add (.inl rfl) t .f64 a b c d).2.1.eq f1, fun W => (cadd_spec P W .add (.inl rfl) t .f64 a b c d).2.2.eq f2⟩
theorem caddN (P : Program) (t : TypeId) (a b c d : Nat) (h : finC (cf .add .f64 a c) (cf .add .f64 b d) = false) :
    ∀ W, finC (cadd P W .add t .f64 a b c d).1 (cadd P W .add t .f64 a b c d).2.1 = false := fun W => by
  have g := (cadd_spec P W .add (.inl rfl) t .f64 a b c d).2
  rw [finC_congr g.1 g.2]; exact h

set_option maxHeartbeats 800000 in
theorem iSum (a : Option Addr) (zs : List (Nat × Nat)) (cap : Nat) (w : World) (hc : Cells w a zs) : Calls Try.prog 24 #[.slice a zs.length cap] w (Ret (pairV (sumL zs)) w) := by
  have HK0 := Lib.hid (iChk a zs cap w hc)
  obtain ⟨hl, hcell⟩ := hc
  have HC := Lib.hid hcell
  clear hcell hl
  unfold sumL
  by_cases h0 : chkR zs = 0
  · rw [if_pos h0]
    have hlen := chk_zero h0
    rw [h0] at HK0
    clear h0
    go_enter Try.func24, Try.ntmps24
    go_wp2_with (go_at_call 61; refine (HK0.out).mono ?_; rintro e w' ⟨n0, rfl, rfl⟩)
    go_loopw [5, 15] (fun v i wr => ∃ (j p1 p2 n : Nat), j ≤ zs.length ∧ v = .complex .f64 p1 p2 ∧ i = .int .i64 j ∧ wr = w.drewN n ∧ Hid (foldC addF (p1, p2) (zs.drop j) = foldC addF (0, 0) zs)) (fun _ i _ => zs.length - (intOf i).toNat)
    case atStart => exact ⟨0, _, _, _, Nat.zero_le _, rfl, rfl, rfl, rfl⟩
    case round =>
      obtain ⟨j, p1, p2, n, hj, rfl, rfl, rfl, hf⟩ := hrel
      by_cases hjk : j < zs.length
      · obtain ⟨c, o, ha, hcell⟩ := HC.out j hjk
        subst ha
        have hjI : (j : Int) < (zs.length : Int) := by omega
        have hs := drop_step j hjk
        have HS := Lib.hid hs
        clear hs
        cases hq : finC (cf .add .f64 p1 zs[j].1) (cf .add .f64 p2 zs[j].2)
        · have hn := caddN Try.prog 24 p1 p2 zs[j].1 zs[j].2 hq
          have HQ := Lib.hid hq
          clear hq
          go_wp2_with (go_at_call 46; refine (iFin _ _ _).mono ?_; rintro e w' ⟨rfl, rfl⟩)
          go_ret2
          exact ⟨_, by rw [← hf.out, HS.out, foldC_no HQ.out]; rfl, rfl⟩
        · obtain ⟨e1, e2⟩ := caddF Try.prog 24 p1 p2 zs[j].1 zs[j].2 hq
          go_wp2_with (go_at_call 46; refine (iFin _ _ _).mono ?_; rintro e w' ⟨rfl, rfl⟩)
          go_roundw
          case rel => exact ⟨j + 1, _, _, _, by omega, rfl, by go_num, rfl, (show _ = _ by rw [← hf.out, HS.out, foldC_yes hq]; rfl)⟩
          case measure => simp [intOf]; omega
      · have he : zs.drop j = [] := List.drop_eq_nil_of_le (by omega)
        have HE := Lib.hid he
        clear he
        obtain rfl : j = zs.length := by omega
        go_wp2
        go_ret2
        exact ⟨_, by rw [← hf.out, HE.out]; rfl, rfl⟩
  · rw [if_neg h0]
    have hd : (chkR zs != 0) = true := by simpa using h0
    clear h0
    go_enter Try.func24, Try.ntmps24
    go_wp2_with (go_at_call 61; refine (HK0.out).mono ?_; rintro e w' ⟨n0, rfl, rfl⟩)
    go_ret2
    exact ⟨_, rfl, rfl⟩

set_option maxHeartbeats 800000 in
theorem sSum (a : Option Addr) (zs : List (Nat × Nat)) (cap : Nat) (w : World) (hc : Cells w a zs) : Calls Try.prog 25 #[.slice a zs.length cap] w (Ret (pairV (sumL zs)) w) := by
  have HK0 := Lib.hid (sChk a zs cap w hc)
  obtain ⟨hl, hcell⟩ := hc
  have HC := Lib.hid hcell
  clear hcell hl
  unfold sumL
  by_cases h0 : chkR zs = 0
  · rw [if_pos h0]
    have hlen := chk_zero h0
    rw [h0] at HK0
    clear h0
    go_enter Try.func25, Try.ntmps25
    go_wp2_with (go_at_call 66; refine (HK0.out).mono ?_; rintro e w' ⟨n0, rfl, rfl⟩)
    go_loopw [5, 6] (fun v i wr => ∃ (j p1 p2 n : Nat), j ≤ zs.length ∧ v = .complex .f64 p1 p2 ∧ i = .int .i64 j ∧ wr = w.drewN n ∧ Hid (foldC addF (p1, p2) (zs.drop j) = foldC addF (0, 0) zs)) (fun _ i _ => zs.length - (intOf i).toNat)
    case atStart => exact ⟨0, _, _, _, Nat.zero_le _, rfl, rfl, rfl, rfl⟩
    case round =>
      obtain ⟨j, p1, p2, n, hj, rfl, rfl, rfl, hf⟩ := hrel
      by_cases hjk : j < zs.length
      · obtain ⟨c, o, ha, hcell⟩ := HC.out j hjk
        subst ha
        have hjI : (j : Int) < (zs.length : Int) := by omega
        have hs := drop_step j hjk
        have HS := Lib.hid hs
        clear hs
        cases hq : finC (cf .add .f64 p1 zs[j].1) (cf .add .f64 p2 zs[j].2)
        · have hn := caddN Try.prog 24 p1 p2 zs[j].1 zs[j].2 hq
          have HQ := Lib.hid hq
          clear hq
          go_wp2_with (go_at_call 49; refine (sFin _ _ _).mono ?_; rintro e w' ⟨_, rfl, rfl⟩)
          go_ret2
          exact ⟨_, by rw [← hf.out, HS.out, foldC_no HQ.out]; rfl, rfl⟩
        · obtain ⟨e1, e2⟩ := caddF Try.prog 24 p1 p2 zs[j].1 zs[j].2 hq
          go_wp2_with (go_at_call 49; refine (sFin _ _ _).mono ?_; rintro e w' ⟨_, rfl, rfl⟩)
          go_roundw
          case rel => exact ⟨j + 1, _, _, _, by omega, rfl, by go_num, rfl, (show _ = _ by rw [← hf.out, HS.out, foldC_yes hq]; rfl)⟩
          case measure => simp [intOf]; omega
      · have he : zs.drop j = [] := List.drop_eq_nil_of_le (by omega)
        have HE := Lib.hid he
        clear he
        obtain rfl : j = zs.length := by omega
        go_wp2
        go_ret2
        exact ⟨_, by rw [← hf.out, HE.out]; rfl, rfl⟩
  · rw [if_neg h0]
    have hd : (chkR zs != 0) = true := by simpa using h0
    clear h0
    go_enter Try.func25, Try.ntmps25
    go_wp2_with (go_at_call 66; refine (HK0.out).mono ?_; rintro e w' ⟨n0, rfl, rfl⟩)
    go_ret2
    exact ⟨_, rfl, rfl⟩
end Go.Proofs.Ytpchcigpppdfiaa
