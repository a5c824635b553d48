/-
  Contracts: parts and polynomials are told by both sides alike. Conditions: the list's cells can be read. Contracts: copies of lists of complex numbers, and lists without their last zeros. Conditions: the list's cells can be read. Contracts: lists without their last zeros; lists that are too great or not finite. Conditions: the list's cells can be read. Contracts: copies of lists of complex numbers by both sides, and lists that are parts or beyond the limit. Conditions: the list's cells can be read. Contracts: lists that are parts or beyond the limit, by both sides. Conditions: the list's cells can be read.
-/
import Derived.Test.YtabpgkkickdopaaWl
import Derived.Test.YtabpgkkickdopaaSm
import Derived.Test.YtabpgkkickdopaaMk
namespace Go.Proofs.Ytabpgkkickdopaa
set_option linter.unusedVariables false
open Go Go.RowKit

/-- Whether the last number of a list is 0 (and there is one). -/
def lastZ (zs : List (Nat × Nat)) : Bool := match zs.getLast? with | some z => isZ z.1 z.2 | none => false
def partR (zs : List (Nat × Nat)) : Bool := decide (zs.length ≤ 13) && (allF zs && !(lastZ zs))
def polyR (zs : List (Nat × Nat)) : Bool := decide (2 ≤ zs.length) && partR zs
theorem lastZ_nil : lastZ [] = false := rfl
theorem lastZ_at {zs : List (Nat × Nat)} (h : 0 < zs.length) : lastZ zs = isZ (zs[zs.length - 1]).1 (zs[zs.length - 1]).2 := by
  unfold lastZ
  rw [List.getLast?_eq_getElem?, List.getElem?_eq_getElem (by omega)]

set_option maxHeartbeats 800000 in
theorem iPart (a : Option Addr) (zs : List (Nat × Nat)) (cap : Nat) (w : World) (hc : Cells w a zs) : Calls Try.prog 97 #[.slice a zs.length cap] w (Ret (.bool (partR zs)) w) := by
  have H := Lib.hid (iAll a zs cap w hc)
  have HCC := Lib.hid hc
  obtain ⟨hl, hcell⟩ := hc
  by_cases h13 : 13 < (zs.length : Int)
  · have e : partR zs = false := by unfold partR; rw [decide_eq_false (by omega)]; rfl
    rw [e]
    clear hcell e H HCC
    go_enter Try.func97, Try.ntmps97
    go_wp2_with fail
    go_ret
    exact ⟨0, rfl, rfl⟩
  · have e : partR zs = (allF zs && !(lastZ zs)) := by unfold partR; rw [decide_eq_true (by omega)]; rfl
    rw [e]
    clear e
    cases hf : allF zs
    · rw [hf] at H
      clear hcell HCC hf
      go_enter Try.func97, Try.ntmps97
      go_wp2_with fail
      refine H.out.mono ?_
      rintro e w' ⟨n, rfl, rfl⟩
      go_wp2_with fail
      go_ret
      exact ⟨_, rfl, rfl⟩
    · rw [hf] at H
      by_cases h0 : zs.length = 0
      · have e0 : zs = [] := List.eq_nil_of_length_eq_zero h0
        subst e0
        clear hcell HCC hf h0
        simp only [List.length_nil] at *
        go_enter Try.func97, Try.ntmps97
        go_wp2_with fail
        refine H.out.mono ?_
        rintro e w' ⟨n, rfl, rfl⟩
        go_wp2_with fail
        go_ret
        exact ⟨_, rfl, rfl⟩
      · obtain ⟨c, o, ha, hcl⟩ := hcell (zs.length - 1) (by omega)
        have e1 : ((zs.length : Int) == 0) = false := beq_eq_false_iff_ne.2 (by omega)
        have e2 : ((zs.length : Int) - 1).toNat = zs.length - 1 := by omega
        have e3 : (0 : Int) ≤ (zs.length : Int) - 1 := by omega
        have hlz := lastZ_at (zs := zs) (by omega)
        rw [hlz]
        obtain ⟨x, hx⟩ : ∃ x, (zs[zs.length - 1]).1 = x := ⟨_, rfl⟩
        obtain ⟨y, hy⟩ : ∃ y, (zs[zs.length - 1]).2 = y := ⟨_, rfl⟩
        rw [hx, hy] at hcl ⊢
        subst ha
        clear hcell HCC hf hlz hx hy
        have hz0 : isZ x y = true ∨ isZ x y = false := by cases isZ x y <;> simp
        rcases hz0 with hz | hz
        all_goals
          rw [hz]
          unfold isZ at hz
          go_enter Try.func97, Try.ntmps97
          go_wp2_with fail
          refine H.out.mono ?_
          rintro e w' ⟨n, rfl, rfl⟩
          go_wp2_with fail
          go_ret
          exact ⟨_, rfl, rfl⟩

set_option maxHeartbeats 800000 in
theorem iPoly (a : Option Addr) (zs : List (Nat × Nat)) (cap : Nat) (w : World) (hc : Cells w a zs) : Calls Try.prog 77 #[.slice a zs.length cap] w (Ret (.bool (polyR zs)) w) := by
  have H := Lib.hid (iPart a zs cap w hc)
  have hl := hc.1
  clear hc
  by_cases h2 : 1 < (zs.length : Int)
  · have e : polyR zs = partR zs := by unfold polyR; rw [decide_eq_true (by omega)]; rfl
    rw [e]
    clear e
    go_enter Try.func77, Try.ntmps77
    go_wp2_with fail
    refine H.out.mono ?_
    rintro e w' ⟨n, rfl, rfl⟩
    go_wp2_with fail
    go_ret
    exact ⟨_, rfl, rfl⟩
  · have e : polyR zs = false := by unfold polyR; rw [decide_eq_false (by omega)]; rfl
    rw [e]
    clear e
    go_enter Try.func77, Try.ntmps77
    go_wp2_with fail
    go_ret
    exact ⟨0, rfl, rfl⟩
set_option maxHeartbeats 400000 in
theorem iIsPoly (a : Option Addr) (zs : List (Nat × Nat)) (cap : Nat) (w : World) (hc : Cells w a zs) : Calls Try.prog 45 #[.slice a zs.length cap] w (Ret (.bool (polyR zs)) w) := by
  have H := Lib.hid (iPoly a zs cap w hc)
  clear hc
  go_enter Try.func45, Try.ntmps45
  go_wp2_with fail
  refine H.out.mono ?_
  rintro e w' ⟨n, rfl, rfl⟩
  go_wp2_with fail
  go_ret
  exact ⟨_, rfl, rfl⟩
theorem allF_no {zs : List (Nat × Nat)} (j : Nat) (h : j < zs.length) (hq : finC zs[j].1 zs[j].2 = false) : allF zs = false := by
  cases ha : allF zs
  · rfl
  · have := allF_at ha j h; rw [hq] at this; cases this
theorem partR_no {zs : List (Nat × Nat)} (h : allF zs = false) : partR zs = false := by unfold partR; rw [h]; simp
theorem polyR_no {zs : List (Nat × Nat)} (h : partR zs = false) : polyR zs = false := by unfold polyR; rw [h]; simp

set_option maxHeartbeats 800000 in
theorem sAll4 (a : Option Addr) (zs : List (Nat × Nat)) (cap : Nat) (w : World) (hc : Cells w a zs) : Calls Try.prog 80 #[.slice a zs.length cap] w (Ret (.bool (allF zs)) w) := by
  obtain ⟨hl, hcell⟩ := hc
  have HC := Lib.hid hcell
  clear hcell
  go_enter Try.func80, Try.ntmps80
  go_wp2_with fail
  go_loopw [3] (fun i wr => ∃ (j n : Nat), j ≤ zs.length ∧ i = .int .i64 j ∧ wr = w.drewN n ∧ Hid (∀ (i : Nat) (hi : i < zs.length), i < j → finC zs[i].1 zs[i].2 = true)) (fun i _ => zs.length - (intOf i).toNat)
  case atStart => exact ⟨0, 0, Nat.zero_le _, rfl, rfl, fun i hi h => absurd h (Nat.not_lt_zero _)⟩
  case round =>
    obtain ⟨j, n, hj, rfl, rfl, hf⟩ := hrel
    by_cases hjk : j < zs.length
    · obtain ⟨c, o, ha, hcell⟩ := HC.out j hjk
      subst ha
      have hjI : (j : Int) < (zs.length : Int) := by omega
      cases hq : finC zs[j].1 zs[j].2
      · rw [allF_no j hjk hq]
        go_wp2_with (go_at_call 51; refine (sFin _ _ _).mono ?_; rintro e w' ⟨_, rfl, rfl⟩)
        go_ret
        exact ⟨_, rfl, rfl⟩
      · have HQ := Lib.hid hq
        go_wp2_with (go_at_call 51; refine (sFin _ _ _).mono ?_; rintro e w' ⟨_, rfl, rfl⟩)
        go_roundw
        case rel =>
          refine ⟨j + 1, _, by omega, by go_num, rfl, fun i hi h => ?_⟩
          by_cases hij : i = j
          · subst hij; exact HQ.out
          · exact hf.out i hi (by omega)
        case measure => simp [intOf]; omega
    · have e : allF zs = true := allF_of (fun i hi => hf.out i hi (by omega))
      have HE := Lib.hid e
      clear e
      obtain rfl : j = zs.length := by omega
      go_wp2_with fail
      go_ret
      exact ⟨_, by rw [HE.out]; rfl, rfl⟩

set_option maxHeartbeats 1600000 in
theorem sPart (a : Option Addr) (zs : List (Nat × Nat)) (cap : Nat) (w : World) (hc : Cells w a zs) : Calls Try.prog 68 #[.slice a zs.length cap] w (Ret (.bool (partR zs)) w) := by
  obtain ⟨hl, hcell⟩ := hc
  have HC := Lib.hid hcell
  clear hcell
  go_enter Try.func68, Try.ntmps68
  go_wp2_with fail
  go_loopw [4] (fun i wr => ∃ (j n : Nat), j ≤ zs.length ∧ i = .int .i64 j ∧ wr = w.drewN n ∧ Hid (∀ (i : Nat) (hi : i < zs.length), i < j → finC zs[i].1 zs[i].2 = true)) (fun i _ => zs.length - (intOf i).toNat)
  case atStart => exact ⟨0, 0, Nat.zero_le _, rfl, rfl, fun i hi h => absurd h (Nat.not_lt_zero _)⟩
  case round =>
    obtain ⟨j, n, hj, rfl, rfl, hf⟩ := hrel
    by_cases hjk : j < zs.length
    · obtain ⟨c, o, ha, hcell⟩ := HC.out j hjk
      subst ha
      have hjI : (j : Int) < (zs.length : Int) := by omega
      cases hq : finC zs[j].1 zs[j].2
      · rw [partR_no (allF_no j hjk hq)]
        go_wp2_with (go_at_call 51; refine (sFin _ _ _).mono ?_; rintro e w' ⟨_, rfl, rfl⟩)
        go_ret
        exact ⟨_, rfl, rfl⟩
      · have HQ := Lib.hid hq
        go_wp2_with (go_at_call 51; refine (sFin _ _ _).mono ?_; rintro e w' ⟨_, rfl, rfl⟩)
        go_roundw
        case rel =>
          refine ⟨j + 1, _, by omega, by go_num, rfl, fun i hi h => ?_⟩
          by_cases hij : i = j
          · subst hij; exact HQ.out
          · exact hf.out i hi (by omega)
        case measure => simp [intOf]; omega
    · have e : allF zs = true := allF_of (fun i hi => hf.out i hi (by omega))
      obtain rfl : j = zs.length := by omega
      have ep : partR zs = (decide (zs.length ≤ 13) && !(lastZ zs)) := by unfold partR; rw [e]; rfl
      clear e hf
      by_cases h0 : zs.length = 0
      · have e0 : zs = [] := List.eq_nil_of_length_eq_zero h0
        have HEP := Lib.hid (show partR zs = true by rw [ep, e0]; rfl)
        have e1 : ((zs.length : Int) == 0) = true := beq_iff_eq.2 (by omega)
        clear ep e0 hjk hj HC h0
        go_wp2_with fail
        go_ret
        exact ⟨_, by rw [HEP.out]; rfl, rfl⟩
      · have e1 : ((zs.length : Int) == 0) = false := beq_eq_false_iff_ne.2 (by omega)
        by_cases h13 : zs.length ≤ 13
        · rw [decide_eq_true h13] at ep
          have h13I : (zs.length : Int) ≤ 13 := by omega
          obtain ⟨c, o, ha, hcl⟩ := HC.out (zs.length - 1) (by omega)
          have e2 : ((zs.length : Int) - 1).toNat = zs.length - 1 := by omega
          have e3 : (0 : Int) ≤ (zs.length : Int) - 1 := by omega
          have hlz := lastZ_at (zs := zs) (by omega)
          rw [hlz] at ep
          obtain ⟨x, hx⟩ : ∃ x, (zs[zs.length - 1]).1 = x := ⟨_, rfl⟩
          obtain ⟨y, hy⟩ : ∃ y, (zs[zs.length - 1]).2 = y := ⟨_, rfl⟩
          rw [hx, hy] at hcl ep
          subst ha
          clear hlz hx hy HC
          have hz0 : isZ x y = true ∨ isZ x y = false := by cases isZ x y <;> simp
          rcases hz0 with hz | hz
          all_goals
            rw [hz] at ep
            have HEP := Lib.hid ep
            clear ep
            unfold isZ at hz
            go_wp2_with fail
            go_ret
            exact ⟨_, by rw [HEP.out]; rfl, rfl⟩
        · rw [decide_eq_false h13] at ep
          have h13I : ¬ (zs.length : Int) ≤ 13 := by omega
          have HEP := Lib.hid ep
          clear HC ep
          go_wp2_with fail
          go_ret
          exact ⟨_, by rw [HEP.out]; rfl, rfl⟩

set_option maxHeartbeats 1600000 in
theorem sIs4 (a : Option Addr) (zs : List (Nat × Nat)) (cap : Nat) (w : World) (hc : Cells w a zs) : Calls Try.prog 50 #[.slice a zs.length cap] w (Ret (.bool (polyR zs)) w) := by
  obtain ⟨hl, hcell⟩ := hc
  have HC := Lib.hid hcell
  clear hcell
  by_cases h2 : (zs.length : Int) < 2
  · have e : polyR zs = false := by unfold polyR; rw [decide_eq_false (by omega)]; rfl
    rw [e]
    clear e HC
    go_enter Try.func50, Try.ntmps50
    go_wp2_with fail
    go_ret
    exact ⟨0, rfl, rfl⟩
  by_cases h13 : 13 < (zs.length : Int)
  · have e : polyR zs = false := polyR_no (by unfold partR; rw [decide_eq_false (by omega)]; rfl)
    rw [e]
    clear e HC
    go_enter Try.func50, Try.ntmps50
    go_wp2_with fail
    go_ret
    exact ⟨0, rfl, rfl⟩
  · go_enter Try.func50, Try.ntmps50
    go_wp2_with fail
    go_loopw [4] (fun i wr => ∃ (j n : Nat), j ≤ zs.length ∧ i = .int .i64 j ∧ wr = w.drewN n ∧ Hid (∀ (i : Nat) (hi : i < zs.length), i < j → finC zs[i].1 zs[i].2 = true)) (fun i _ => zs.length - (intOf i).toNat)
    case atStart => exact ⟨0, 0, Nat.zero_le _, rfl, rfl, fun i hi h => absurd h (Nat.not_lt_zero _)⟩
    case round =>
      obtain ⟨j, n, hj, rfl, rfl, hf⟩ := hrel
      by_cases hjk : j < zs.length
      · obtain ⟨c, o, ha, hcell⟩ := HC.out j hjk
        subst ha
        have hjI : (j : Int) < (zs.length : Int) := by omega
        cases hq : finC zs[j].1 zs[j].2
        · rw [polyR_no (partR_no (allF_no j hjk hq))]
          go_wp2_with (go_at_call 51; refine (sFin _ _ _).mono ?_; rintro e w' ⟨_, rfl, rfl⟩)
          go_ret
          exact ⟨_, rfl, rfl⟩
        · have HQ := Lib.hid hq
          go_wp2_with (go_at_call 51; refine (sFin _ _ _).mono ?_; rintro e w' ⟨_, rfl, rfl⟩)
          go_roundw
          case rel =>
            refine ⟨j + 1, _, by omega, by go_num, rfl, fun i hi h => ?_⟩
            by_cases hij : i = j
            · subst hij; exact HQ.out
            · exact hf.out i hi (by omega)
          case measure => simp [intOf]; omega
      · have e : allF zs = true := allF_of (fun i hi => hf.out i hi (by omega))
        obtain rfl : j = zs.length := by omega
        have ep : polyR zs = !(lastZ zs) := by unfold polyR partR; rw [e, decide_eq_true (show 2 ≤ zs.length by omega), decide_eq_true (show zs.length ≤ 13 by omega)]; rfl
        clear e hf
        obtain ⟨c, o, ha, hcl⟩ := HC.out (zs.length - 1) (by omega)
        have e2 : ((zs.length : Int) - 1).toNat = zs.length - 1 := by omega
        have e3 : (0 : Int) ≤ (zs.length : Int) - 1 := by omega
        have hlz := lastZ_at (zs := zs) (by omega)
        rw [hlz] at ep
        obtain ⟨x, hx⟩ : ∃ x, (zs[zs.length - 1]).1 = x := ⟨_, rfl⟩
        obtain ⟨y, hy⟩ : ∃ y, (zs[zs.length - 1]).2 = y := ⟨_, rfl⟩
        rw [hx, hy] at hcl ep
        subst ha
        clear hlz hx hy HC
        have hz0 : isZ x y = true ∨ isZ x y = false := by cases isZ x y <;> simp
        rcases hz0 with hz | hz
        all_goals
          rw [hz] at ep
          have HEP := Lib.hid ep
          clear ep
          unfold isZ at hz
          go_wp2_with fail
          go_ret
          exact ⟨_, by rw [HEP.out]; rfl, rfl⟩

/-- The call returns a list that it made: the numbers zs. -/
def RetCL (zs : List (Nat × Nat)) (w : World) (e : Ending) (w' : World) : Prop := ∃ v, e = .returned v ∧ OwnC w.heap.size w' v zs ∧ Below w.heap.size w w'
theorem OwnC.empty (w : World) (lo : Nat) (hb : lo ≤ w.heap.size) : OwnC lo (w.alloc (.cells #[] 25)) (.slice (some ⟨w.heap.size, 0, none⟩) 0 0) [] := World.ownsRow_made w #[] 0 hb (by unfold maxLen; omega) rfl
theorem OwnC.none (w : World) (lo : Nat) : OwnC lo w (.slice none 0 0) [] := ⟨rfl, .inl ⟨rfl, rfl⟩⟩

theorem cells_add {w : World} {ad : Addr} {ys : List (Nat × Nat)} (h : Cells w (some ad) ys) : ∀ (i : Nat) (h : i < ys.length), w.cell? (ad.add i) = some (cv ys[i]) := fun i hi => by
  obtain ⟨c, o, ha, hc⟩ := h.2 i hi
  injection ha with ha
  subst ha
  have hadd : (⟨c, o, none⟩ : Addr).add i = ⟨c, o + i, none⟩ := by
    by_cases h0 : i = 0
    · subst h0; simp [Addr.add]
    · simp [Addr.add, h0]
  rw [hadd]
  exact hc

/-- append(list, others...) on a list of the call's own. -/
theorem wp_appL {ops : Array Oper} {rest : List Oper} {o : Oper} {a : Act} {Q : Exit → Act → World → Prop} {w : World} (hgd : o.guard = none) (s x : Operand)
    (ho : o.op = .call { callee := .builtin .append, args := #[s, x], argTypes := #[24, 24] })
    (base : Nat) (v : Value) (zs ys : List (Nat × Nat)) (hown : OwnC base w v zs) (hs : a.eval s = v) (ad : Addr) (m c : Nat)
    (hx : a.eval x = .slice (some ad) m c) (hm : m = ys.length) (hy : Cells w (some ad) ys) (hlen : zs.length + ys.length ≤ 100000) (hbase : base ≤ w.heap.size)
    (h : ∀ v' w', OwnC base w' v' (zs ++ ys) → w.grownBy w' v.ownBlock → wpList Try.prog ops Q rest (a.put o.dst v') w') : wpList Try.prog ops Q (o :: rest) a w := by
  obtain ⟨i0, hi, hz0, hz1, hz2⟩ := info_parts info24
  subst hm
  refine wpList_append_own _ hgd s x 24 ho base 25 i0 (.complex .f64 0 0) 1 16 Try.underlying24 hi hz0 hz1 hz2 rfl (by decide) v zs.length (zs.map cv) hs hown ad ys.length c (ys.map cv) hx (by simp) ?_ (by intro u hu; simp at hu; obtain ⟨_, _, _, rfl⟩ := hu; rfl) (by unfold maxLen; omega) (by omega) hbase ?_
  · intro j u hu
    rw [List.getElem?_map, Option.map_eq_some_iff] at hu
    obtain ⟨y, hy', rfl⟩ := hu
    obtain ⟨hj, rfl⟩ := List.getElem?_eq_some_iff.1 hy'
    exact cells_add hy j hj
  intro v' w' h1 h2 _
  refine h v' w' ?_ h2
  unfold OwnC
  rw [List.length_append, List.map_append]
  exact h1

theorem Cells.alloc {w : World} {a : Option Addr} {zs : List (Nat × Nat)} (h : Cells w a zs) (o : Obj) : Cells (w.alloc o) a zs := by
  refine ⟨h.1, fun i hi => ?_⟩
  obtain ⟨c, o', ha, hc⟩ := h.2 i hi
  refine ⟨c, o', ha, ?_⟩
  have hb : c < w.heap.size := by
    unfold World.cell? at hc
    cases hh : w.heap[c]? with
    | none => simp only [hh] at hc; cases hc
    | some _ => exact (Array.getElem?_eq_some_iff.1 hh).1
  rw [World.cell?_alloc_lt w o ⟨c, o' + i, none⟩ hb]
  exact hc

set_option maxHeartbeats 400000 in
theorem iCloneC (a : Option Addr) (zs : List (Nat × Nat)) (c : Nat) (w : World) (hl : zs.length ≤ 100000) (hx : Cells w a zs) :
    Calls Try.prog 92 #[.slice a zs.length c] w (RetCL zs w) := by
  have hnil := fun (W : World) (a : Option Addr) (n c : Nat) => Lib.run_eql_slice_nil W 24 25 a n c 0 0 Try.underlying24
  cases a with
  | none =>
    have h0 : zs = [] := by
      rcases Nat.eq_zero_or_pos zs.length with h | h
      · exact List.eq_nil_of_length_eq_zero h
      · obtain ⟨_, _, he, _⟩ := hx.2 0 h; cases he
    subst h0
    clear hx hl
    simp only [List.length_nil]
    go_enter Try.func92, Try.ntmps92
    go_wp2_with fail
    go_ret
    exact ⟨_, rfl, OwnC.none _ _, (by repeat (first | exact Below.refl _ _ | assumption | refine Below.alloc ?_ (by simp <;> omega) _ | refine Below.setCell ?_ (by simp <;> omega) _ | refine below_drewN ?_ _))⟩
  | some ad =>
    have HX := Lib.hid hx
    have HL := Lib.hid hl
    clear hx hl
    go_enter Try.func92, Try.ntmps92
    go_wp2_with (at_builtin; refine wp_appL rfl _ _ rfl w.heap.size _ [] zs (OwnC.empty w _ (Nat.le_refl _)) rfl ad zs.length c rfl rfl (HX.out.alloc _) (by have := HL.out; simp; omega) (by simp) ?_; intro v' w' hown hgrow)
    have HO := Lib.hid hown
    have HB := Lib.hid ((Below.alloc (Below.refl w.heap.size w) (Nat.le_refl _) (.cells #[] 25)).grown hgrow (by simp) (fun g hg => by simp [Value.ownBlock] at hg; omega))
    clear hgrow hown
    go_wp2_with fail
    go_ret
    exact ⟨_, rfl, HO.out, HB.out⟩

/-- How many numbers are left of the first k, when the zeros at their end are left out. -/
def trimK (zs : List (Nat × Nat)) : Nat → Nat
  | 0 => 0
  | k + 1 => if h : k < zs.length then (if isZ zs[k].1 zs[k].2 = true then trimK zs k else k + 1) else 0
def trimN (zs : List (Nat × Nat)) : Nat := trimK zs zs.length
theorem trimK_zero (zs : List (Nat × Nat)) : trimK zs 0 = 0 := rfl
theorem trimK_yes {zs : List (Nat × Nat)} {k : Nat} (h0 : 0 < k) (h : k - 1 < zs.length) (hz : isZ zs[k - 1].1 zs[k - 1].2 = true) : trimK zs k = trimK zs (k - 1) := by
  obtain ⟨m, rfl⟩ : ∃ m, k = m + 1 := ⟨k - 1, by omega⟩
  simp only [Nat.add_sub_cancel] at h hz ⊢
  rw [trimK, dif_pos h, if_pos hz]
theorem trimK_no {zs : List (Nat × Nat)} {k : Nat} (h0 : 0 < k) (h : k - 1 < zs.length) (hz : isZ zs[k - 1].1 zs[k - 1].2 = false) : trimK zs k = k := by
  obtain ⟨m, rfl⟩ : ∃ m, k = m + 1 := ⟨k - 1, by omega⟩
  simp only [Nat.add_sub_cancel] at h hz
  rw [trimK, dif_pos h, if_neg (by rw [hz]; simp)]
theorem trimK_le (zs : List (Nat × Nat)) : ∀ k, trimK zs k ≤ k
  | 0 => Nat.le_refl _
  | k + 1 => by
    have := trimK_le zs k
    rw [trimK]
    split
    · split <;> omega
    · omega
theorem trimN_le (zs : List (Nat × Nat)) : trimN zs ≤ zs.length := trimK_le zs _
def trimL (zs : List (Nat × Nat)) : List (Nat × Nat) := zs.take (trimN zs)
theorem trimL_length (zs : List (Nat × Nat)) : (trimL zs).length = trimN zs := by
  have := trimN_le zs
  unfold trimL; rw [List.length_take]; omega
theorem Cells.take {w : World} {a : Option Addr} {zs : List (Nat × Nat)} (h : Cells w a zs) (n : Nat) : Cells w a (zs.take n) := by
  refine ⟨by have := h.1; rw [List.length_take]; omega, fun i hi => ?_⟩
  rw [List.length_take] at hi
  rw [List.getElem_take]
  exact h.2 i (by omega)

set_option maxHeartbeats 800000 in
theorem iTrimC (a : Option Addr) (zs : List (Nat × Nat)) (c : Nat) (w : World) (hx : Cells w a zs) (hc : zs.length ≤ c) (hc2 : c ≤ 9223372036854775807) :
    Calls Try.prog 60 #[.slice a zs.length c] w (Ret (.slice a (trimN zs) c) w) := by
  have HX := Lib.hid hx
  clear hx
  obtain ⟨r, hr⟩ : ∃ r, r = trimN zs := ⟨_, rfl⟩
  rw [← hr]
  have HR := Lib.hid hr
  clear hr
  go_enter Try.func60, Try.ntmps60
  go_wp2_with fail
  go_loopw [3] (fun i wr => ∃ (k n : Nat), k ≤ zs.length ∧ i = .int .i64 k ∧ wr = w.drewN n ∧ Hid (trimK zs k = r)) (fun i _ => (intOf i).toNat)
  case atStart => exact ⟨zs.length, 0, Nat.le_refl _, rfl, rfl, HR.out.symm⟩
  case round =>
    obtain ⟨k, n, hk, rfl, rfl, hz⟩ := hrel
    by_cases h0 : 0 < k
    · obtain ⟨b, o, ha, hcell⟩ := HX.out.2 (k - 1) (by omega)
      subst ha
      have hi1 : ((k : Int) - 1).toNat = k - 1 := by omega
      have hi2 : (0 : Int) ≤ (k : Int) - 1 := by omega
      have hi3 : (k : Int) - 1 < (zs.length : Int) := by omega
      have h0I : (0 : Int) < (k : Int) := by omega
      have hyes := trimK_yes (zs := zs) h0 (show k - 1 < zs.length by omega)
      have hno := trimK_no (zs := zs) h0 (show k - 1 < zs.length by omega)
      have HYES := Lib.hid hyes
      have HNO := Lib.hid hno
      clear hyes hno
      obtain ⟨x, hxk⟩ : ∃ x, (zs[k - 1]).1 = x := ⟨_, rfl⟩
      obtain ⟨y, hyk⟩ : ∃ y, (zs[k - 1]).2 = y := ⟨_, rfl⟩
      rw [hxk, hyk] at hcell
      have HXY := Lib.hid (And.intro hxk hyk)
      clear hxk hyk
      have hz0 : isZ x y = true ∨ isZ x y = false := by cases isZ x y <;> simp
      rcases hz0 with he | he
      · have HE := Lib.hid he
        unfold isZ at he
        go_wp2_with fail
        go_roundw
        case rel =>
          refine ⟨k - 1, _, by omega, by (try simp); omega, rfl, ?_⟩
          refine Lib.hid ?_
          rw [← HYES.out (by rw [HXY.out.1, HXY.out.2]; exact HE.out)]
          exact hz.out
        case measure => simp [intOf]; omega
      · have HE := Lib.hid he
        unfold isZ at he
        have hkr : k = r := by rw [← hz.out]; exact (HNO.out (by rw [HXY.out.1, HXY.out.2]; exact HE.out)).symm
        subst hkr
        go_wp2_with fail
        go_ret
        exact ⟨_, rfl, rfl⟩
    · obtain rfl : k = 0 := by omega
      have : r = 0 := by rw [← hz.out]; rfl
      subst this
      go_wp2_with fail
      go_ret
      exact ⟨_, rfl, rfl⟩

theorem OwnC.parts {base : Nat} {w : World} {v : Value} {zs : List (Nat × Nat)} (h : OwnC base w v zs) : ∃ a c, v = .slice a zs.length c ∧ zs.length ≤ c ∧ c ≤ 9223372036854775807 ∧ Cells w a zs := by
  have h' := h
  obtain ⟨a, c, hv, hc⟩ := h.cells
  obtain ⟨_, h2⟩ := h'
  rcases h2 with ⟨hv', hn⟩ | ⟨g, cap, cur, hv', hg, hh, hc1, hc2, hc3, hc4⟩
  · subst hv
    injection hv' with e1 e2 e3
    subst e3
    exact ⟨a, 0, rfl, by omega, by omega, hc⟩
  · subst hv
    injection hv' with e1 e2 e3
    subst e3
    exact ⟨a, c, rfl, by first | exact hc1 | omega, by unfold maxLen at hc2; omega, hc⟩
theorem Cells.below {B : Nat} {w w' : World} {a : Option Addr} {zs : List (Nat × Nat)} (h : Cells w a zs) (hB : w.heap.size ≤ B) (hb : Below B w w') : Cells w' a zs := by
  refine ⟨h.1, fun i hi => ?_⟩
  obtain ⟨c, o', ha, hc⟩ := h.2 i hi
  refine ⟨c, o', ha, ?_⟩
  have hlt : c < w.heap.size := by
    unfold World.cell? at hc
    cases hh : w.heap[c]? with
    | none => simp only [hh] at hc; cases hc
    | some _ => exact (Array.getElem?_eq_some_iff.1 hh).1
  rw [hb.cell (p := ⟨c, o' + i, none⟩) (by show c < _; omega)]
  exact hc

set_option maxHeartbeats 400000 in
theorem iPolyOf (a : Option Addr) (zs : List (Nat × Nat)) (c : Nat) (w : World) (hl : zs.length ≤ 100000) (hx : Cells w a zs) :
    Calls Try.prog 47 #[.slice a zs.length c] w (RetCL zs w) := by
  have H := Lib.hid (iCloneC a zs c w hl hx)
  clear hl hx
  go_enter Try.func47, Try.ntmps47
  go_wp2_with fail
  refine H.out.mono ?_
  rintro e w' ⟨v, rfl, ho, hb⟩
  have HO := Lib.hid ho
  have HB := Lib.hid hb
  clear ho hb
  go_wp2_with fail
  go_ret
  exact ⟨_, rfl, HO.out, HB.out⟩

set_option maxHeartbeats 400000 in
theorem sOwnC (a : Option Addr) (zs : List (Nat × Nat)) (c : Nat) (w : World) (hl : zs.length ≤ 100000) (hx : Cells w a zs) :
    Calls Try.prog 86 #[.slice a zs.length c] w (RetCL zs w) := by
  cases a with
  | none =>
    have h0 : zs = [] := by
      rcases Nat.eq_zero_or_pos zs.length with h | h
      · exact List.eq_nil_of_length_eq_zero h
      · obtain ⟨_, _, he, _⟩ := hx.2 0 h; cases he
    subst h0
    clear hx hl
    simp only [List.length_nil]
    go_enter Try.func86, Try.ntmps86
    go_wp2_with fail
    go_ret
    exact ⟨_, rfl, OwnC.empty w _ (Nat.le_refl _), (by repeat (first | exact Below.refl _ _ | assumption | refine Below.alloc ?_ (by simp <;> omega) _ | refine Below.setCell ?_ (by simp <;> omega) _ | refine below_drewN ?_ _))⟩
  | some ad =>
    have HX := Lib.hid hx
    have HL := Lib.hid hl
    clear hx hl
    go_enter Try.func86, Try.ntmps86
    go_wp2_with (at_builtin; refine wp_appL rfl _ _ rfl w.heap.size _ [] zs (OwnC.empty w _ (Nat.le_refl _)) rfl ad zs.length c rfl rfl (HX.out.alloc _) (by have := HL.out; simp; omega) (by simp) ?_; intro v' w' hown hgrow)
    have HO := Lib.hid hown
    have HB := Lib.hid ((Below.alloc (Below.refl w.heap.size w) (Nat.le_refl _) (.cells #[] 25)).grown hgrow (by simp) (fun g hg => by simp [Value.ownBlock] at hg; omega))
    clear hgrow hown
    go_wp2_with fail
    go_ret
    exact ⟨_, rfl, HO.out, HB.out⟩

set_option maxHeartbeats 800000 in
theorem sTrimC (a : Option Addr) (zs : List (Nat × Nat)) (c : Nat) (w : World) (hx : Cells w a zs) (hc : zs.length ≤ c) (hc2 : c ≤ 9223372036854775807) (hl : zs.length ≤ 100000) :
    Calls Try.prog 62 #[.slice a zs.length c] w (RetCL (trimL zs) w) := by
  have HX := Lib.hid hx
  have HO := Lib.hid (show ∀ n, Calls Try.prog 86 #[.slice a (trimN zs) c] (w.drewN n) (RetCL (trimL zs) (w.drewN n)) from fun n => by
    have := sOwnC a (trimL zs) c (w.drewN n) (by rw [trimL_length]; have := trimN_le zs; omega) ((hx.take _).drewN n)
    rwa [trimL_length] at this)
  clear hx hl
  obtain ⟨r, hr⟩ : ∃ r, r = trimN zs := ⟨_, rfl⟩
  rw [← hr] at HO
  have HR := Lib.hid hr
  clear hr
  go_enter Try.func62, Try.ntmps62
  go_wp2_with fail
  go_loopw [3] (fun i wr => ∃ (k n : Nat), k ≤ zs.length ∧ i = .int .i64 k ∧ wr = w.drewN n ∧ Hid (trimK zs k = r)) (fun i _ => (intOf i).toNat)
  case atStart => exact ⟨zs.length, 0, Nat.le_refl _, rfl, rfl, HR.out.symm⟩
  case round =>
    obtain ⟨k, n, hk, rfl, rfl, hz⟩ := hrel
    by_cases h0 : 0 < k
    · obtain ⟨b, o, ha, hcell⟩ := HX.out.2 (k - 1) (by omega)
      subst ha
      have hi1 : ((k : Int) - 1).toNat = k - 1 := by omega
      have hi2 : (0 : Int) ≤ (k : Int) - 1 := by omega
      have hi3 : (k : Int) - 1 < (zs.length : Int) := by omega
      have h0I : (0 : Int) < (k : Int) := by omega
      have hyes := trimK_yes (zs := zs) h0 (show k - 1 < zs.length by omega)
      have hno := trimK_no (zs := zs) h0 (show k - 1 < zs.length by omega)
      have HYES := Lib.hid hyes
      have HNO := Lib.hid hno
      clear hyes hno
      obtain ⟨x, hxk⟩ : ∃ x, (zs[k - 1]).1 = x := ⟨_, rfl⟩
      obtain ⟨y, hyk⟩ : ∃ y, (zs[k - 1]).2 = y := ⟨_, rfl⟩
      rw [hxk, hyk] at hcell
      have HXY := Lib.hid (And.intro hxk hyk)
      clear hxk hyk
      have hz0 : isZ x y = true ∨ isZ x y = false := by cases isZ x y <;> simp
      rcases hz0 with he | he
      · have HE := Lib.hid he
        unfold isZ at he
        go_wp2_with fail
        go_roundw
        case rel =>
          refine ⟨k - 1, _, by omega, by (try simp); omega, rfl, ?_⟩
          refine Lib.hid ?_
          rw [← HYES.out (by rw [HXY.out.1, HXY.out.2]; exact HE.out)]
          exact hz.out
        case measure => simp [intOf]; omega
      · have HE := Lib.hid he
        unfold isZ at he
        have hkr : k = r := by rw [← hz.out]; exact (HNO.out (by rw [HXY.out.1, HXY.out.2]; exact HE.out)).symm
        subst hkr
        go_wp2_with fail
        refine (HO.out _).mono ?_
        rintro e w' ⟨v, rfl, ho, hb⟩
        have HO2 := Lib.hid ho
        have HB2 := Lib.hid (Below.trans (below_drewN (Below.refl _ _) _) hb)
        clear ho hb
        go_wp2_with fail
        go_ret
        exact ⟨_, rfl, HO2.out, HB2.out⟩
    · obtain rfl : k = 0 := by omega
      have : r = 0 := by rw [← hz.out]; rfl
      subst this
      go_wp2_with fail
      refine (HO.out _).mono ?_
      rintro e w' ⟨v, rfl, ho, hb⟩
      have HO2 := Lib.hid ho
      have HB2 := Lib.hid (Below.trans (below_drewN (Below.refl _ _) _) hb)
      clear ho hb
      go_wp2_with fail
      go_ret
      exact ⟨_, rfl, HO2.out, HB2.out⟩

/-- The call returns a list that it made, and a code. -/
def RetLC (zs : List (Nat × Nat)) (k : Int) (w : World) (e : Ending) (w' : World) : Prop := ∃ v, e = .returned (.tuple #[v, .int .i64 k]) ∧ OwnC w.heap.size w' v zs ∧ Below w.heap.size w w'
theorem RetLC.none (k : Int) (w : World) (n : Nat) : RetLC [] k w (.returned (.tuple #[.slice none 0 0, .int .i64 k])) (w.drewN n) := ⟨_, rfl, OwnC.none _ _, below_drewN (Below.refl _ _) _⟩

set_option maxHeartbeats 400000 in
/-- The list itself, if all is finite. -/
theorem iLimitL (a : Option Addr) (zs : List (Nat × Nat)) (c : Nat) (w : World) (hx : Cells w a zs) :
    Calls Try.prog 64 #[.slice a zs.length c] w (Ret (if allF zs = true then .tuple #[.slice a zs.length c, .int .i64 0] else .tuple #[.slice none 0 0, .int .i64 3]) w) := by
  have H := Lib.hid (iAll a zs c w hx)
  clear hx
  cases hf : allF zs
  · rw [hf] at H
    rw [if_neg (by simp)]
    clear hf
    go_enter Try.func64, Try.ntmps64
    go_wp2_with fail
    refine H.out.mono ?_
    rintro e w' ⟨n, rfl, rfl⟩
    go_wp2_with fail
    go_ret2
    exact ⟨_, rfl, rfl⟩
  · rw [hf] at H
    rw [if_pos rfl]
    clear hf
    go_enter Try.func64, Try.ntmps64
    go_wp2_with fail
    refine H.out.mono ?_
    rintro e w' ⟨n, rfl, rfl⟩
    go_wp2_with fail
    go_ret2
    exact ⟨_, rfl, rfl⟩

/-- The part that a list is, or the code of what is beyond the limit. -/
def fitC (zs : List (Nat × Nat)) : List (Nat × Nat) × Int := if 13 < zs.length ∨ allF zs = false then ([], 3) else (trimL zs, 0)
set_option maxHeartbeats 800000 in
theorem sFitC (a : Option Addr) (zs : List (Nat × Nat)) (c : Nat) (w : World) (hx : Cells w a zs) (hc : zs.length ≤ c) (hc2 : c ≤ 9223372036854775807) (hl : zs.length ≤ 100000) :
    Calls Try.prog 69 #[.slice a zs.length c] w (RetLC (fitC zs).1 (fitC zs).2 w) := by
  have H := Lib.hid (sAll4 a zs c w hx)
  have HT := Lib.hid (fun n => sTrimC a zs c (w.drewN n) (hx.drewN n) hc hc2 hl)
  clear hx
  by_cases h13 : 13 < (zs.length : Int)
  · rw [show fitC zs = ([], 3) by unfold fitC; rw [if_pos (.inl (by omega))]]
    go_enter Try.func69, Try.ntmps69
    go_wp2_with fail
    go_ret2
    exact RetLC.none _ w 0
  · cases hf : allF zs
    · rw [hf] at H
      rw [show fitC zs = ([], 3) by unfold fitC; rw [if_pos (.inr hf)]]
      clear hf HT
      go_enter Try.func69, Try.ntmps69
      go_wp2_with fail
      refine H.out.mono ?_
      rintro e w' ⟨n, rfl, rfl⟩
      go_wp2_with fail
      go_ret2
      exact RetLC.none _ _ _
    · rw [hf] at H
      rw [show fitC zs = (trimL zs, 0) by unfold fitC; rw [if_neg (by rw [hf]; simp; omega)]]
      clear hf
      go_enter Try.func69, Try.ntmps69
      go_wp2_with fail
      refine H.out.mono ?_
      rintro e w' ⟨n, rfl, rfl⟩
      go_wp2_with fail
      refine (HT.out _).mono ?_
      rintro e w' ⟨v, rfl, ho, hb⟩
      have HO := Lib.hid ho
      have HB := Lib.hid (Below.trans (below_drewN (Below.refl _ _) _) hb)
      clear ho hb
      go_wp2_with fail
      go_ret2
      exact ⟨_, rfl, HO.out, HB.out⟩
end Go.Proofs.Ytabpgkkickdopaa
