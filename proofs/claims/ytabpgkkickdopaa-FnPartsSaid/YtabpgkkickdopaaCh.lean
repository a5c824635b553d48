/-
  Lists of complex numbers that are alike up to NaN's bits, and lists that a call made: what is written into them. Conditions: none. Contracts: sums of parts by the program. Conditions: the lists' cells can be read.
-/
import Derived.Test.YtabpgkkickdopaaCf
namespace Go.Proofs.Ytabpgkkickdopaa
set_option linter.unusedVariables false
open Go Go.RowKit

/-- The numbers f 0, f 1, .. -/
def tabC (n : Nat) (f : Nat → Nat × Nat) : List (Nat × Nat) := (List.range n).map f
theorem tabC_length (n : Nat) (f : Nat → Nat × Nat) : (tabC n f).length = n := by unfold tabC; simp
theorem tabC_at {n : Nat} {f : Nat → Nat × Nat} {i : Nat} (h : i < (tabC n f).length) : (tabC n f)[i] = f i := by simp [tabC]
/-- Alike up to a NaN's bits. -/
def NZ (z y : Nat × Nat) : Prop := NEq .f64 z.1 y.1 ∧ NEq .f64 z.2 y.2
theorem NZ.refl (z : Nat × Nat) : NZ z z := ⟨NEq.refl _ _, NEq.refl _ _⟩
theorem NZ.fin {z y : Nat × Nat} (h : NZ z y) : finC z.1 z.2 = finC y.1 y.2 := finC_congr h.1 h.2
theorem NZ.eq {z y : Nat × Nat} (h : NZ z y) (g : finC y.1 y.2 = true) : z = y := by
  obtain ⟨g1, g2⟩ := finC_split g
  exact Prod.ext (h.1.eq g1) (h.2.eq g2)
theorem NZ.trans {x y z : Nat × Nat} (h : NZ x y) (g : NZ y z) : NZ x z := ⟨h.1.trans g.1, h.2.trans g.2⟩
theorem NZ.add {a b c d : Nat × Nat} (h : NZ a b) (g : NZ c d) : NZ (addF a.1 a.2 c.1 c.2) (addF b.1 b.2 d.1 d.2) := ⟨.inl (cf_congr h.1 g.1), .inl (cf_congr h.2 g.2)⟩
theorem NZ.mul {a b c d : Nat × Nat} (h : NZ a b) (g : NZ c d) : NZ (mulF a.1 a.2 c.1 c.2) (mulF b.1 b.2 d.1 d.2) :=
  ⟨.inl (cf_congr (.inl (cf_congr h.1 g.1)) (.inl (cf_congr h.2 g.2))), .inl (cf_congr (.inl (cf_congr h.1 g.2)) (.inl (cf_congr h.2 g.1)))⟩
/-- Lists that are alike. -/
def LikeL (zs ys : List (Nat × Nat)) : Prop := zs.length = ys.length ∧ ∀ (i : Nat) (h : i < zs.length) (h' : i < ys.length), NZ zs[i] ys[i]
theorem LikeL.refl (zs : List (Nat × Nat)) : LikeL zs zs := ⟨rfl, fun _ _ _ => NZ.refl _⟩
theorem LikeL.fin {zs ys : List (Nat × Nat)} (h : LikeL zs ys) : allF zs = allF ys := by
  cases e : allF ys
  · cases e' : allF zs
    · rfl
    · have : allF ys = true := allF_of fun i hi => by rw [← (h.2 i (by rw [h.1]; exact hi) hi).fin]; exact allF_at e' i _
      rw [e] at this; cases this
  · exact allF_of fun i hi => by rw [(h.2 i hi (by rw [← h.1]; exact hi)).fin]; exact allF_at e i _
theorem LikeL.eq {zs ys : List (Nat × Nat)} (h : LikeL zs ys) (g : allF ys = true) : zs = ys :=
  List.ext_getElem h.1 fun i h1 h2 => (h.2 i h1 h2).eq (allF_at g i h2)
theorem LikeF.like {f : Nat → Nat × Nat} {zs : List (Nat × Nat)} (h : LikeF f zs) : LikeL zs (tabC zs.length f) :=
  ⟨(tabC_length _ _).symm, fun i h1 h2 => by rw [tabC_at]; exact h i h1⟩
theorem LikeL.set {zs ys : List (Nat × Nat)} (h : LikeL zs ys) (j : Nat) {x y : Nat × Nat} (g : NZ x y) : LikeL (zs.set j x) (ys.set j y) := by
  refine ⟨by simp [h.1], fun i h1 h2 => ?_⟩
  simp only [List.length_set] at h1 h2
  by_cases e : i = j
  · subst e; simp only [List.getElem_set_self]; exact g
  · simp only [List.getElem_set_ne (Ne.symm e)]; exact h.2 i h1 h2
theorem LikeL.snoc {zs ys : List (Nat × Nat)} (h : LikeL zs ys) {x y : Nat × Nat} (g : NZ x y) : LikeL (zs ++ [x]) (ys ++ [y]) := by
  refine ⟨by simp [h.1], fun i h1 h2 => ?_⟩
  rw [List.length_append, List.length_singleton] at h1 h2
  by_cases e : i < zs.length
  · rw [List.getElem_append_left e, List.getElem_append_left (by rw [← h.1]; exact e)]; exact h.2 i _ _
  · obtain rfl : i = zs.length := by omega
    have e1 : (zs ++ [x])[zs.length]'(by simp) = x := List.getElem_concat_length rfl _
    have e2 : (ys ++ [y])[zs.length]'(by simp [h.1]) = y := List.getElem_concat_length h.1 _
    rw [e1, e2]
    exact g

/-- What comes behind the last number that is not 0 is 0. -/
theorem trimK_z {zs : List (Nat × Nat)} : ∀ (k : Nat), k ≤ zs.length → ∀ i (hi : i < zs.length), trimK zs k ≤ i → i < k → isZ zs[i].1 zs[i].2 = true
  | 0, _, i, _, _, h => absurd h (Nat.not_lt_zero _)
  | k + 1, hk, i, hi, h1, h2 => by
    rw [trimK, dif_pos (show k < zs.length by omega)] at h1
    split at h1
    · rename_i hz
      by_cases e : i = k
      · subst e; exact hz
      · exact trimK_z k (by omega) i hi h1 (by omega)
    · omega
theorem isZ_fin {x y : Nat} (h : isZ x y = true) : finC x y = true := by
  have key : ∀ x : Nat, (FloatKind.f64.format.order x 0 == some .eq) = true → isF .f64 x = true := by
    intro x h
    cases e : isF .f64 x
    · exfalso
      unfold isF at e
      have hr : FloatKind.f64.format.read 0 = .number false 0 (-1074) := by decide +kernel
      unfold Ieee.Format.order at h
      rw [hr] at h
      cases e2 : FloatKind.f64.format.read x <;> rw [e2] at h e
      · simp at e
      · rename_i s; cases s <;> simp [Ieee.Datum.order] at h
      · simp [Ieee.Datum.order] at h
    · rfl
  unfold isZ at h
  simp only [Bool.and_eq_true] at h
  unfold finC
  rw [key _ h.1, key _ h.2]; rfl
theorem trimL_at {zs : List (Nat × Nat)} {i : Nat} (h : i < (trimL zs).length) (h' : i < zs.length) : (trimL zs)[i] = zs[i] := by simp [trimL]
theorem allF_trim (zs : List (Nat × Nat)) : allF (trimL zs) = allF zs := by
  cases e : allF zs
  · cases e' : allF (trimL zs)
    · rfl
    · have : allF zs = true := allF_of fun i hi => by
        by_cases h : i < trimN zs
        · have := allF_at e' i (by rw [trimL_length]; exact h)
          rwa [trimL_at _ hi] at this
        · exact isZ_fin (trimK_z zs.length (Nat.le_refl _) i hi (by unfold trimN at h; omega) hi)
      rw [e] at this; cases this
  · exact allF_of fun i hi => by
      have h := hi; rw [trimL_length] at h
      have := trimN_le zs
      rw [trimL_at hi (by omega)]; exact allF_at e i (by omega)

/-- What a list that the call made tells of its cells. -/
theorem OwnC.cellAt {base g n cap : Nat} {w : World} {zs : List (Nat × Nat)} (h : OwnC base w (.slice (some ⟨g, 0, Option.none⟩) n cap) zs) (hn : n = zs.length) (i : Nat) (hi : i < zs.length) : w.cell? ⟨g, i, Option.none⟩ = some (.complex .f64 zs[i].1 zs[i].2) := by
  subst hn
  rw [World.ownsRow.cellAt h i (by omega), List.getElem?_map, List.getElem?_eq_getElem hi]
  rfl
theorem OwnC.frozenAt {base g n cap : Nat} {w : World} {zs : List (Nat × Nat)} (h : OwnC base w (.slice (some ⟨g, 0, Option.none⟩) n cap) zs) (hn : n = zs.length) (i : Nat) : w.frozen? ⟨g, i, Option.none⟩ = false := by
  subst hn
  exact World.ownsRow.frozenAt h i
theorem OwnC.stored {base g n cap : Nat} {w : World} {zs : List (Nat × Nat)} (h : OwnC base w (.slice (some ⟨g, 0, Option.none⟩) n cap) zs) (hn : n = zs.length) (i : Nat) (x y : Nat) :
    OwnC base (w.setCell ⟨g, i, Option.none⟩ (.complex .f64 x y)) (.slice (some ⟨g, 0, Option.none⟩) n cap) (zs.set i (x, y)) := by
  subst hn
  unfold OwnC
  rw [List.length_set, List.map_set]
  exact (World.ownsRow.stored h i _).1
theorem OwnC.le {base g n cap : Nat} {w : World} {zs : List (Nat × Nat)} (h : OwnC base w (.slice (some ⟨g, 0, Option.none⟩) n cap) zs) (hn : n = zs.length) : base ≤ g := (World.ownsRow.lt h g rfl).1
theorem OwnC.lt' {base g n cap : Nat} {w : World} {zs : List (Nat × Nat)} (h : OwnC base w (.slice (some ⟨g, 0, Option.none⟩) n cap) zs) : g < w.heap.size := (World.ownsRow.lt h g rfl).2
theorem OwnC.at0 {base : Nat} {w : World} {v : Value} {zs : List (Nat × Nat)} (h : OwnC base w v zs) (hn : 0 < zs.length) : ∃ g c, v = .slice (some ⟨g, 0, Option.none⟩) zs.length c ∧ zs.length ≤ c ∧ c ≤ 9223372036854775807 := by
  obtain ⟨_, h2⟩ := h
  rcases h2 with ⟨_, h2⟩ | ⟨g, c, cur, hv, _, _, h3, h4, _, _⟩
  · omega
  · exact ⟨g, c, hv, h3, by unfold maxLen at h4; omega⟩
/-- A list's first numbers. -/
theorem OwnC.take {base : Nat} {w : World} {a : Option Addr} {n c : Nat} {zs : List (Nat × Nat)} (h : OwnC base w (.slice a n c) zs) (k : Nat) (hk : k ≤ zs.length) : OwnC base w (.slice a k c) (zs.take k) := by
  obtain ⟨h1, h2⟩ := h
  have hl : (zs.take k).length = k := by rw [List.length_take]; omega
  unfold OwnC
  refine ⟨by simp, ?_⟩
  rw [hl]
  rcases h2 with ⟨hv, hn⟩ | ⟨g, cap, cur, hv, hg, hh, hc1, hc2, hc3, hc4⟩
  · injection hv with e1 e2 e3
    obtain rfl : k = 0 := by omega
    exact .inl ⟨by rw [e1, e3], rfl⟩
  · injection hv with e1 e2 e3
    subst e1 e3
    refine .inr ⟨g, c, cur, rfl, hg, hh, by omega, hc2, hc3, ?_⟩
    rw [List.map_take, ← hc4, List.take_take]
    congr 1
    omega
theorem OwnC.trim {base : Nat} {w : World} {a : Option Addr} {c : Nat} {zs : List (Nat × Nat)} (h : OwnC base w (.slice a zs.length c) zs) : OwnC base w (.slice a (trimN zs) c) (trimL zs) := h.take _ (trimN_le zs)
/-- A list of the call's own that was laid as it is. -/
theorem OwnC.lit (w : World) (zs : List (Nat × Nat)) (n : Nat) (hn : n = zs.length) (lo : Nat) (hb : lo ≤ w.heap.size) (hl : zs.length ≤ 100000) (cs : Array Value) (hc : cs.toList = zs.map cv) : OwnC lo (w.alloc (.cells cs 25)) (.slice (some ⟨w.heap.size, 0, Option.none⟩) n n) zs := by
  subst hn
  unfold OwnC
  rw [← hc]
  have hs : cs.size = zs.length * 1 := by rw [← Array.length_toList, hc]; simp
  exact World.ownsRow_lit w cs zs.length hb (by unfold maxLen; omega) hs

@[go_sem] theorem run_store_complex (P : Program) (w : World) (a : Addr) (m : Mode) (k : FloatKind) (x y : Nat) : (store a (.complex k x y) m).run P w = stored P w a (.complex k x y) m := run_store P w a _ m rfl
/-- The call returns a list that it made, alike to ys up to NaN's bits. -/
def RetLL (ys : List (Nat × Nat)) (w : World) (e : Ending) (w' : World) : Prop := ∃ v zs, e = .returned v ∧ LikeL zs ys ∧ OwnC w.heap.size w' v zs ∧ Below w.heap.size w w'
def addTo (ls ss : List (Nat × Nat)) (i : Nat) : Nat × Nat := if h : i < ls.length then (if h' : i < ss.length then addF ls[i].1 ls[i].2 ss[i].1 ss[i].2 else ls[i]) else (0, 0)
theorem tabC_set {n : Nat} {f g : Nat → Nat × Nat} {j : Nat} {x : Nat × Nat} (hx : g j = x) (h : ∀ i, i < n → i ≠ j → g i = f i) : (tabC n f).set j x = tabC n g := by
  apply List.ext_getElem
  · simp [tabC_length]
  · intro i h1 h2
    rw [tabC_length] at h2
    by_cases e : i = j
    · subst e; rw [List.getElem_set_self, tabC_at, hx]
    · rw [List.getElem_set_ne (Ne.symm e), tabC_at, tabC_at, h i h2 e]
theorem tabC_congr {n : Nat} {f g : Nat → Nat × Nat} (h : ∀ i, i < n → f i = g i) : tabC n f = tabC n g := by
  apply List.ext_getElem
  · simp [tabC_length]
  · intro i h1 h2
    rw [tabC_length] at h1
    rw [tabC_at, tabC_at, h i h1]
theorem tabC_self (zs : List (Nat × Nat)) (f : Nat → Nat × Nat) (h : ∀ (i : Nat) (hi : i < zs.length), f i = zs[i]) : tabC zs.length f = zs := by
  apply List.ext_getElem
  · simp [tabC_length]
  · intro i h1 h2
    rw [tabC_at, h i h2]
theorem addTo_start (ls ss : List (Nat × Nat)) : tabC ls.length (addTo ls (ss.take 0)) = ls := tabC_self _ _ fun i hi => by unfold addTo; rw [dif_pos hi, dif_neg (by simp)]
theorem addTo_step (ls ss : List (Nat × Nat)) (j : Nat) (h : j < ss.length) (h' : j < ls.length) : (tabC ls.length (addTo ls (ss.take j))).set j (addF ls[j].1 ls[j].2 ss[j].1 ss[j].2) = tabC ls.length (addTo ls (ss.take (j + 1))) := by
  refine tabC_set ?_ fun i hi hne => ?_
  · unfold addTo
    rw [dif_pos h', dif_pos (by rw [List.length_take]; omega)]
    simp only [List.getElem_take]
  · unfold addTo
    rw [dif_pos hi, dif_pos hi]
    simp only [List.length_take, List.getElem_take]
    by_cases e : i < j
    · rw [dif_pos (by omega), dif_pos (by omega)]
    · rw [dif_neg (by omega), dif_neg (by omega)]
theorem addTo_at (ls ss : List (Nat × Nat)) (j : Nat) (h' : j < ls.length) : addTo ls (ss.take j) j = ls[j] := by
  unfold addTo
  rw [dif_pos h', dif_neg (by rw [List.length_take]; omega)]
theorem addF_comm (a b c d : Nat) : addF a b c d = addF c d a b := by unfold addF; rw [cf_add_comm, cf_add_comm .f64 b]
theorem addAt_eq (ps qs : List (Nat × Nat)) (i : Nat) : addAt ps qs i = if h : i < ps.length then (if h' : i < qs.length then addF ps[i].1 ps[i].2 qs[i].1 qs[i].2 else ps[i]) else if h' : i < qs.length then qs[i] else (0, 0) := rfl
theorem addAt_long {ps qs : List (Nat × Nat)} (h : qs.length ≤ ps.length) : tabC (max ps.length qs.length) (addAt ps qs) = tabC ps.length (addTo ps (qs.take qs.length)) := by
  rw [Nat.max_eq_left h, List.take_length]
  refine tabC_congr fun i hi => ?_
  rw [addAt_eq]
  unfold addTo
  rw [dif_pos hi, dif_pos hi]
theorem addAt_comm (ps qs : List (Nat × Nat)) (i : Nat) : addAt ps qs i = addAt qs ps i := by
  rw [addAt_eq, addAt_eq]
  by_cases h : i < ps.length
  · by_cases h' : i < qs.length
    · rw [dif_pos h, dif_pos h', dif_pos h', dif_pos h, addF_comm]
    · rw [dif_pos h, dif_neg h', dif_neg h', dif_pos h]
  · by_cases h' : i < qs.length
    · rw [dif_neg h, dif_pos h', dif_pos h', dif_neg h]
    · rw [dif_neg h, dif_neg h', dif_neg h', dif_neg h]
theorem addAt_swap (ps qs : List (Nat × Nat)) : tabC (max ps.length qs.length) (addAt ps qs) = tabC (max qs.length ps.length) (addAt qs ps) := by
  rw [Nat.max_comm]; exact tabC_congr fun i _ => addAt_comm _ _ _

set_option maxRecDepth 100000 in
set_option maxHeartbeats 1600000 in
theorem iPlus4 (a b : Option Addr) (ps qs : List (Nat × Nat)) (c d : Nat) (w : World) (hp : Cells w a ps) (hq : Cells w b qs) (lp : ps.length ≤ 100000) (lq : qs.length ≤ 100000) :
    Calls Try.prog 70 #[.slice a ps.length c, .slice b qs.length d] w (RetLL (tabC (max ps.length qs.length) (addAt ps qs)) w) := by
  have KP := Lib.hid (fun n => iPolyOf a ps c (w.drewN n) lp (hp.drewN n))
  have KQ := Lib.hid (fun n => iPolyOf b qs d (w.drewN n) lq (hq.drewN n))
  have HP := Lib.hid hp
  have HQ := Lib.hid hq
  clear hp hq
  by_cases h : qs.length < ps.length
  · have hI : (qs.length : Int) < (ps.length : Int) := by omega
    rw [addAt_long (by omega)]
    go_enter Try.func70, Try.ntmps70
    go_wp2_with fail
    refine (KP.out 0).mono ?_
    rintro e w1 ⟨v, rfl, ho, hb⟩
    have HO := Lib.hid ho
    have HB := Lib.hid (show Below w.heap.size w w1 from hb)
    clear ho hb
    go_wp2_with fail
    go_loopw [23] (fun i wr => ∃ (j : Nat) (zs : List (Nat × Nat)), j ≤ qs.length ∧ i = .int .i64 j ∧ Hid (LikeL zs (tabC ps.length (addTo ps (qs.take j))) ∧ OwnC w.heap.size wr v zs ∧ Below w.heap.size w wr)) (fun i _ => qs.length - (intOf i).toNat)
    case atStart => exact ⟨0, ps, Nat.zero_le _, rfl, by rw [addTo_start]; exact LikeL.refl _, HO.out, HB.out⟩
    case round =>
      rename_i _ wr
      obtain ⟨j, zs, hj, rfl, HI⟩ := hrel
      by_cases h1 : j < qs.length
      · have h1I : (j : Int) < (qs.length : Int) := by omega
        have h1l : j < ps.length := by omega
        have HZL := Lib.hid (show zs.length = ps.length by rw [HI.out.1.1, tabC_length])
        obtain ⟨c1, o1, ha, hw1⟩ := HQ.out.2 j h1
        subst ha
        have lc1 : c1 < w.heap.size := World.block_lt_of_cell? w _ hw1
        have hc1 := (HI.out.2.2.cell (p := ⟨c1, o1 + j, none⟩) lc1).trans hw1
        clear hw1
        obtain ⟨g, cp, hv, hcp, hcp2⟩ := HI.out.2.1.at0 (by have := HZL.out; omega)
        subst hv
        have hc2 := HI.out.2.1.cellAt rfl j (by have := HZL.out; omega)
        have hf2 := HI.out.2.1.frozenAt rfl j
        have hc3 : ∀ n, (wr.drewN n).cell? ⟨g, j, none⟩ = some (.complex .f64 (zs[j]'(by have := HZL.out; omega)).1 (zs[j]'(by have := HZL.out; omega)).2) := fun n => hc2
        have hf3 : ∀ n, (wr.drewN n).frozen? ⟨g, j, none⟩ = false := fun n => hf2
        have hzI : (j : Int) < (zs.length : Int) := by have := HZL.out; omega
        have HG := Lib.hid (HI.out.2.1.le rfl)
        have HN := Lib.hid (HI.out.1.2 j (by have := HZL.out; omega) (by rw [tabC_length]; exact h1l))
        go_wp2_with fail
        go_roundw
        case rel =>
          refine ⟨j + 1, zs.set j (_, _), by omega, by go_num, ?_, (HI.out.2.1.drewN _).stored rfl j _ _, (below_drewN HI.out.2.2 _).setCell HG.out _⟩
          · have hn := HN.out
            rw [tabC_at, addTo_at _ _ _ h1l] at hn
            rw [← addTo_step _ _ _ h1 h1l]
            refine HI.out.1.set j ?_
            exact NZ.trans (show NZ _ (addF (zs[j]).1 (zs[j]).2 (qs[j]).1 (qs[j]).2) from (cadd_spec _ _ .add (.inl rfl) _ .f64 _ _ _ _).2) (NZ.add hn (NZ.refl _))
        case measure => simp [intOf]; omega
      · obtain rfl : j = qs.length := by omega
        go_wp2_with fail
        go_ret
        exact ⟨_, zs, rfl, HI.out.1, HI.out.2.1, HI.out.2.2⟩
  · have hI : ¬ (qs.length : Int) < (ps.length : Int) := by omega
    have hd : decide ((qs.length : Int) < (ps.length : Int)) = false := decide_eq_false hI
    rw [addAt_swap, addAt_long (by omega)]
    go_enter Try.func70, Try.ntmps70
    go_wp2_with fail
    refine (KQ.out 0).mono ?_
    rintro e w1 ⟨v, rfl, ho, hb⟩
    have HO := Lib.hid ho
    have HB := Lib.hid (show Below w.heap.size w w1 from hb)
    clear ho hb
    go_wp2_with fail
    go_loopw [23] (fun i wr => ∃ (j : Nat) (zs : List (Nat × Nat)), j ≤ ps.length ∧ i = .int .i64 j ∧ Hid (LikeL zs (tabC qs.length (addTo qs (ps.take j))) ∧ OwnC w.heap.size wr v zs ∧ Below w.heap.size w wr)) (fun i _ => ps.length - (intOf i).toNat)
    case atStart => exact ⟨0, qs, Nat.zero_le _, rfl, by rw [addTo_start]; exact LikeL.refl _, HO.out, HB.out⟩
    case round =>
      rename_i _ wr
      obtain ⟨j, zs, hj, rfl, HI⟩ := hrel
      by_cases h1 : j < ps.length
      · have h1I : (j : Int) < (ps.length : Int) := by omega
        have h1l : j < qs.length := by omega
        have HZL := Lib.hid (show zs.length = qs.length by rw [HI.out.1.1, tabC_length])
        obtain ⟨c1, o1, ha, hw1⟩ := HP.out.2 j h1
        subst ha
        have lc1 : c1 < w.heap.size := World.block_lt_of_cell? w _ hw1
        have hc1 := (HI.out.2.2.cell (p := ⟨c1, o1 + j, none⟩) lc1).trans hw1
        clear hw1
        obtain ⟨g, cp, hv, hcp, hcp2⟩ := HI.out.2.1.at0 (by have := HZL.out; omega)
        subst hv
        have hc2 := HI.out.2.1.cellAt rfl j (by have := HZL.out; omega)
        have hf2 := HI.out.2.1.frozenAt rfl j
        have hc3 : ∀ n, (wr.drewN n).cell? ⟨g, j, none⟩ = some (.complex .f64 (zs[j]'(by have := HZL.out; omega)).1 (zs[j]'(by have := HZL.out; omega)).2) := fun n => hc2
        have hf3 : ∀ n, (wr.drewN n).frozen? ⟨g, j, none⟩ = false := fun n => hf2
        have hzI : (j : Int) < (zs.length : Int) := by have := HZL.out; omega
        have HG := Lib.hid (HI.out.2.1.le rfl)
        have HN := Lib.hid (HI.out.1.2 j (by have := HZL.out; omega) (by rw [tabC_length]; exact h1l))
        go_wp2_with fail
        go_roundw
        case rel =>
          refine ⟨j + 1, zs.set j (_, _), by omega, by go_num, ?_, (HI.out.2.1.drewN _).stored rfl j _ _, (below_drewN HI.out.2.2 _).setCell HG.out _⟩
          · have hn := HN.out
            rw [tabC_at, addTo_at _ _ _ h1l] at hn
            rw [← addTo_step _ _ _ h1 h1l]
            refine HI.out.1.set j ?_
            exact NZ.trans (show NZ _ (addF (zs[j]).1 (zs[j]).2 (ps[j]).1 (ps[j]).2) from (cadd_spec _ _ .add (.inl rfl) _ .f64 _ _ _ _).2) (NZ.add hn (NZ.refl _))
        case measure => simp [intOf]; omega
      · obtain rfl : j = ps.length := by omega
        go_wp2_with fail
        go_ret
        exact ⟨_, zs, rfl, HI.out.1, HI.out.2.1, HI.out.2.2⟩

set_option maxHeartbeats 400000 in
theorem iPart4 (a : Option Addr) (zs : List (Nat × Nat)) (cap : Nat) (w : World) (hc : Cells w a zs) : Calls Try.prog 65 #[.slice a zs.length cap] w (Ret (.bool (partR zs)) w) := by
  have H := Lib.hid (iPart a zs cap w hc)
  clear hc
  go_enter Try.func65, Try.ntmps65
  go_wp2_with fail
  refine H.out.mono ?_
  rintro e w' ⟨n, rfl, rfl⟩
  go_wp2_with fail
  go_ret
  exact ⟨_, rfl, rfl⟩
end Go.Proofs.Ytabpgkkickdopaa
