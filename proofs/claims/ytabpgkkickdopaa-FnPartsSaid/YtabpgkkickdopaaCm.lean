/-
  Contracts: products with linear factors by the program. Conditions: the lists' cells can be read. Contracts: the polynomial with some roots by both sides. Conditions: the lists' cells can be read.
-/
import Derived.Test.YtabpgkkickdopaaCk
namespace Go.Proofs.Ytabpgkkickdopaa
set_option linter.unusedVariables false
open Go Go.RowKit

def subF (a b c d : Nat) : Nat × Nat := (cf .sub .f64 a c, cf .sub .f64 b d)
theorem NZ.sub {a b c d : Nat × Nat} (h : NZ a b) (g : NZ c d) : NZ (subF a.1 a.2 c.1 c.2) (subF b.1 b.2 d.1 d.2) := ⟨.inl (cf_congr h.1 g.1), .inl (cf_congr h.2 g.2)⟩
theorem isF_sub_left {x y : Nat} (h : isF .f64 (cf .sub .f64 x y) = true) : isF .f64 x = true := by
  cases e : isF .f64 x
  · exfalso
    have hq : isF .f64 (qn .f64) = false := by decide +kernel
    have hi : ∀ s, isF .f64 (FloatKind.f64.format.write (.infinity s)) = false := by decide +kernel
    unfold isF at e
    unfold cf floatBits Ieee.Format.sub at h
    cases e2 : FloatKind.f64.format.read x <;> rw [e2] at h e
    · simp at e
    · rename_i s
      cases e3 : FloatKind.f64.format.read y <;> rw [e3] at h
      · simp [Ieee.Datum.sum, Ieee.Datum.opposite] at h
        rw [hi] at h; cases h
      · rename_i t
        cases s <;> cases t <;> simp [Ieee.Datum.sum, Ieee.Datum.opposite] at h
        all_goals first | (rw [hi] at h; cases h) | (rw [hq] at h; cases h)
      · simp [Ieee.Datum.sum, Ieee.Datum.opposite] at h
        rw [hq] at h; cases h
    · simp [Ieee.Datum.sum, Ieee.Datum.opposite] at h
      rw [hq] at h; cases h
  · rfl
theorem subF_fin_left {a b c d : Nat} (h : finC (subF a b c d).1 (subF a b c d).2 = true) : finC a b = true := by
  obtain ⟨h1, h2⟩ := finC_split h
  unfold finC
  rw [isF_sub_left h1, isF_sub_left h2]; rfl
/-- The coefficient before n, or 0. -/
def shiftAt (ps : List (Nat × Nat)) (n : Nat) : Nat × Nat := ((0, 0) :: ps).getD n (0, 0)
theorem shiftAt_zero (ps : List (Nat × Nat)) : shiftAt ps 0 = (0, 0) := rfl
theorem shiftAt_succ {ps : List (Nat × Nat)} {n : Nat} (h : n < ps.length) : shiftAt ps (n + 1) = ps[n] := by
  unfold shiftAt
  rw [List.getD_cons_succ, List.getD_eq_getElem?_getD, List.getElem?_eq_getElem h]; rfl
/-- The coefficient at n of the product with x - z. -/
def wrAt (ps : List (Nat × Nat)) (z : Nat × Nat) (n : Nat) : Nat × Nat :=
  if h : n < ps.length then subF (shiftAt ps n).1 (shiftAt ps n).2 (mulF ps[n].1 ps[n].2 z.1 z.2).1 (mulF ps[n].1 ps[n].2 z.1 z.2).2 else shiftAt ps n
def wrL (ps : List (Nat × Nat)) (z : Nat × Nat) : List (Nat × Nat) := tabC (ps.length + 1) (wrAt ps z)
def wrTo (ps : List (Nat × Nat)) (z : Nat × Nat) (k n : Nat) : Nat × Nat := if n < k then wrAt ps z n else shiftAt ps n
theorem wrL_length (ps : List (Nat × Nat)) (z : Nat × Nat) : (wrL ps z).length = ps.length + 1 := tabC_length _ _
theorem wrL_at {ps : List (Nat × Nat)} {z : Nat × Nat} {i : Nat} (h : i < (wrL ps z).length) : (wrL ps z)[i] = wrAt ps z i := tabC_at (n := ps.length + 1) (f := wrAt ps z) h
theorem shift_tab (ps : List (Nat × Nat)) : tabC (ps.length + 1) (shiftAt ps) = (0, 0) :: ps := by
  have := tabC_self ((0, 0) :: ps) (shiftAt ps) fun i hi => by
    unfold shiftAt; rw [List.getD_eq_getElem?_getD, List.getElem?_eq_getElem hi]; rfl
  rwa [List.length_cons] at this
theorem wrTo_zero (ps : List (Nat × Nat)) (z : Nat × Nat) : tabC (ps.length + 1) (wrTo ps z 0) = (0, 0) :: ps := by
  rw [← shift_tab]
  exact tabC_congr fun i _ => by unfold wrTo; rw [if_neg (Nat.not_lt_zero _)]
theorem wrTo_at (ps : List (Nat × Nat)) (z : Nat × Nat) (k : Nat) : wrTo ps z k k = shiftAt ps k := by unfold wrTo; rw [if_neg (Nat.lt_irrefl _)]
theorem wrAt_yes {ps : List (Nat × Nat)} {z : Nat × Nat} {n : Nat} (h : n < ps.length) : wrAt ps z n = subF (shiftAt ps n).1 (shiftAt ps n).2 (mulF ps[n].1 ps[n].2 z.1 z.2).1 (mulF ps[n].1 ps[n].2 z.1 z.2).2 := by unfold wrAt; rw [dif_pos h]
theorem wrAt_no {ps : List (Nat × Nat)} {z : Nat × Nat} {n : Nat} (h : ¬ n < ps.length) : wrAt ps z n = shiftAt ps n := by unfold wrAt; rw [dif_neg h]
theorem wrTo_step (ps : List (Nat × Nat)) (z : Nat × Nat) (k N : Nat) : (tabC N (wrTo ps z k)).set k (wrAt ps z k) = tabC N (wrTo ps z (k + 1)) := by
  refine tabC_set ?_ fun j _ hne => ?_
  · unfold wrTo; rw [if_pos (by omega)]
  · unfold wrTo
    by_cases h : j < k
    · rw [if_pos h, if_pos (by omega)]
    · rw [if_neg h, if_neg (by omega)]
theorem wrTo_all (ps : List (Nat × Nat)) (z : Nat × Nat) : tabC (ps.length + 1) (wrTo ps z ps.length) = wrL ps z := tabC_congr fun j hj => by
  unfold wrTo
  by_cases h : j < ps.length
  · rw [if_pos h]
  · rw [if_neg h, wrAt_no h]
theorem wrL_fin {ps : List (Nat × Nat)} {z : Nat × Nat} (h : allF (wrL ps z) = true) : allF ps = true := allF_of fun i hi => by
  have := allF_at h (i + 1) (by rw [wrL_length]; omega)
  rw [wrL_at] at this
  by_cases hc : i + 1 < ps.length
  · rw [wrAt_yes hc, shiftAt_succ hi] at this
    exact subF_fin_left this
  · rw [wrAt_no hc, shiftAt_succ hi] at this
    exact this
theorem shiftAt_like {ps qs : List (Nat × Nat)} (h : LikeL ps qs) (n : Nat) : NZ (shiftAt ps n) (shiftAt qs n) := by
  cases n with
  | zero => exact NZ.refl _
  | succ n =>
    by_cases hc : n < ps.length
    · rw [shiftAt_succ hc, shiftAt_succ (by rw [← h.1]; exact hc)]; exact h.2 n _ _
    · have e1 : shiftAt ps (n + 1) = (0, 0) := by
        unfold shiftAt; rw [List.getD_cons_succ, List.getD_eq_getElem?_getD, List.getElem?_eq_none (by omega)]; rfl
      have e2 : shiftAt qs (n + 1) = (0, 0) := by
        unfold shiftAt; rw [List.getD_cons_succ, List.getD_eq_getElem?_getD, List.getElem?_eq_none (by rw [← h.1]; omega)]; rfl
      rw [e1, e2]; exact NZ.refl _
theorem wrL_like {ps qs : List (Nat × Nat)} (h : LikeL ps qs) (z : Nat × Nat) : LikeL (wrL ps z) (wrL qs z) := by
  refine ⟨by rw [wrL_length, wrL_length, h.1], fun i h1 h2 => ?_⟩
  rw [wrL_at, wrL_at]
  by_cases hc : i < ps.length
  · rw [wrAt_yes hc, wrAt_yes (by rw [← h.1]; exact hc)]
    exact NZ.sub (shiftAt_like h i) (NZ.mul (h.2 i _ _) (NZ.refl _))
  · rw [wrAt_no hc, wrAt_no (by rw [← h.1]; exact hc)]
    exact shiftAt_like h i
theorem LikeL.trans {xs ys zs : List (Nat × Nat)} (h : LikeL xs ys) (g : LikeL ys zs) : LikeL xs zs := ⟨h.1.trans g.1, fun i h1 h2 => (h.2 i h1 (by rw [← h.1]; exact h1)).trans (g.2 i _ h2)⟩

/-- append(list, others...) on a list of the call's own, of any type of lists of complex numbers. -/
theorem wp_appLt {ops : Array Oper} {rest : List Oper} {o : Oper} {a : Act} {Q : Exit → Act → World → Prop} {w : World} (hgd : o.guard = none) (s x : Operand) (t : TypeId)
    (ho : o.op = .call { callee := .builtin .append, args := #[s, x], argTypes := #[t, t] }) (ht : Try.prog.underlying t = some (.slice 25))
    (base : Nat) (v : Value) (zs ys : List (Nat × Nat)) (hown : OwnC base w v zs) (hs : a.eval s = v) (ad : Addr) (m c : Nat)
    (hx : a.eval x = .slice (some ad) m c) (hm : m = ys.length) (hy : Cells w (some ad) ys) (hlen : zs.length + ys.length ≤ 100000) (hbase : base ≤ w.heap.size)
    (h : ∀ v' w', OwnC base w' v' (zs ++ ys) → w.grownBy w' v.ownBlock → wpList Try.prog ops Q rest (a.put o.dst v') w') : wpList Try.prog ops Q (o :: rest) a w := by
  obtain ⟨i0, hi, hz0, hz1, hz2⟩ := info_parts info24
  subst hm
  refine wpList_append_own _ hgd s x t ho base 25 i0 (.complex .f64 0 0) 1 16 ht hi hz0 hz1 hz2 rfl (by decide) v zs.length (zs.map cv) hs hown ad ys.length c (ys.map cv) hx (by simp) ?_ (by intro u hu; simp at hu; obtain ⟨_, _, _, rfl⟩ := hu; rfl) (by unfold maxLen; omega) (by omega) hbase ?_
  · intro j u hu
    rw [List.getElem?_map, Option.map_eq_some_iff] at hu
    obtain ⟨y, hy', rfl⟩ := hu
    obtain ⟨hj, rfl⟩ := List.getElem?_eq_some_iff.1 hy'
    exact cells_add hy j hj
  intro v' w' h1 h2 _
  refine h v' w' ?_ h2
  unfold OwnC
  rw [List.length_append, List.map_append]
  exact h1
theorem cells_one (w : World) (x y : Nat) : Cells (w.alloc (.cells #[.complex .f64 x y] 25)) (some ⟨w.heap.size, 0, none⟩) [(x, y)] :=
  ⟨by simp, fun i hi => ⟨w.heap.size, 0, rfl, by
    obtain rfl : i = 0 := by simpa using hi
    exact (OwnC.lit w [(x, y)] 1 rfl w.heap.size (Nat.le_refl _) (by simp) #[.complex .f64 x y] rfl).cellAt rfl 0 (by simp)⟩⟩

set_option maxRecDepth 100000 in
set_option maxHeartbeats 1600000 in
theorem iWithRoot (a : Option Addr) (ps : List (Nat × Nat)) (c : Nat) (z : Nat × Nat) (w : World) (hp : Cells w a ps) (lp : ps.length ≤ 10000) (h0 : 0 < ps.length) :
    Calls Try.prog 63 #[.slice a ps.length c, .complex .f64 z.1 z.2] w (RetLL (wrL ps z) w) := by
  obtain ⟨ad, had⟩ : ∃ ad, a = some ad := by
    obtain ⟨c', o', ha, _⟩ := hp.2 0 h0
    exact ⟨_, ha⟩
  subst had
  have HP := Lib.hid hp
  have HC := Lib.hid (iPolyOf (some ⟨w.heap.size, 0, none⟩) [(0, 0)] 1 (w.alloc (.cells #[.complex .f64 0 0] 25)) (by simp) (cells_one w 0 0))
  have H0 := Lib.hid h0
  clear hp h0
  go_enter Try.func63, Try.ntmps63
  go_wp2_with fail
  refine HC.out.mono ?_
  rintro e w1 ⟨v, rfl, ho, hb⟩
  have HO1 := Lib.hid (OwnC.lower (base' := w.heap.size) ho (by simp))
  have HB1 := Lib.hid (Below.trans (Below.alloc (Below.refl w.heap.size w) (Nat.le_refl _) (.cells #[.complex .f64 0 0] 25)) (hb.mono (by simp)))
  clear ho hb
  have HX := Lib.hid (HP.out.below (Nat.le_refl _) HB1.out)
  have HS := HB1.out.size
  go_wp2_with (at_builtin; refine wp_appLt rfl _ _ 62 rfl Try.underlying62 w.heap.size _ [(0, 0)] ps HO1.out rfl ad ps.length c rfl rfl HX.out (by simp; omega) HS ?_; intro v2 w2 hown hgrow)
  have HO2 := Lib.hid hown
  have HB2 := Lib.hid (Below.grown HB1.out hgrow HS (fun g hg => (World.ownsRow.lt HO1.out g hg).1))
  clear hown hgrow
  go_wp2_with fail
  obtain ⟨g, cp, hv, hcp, hcp2⟩ := HO2.out.at0 (by simp)
  subst hv
  obtain ⟨N, hN⟩ : ∃ N, N = ps.length + 1 := ⟨_, rfl⟩
  have HN := Lib.hid hN
  rw [show (([(0, 0)] : List (Nat × Nat)) ++ ps).length = N by simp; omega] at HO2 hcp ⊢
  clear hN
  go_loopw [14] (fun x wr => ∃ (k : Nat) (zs : List (Nat × Nat)) (W : World), W = wr ∧ k ≤ ps.length ∧ x = .int .i64 k ∧ Hid (LikeL zs (tabC N (wrTo ps z k)) ∧ OwnC w.heap.size wr (.slice (some ⟨g, 0, none⟩) N cp) zs ∧ Below w.heap.size w wr)) (fun x _ => ps.length - (intOf x).toNat)
  case atStart => exact ⟨0, (0, 0) :: ps, _, rfl, Nat.zero_le _, rfl, by rw [HN.out, wrTo_zero]; exact LikeL.refl _, HO2.out, HB2.out⟩
  case round =>
    clear HO2 HB2 HO1 HB1 HX
    obtain ⟨k, zs, W, hW, hk, rfl, HI⟩ := hrel
    subst hW
    by_cases h1 : k < ps.length
    · have h1I : (k : Int) < (ps.length : Int) := by omega
      obtain ⟨c1, o1, ha, hw1⟩ := HP.out.2 k h1
      injection ha with ha
      subst ha
      have lc1 : c1 < w.heap.size := World.block_lt_of_cell? w _ hw1
      have hc1 := (HI.out.2.2.cell (p := ⟨c1, o1 + k, none⟩) lc1).trans hw1
      clear hw1
      have HZL := Lib.hid (show N = zs.length by rw [HI.out.1.1, tabC_length])
      have hkz : k < zs.length := by have := HZL.out; have := HN.out; omega
      have hkN : (k : Int) < (N : Int) := by have := HZL.out; omega
      have HG := Lib.hid (HI.out.2.1.le HZL.out)
      obtain ⟨x, hx⟩ : ∃ x, x = zs[k] := ⟨_, rfl⟩
      obtain ⟨y, hy⟩ : ∃ y, y = ps[k] := ⟨_, rfl⟩
      have hc3 := HI.out.2.1.cellAt HZL.out k hkz
      have hf3 := HI.out.2.1.frozenAt HZL.out k
      rw [← hx] at hc3
      rw [← hy] at hc1
      have hc4 : ∀ n, (W.drewN n).cell? ⟨g, k, none⟩ = some (.complex .f64 x.1 x.2) := fun n => hc3
      have hf4 : ∀ n, (W.drewN n).frozen? ⟨g, k, none⟩ = false := fun n => hf3
      have hc5 : ∀ n, (W.drew.drewN n).cell? ⟨g, k, none⟩ = some (.complex .f64 x.1 x.2) := fun n => hc3
      have hf5 : ∀ n, (W.drew.drewN n).frozen? ⟨g, k, none⟩ = false := fun n => hf3
      have HST := Lib.hid (fun (r1 r2 : Nat) (u v : Nat) (g : NZ (u, v) (subF x.1 x.2 r1 r2)) (g' : NZ (r1, r2) (mulF y.1 y.2 z.1 z.2)) => (show LikeL (zs.set k (u, v)) (tabC N (wrTo ps z (k + 1))) from by
        have hn := HI.out.1.2 k hkz (by rw [tabC_length]; have := HZL.out; omega)
        rw [tabC_at, wrTo_at, ← hx] at hn
        rw [← wrTo_step, wrAt_yes h1, ← hy]
        exact HI.out.1.set _ (g.trans (NZ.sub hn g'))))
      clear hx hy hkz
      go_upto_region 5 with fail
      go_region_with ((go_at_call 48; refine (iProdOf _ _ _ _ _).mono ?_; rintro e w' ⟨r1, r2, n, rfl, g1, g2, rfl⟩))
      all_goals
        have G := Lib.hid (And.intro g1 g2)
        clear g1 g2
        go_wp2_with fail
        go_roundw
        case rel => exact ⟨k + 1, zs.set k (_, _), _, rfl, by omega, by go_num, HST.out r1 r2 _ _ (cadd_spec _ _ .sub (.inr rfl) _ .f64 _ _ _ _).2 G.out, (HI.out.2.1.drewN _).stored HZL.out k _ _, (below_drewN HI.out.2.2 _).setCell HG.out _⟩
        case measure => simp [intOf]; omega
    · obtain rfl : k = ps.length := by omega
      go_wp2_with fail
      go_ret
      exact ⟨_, zs, rfl, by rw [← wrTo_all, ← HN.out]; exact HI.out.1, HI.out.2.1, HI.out.2.2⟩

/-- The product of the factors of the first k numbers. -/
def rootsTo (zs : List (Nat × Nat)) (k : Nat) : List (Nat × Nat) := (zs.take k).foldl wrL [(one, 0)]
def rootsL (zs : List (Nat × Nat)) : List (Nat × Nat) := rootsTo zs zs.length
theorem rootsTo_zero (zs : List (Nat × Nat)) : rootsTo zs 0 = [(one, 0)] := rfl
theorem rootsTo_succ {zs : List (Nat × Nat)} {k : Nat} (h : k < zs.length) : rootsTo zs (k + 1) = wrL (rootsTo zs k) zs[k] := by
  unfold rootsTo
  rw [List.take_add_one, List.foldl_append, List.getElem?_eq_getElem h]
  rfl
theorem rootsTo_length (zs : List (Nat × Nat)) : ∀ k, k ≤ zs.length → (rootsTo zs k).length = k + 1
  | 0, _ => rfl
  | k + 1, h => by rw [rootsTo_succ (by omega), wrL_length, rootsTo_length zs k (by omega)]
theorem rootsTo_fin (zs : List (Nat × Nat)) (k : Nat) : ∀ d, k + d ≤ zs.length → allF (rootsTo zs (k + d)) = true → allF (rootsTo zs k) = true
  | 0, _, h => h
  | d + 1, hl, h => by
    refine rootsTo_fin zs k d (by omega) ?_
    rw [← Nat.add_assoc, rootsTo_succ (by omega)] at h
    exact wrL_fin h
theorem rootsL_no {zs : List (Nat × Nat)} {k : Nat} (hk : k ≤ zs.length) (h : allF (rootsTo zs k) = false) : allF (rootsL zs) = false := by
  cases e : allF (rootsL zs)
  · rfl
  · obtain ⟨d, hd⟩ : ∃ d, zs.length = k + d := ⟨zs.length - k, by omega⟩
    unfold rootsL at e
    rw [hd] at e
    rw [rootsTo_fin zs k d (by omega) e] at h; cases h

/-- The result of PolynomialOfRoots. -/
def ofRootsL (zs : List (Nat × Nat)) : List (Nat × Nat) × Int := if zs.length < 1 ∨ 12 < zs.length then ([], 2) else if allF zs = false then ([], 1) else if allF (rootsL zs) = true then (rootsL zs, 0) else ([], 3)

set_option maxRecDepth 100000 in
set_option maxHeartbeats 1600000 in
theorem iOfRoots (a : Option Addr) (zs : List (Nat × Nat)) (c : Nat) (w : World) (hp : Cells w a zs) :
    Calls Try.prog 18 #[.slice a zs.length c] w (RetLC (ofRootsL zs).1 (ofRootsL zs).2 w) := by
  have hlen := hp.1
  by_cases h1 : (zs.length : Int) < 1
  · rw [show ofRootsL zs = ([], 2) from if_pos (.inl (by omega))]
    clear hp
    go_enter Try.func18, Try.ntmps18
    go_wp2_with fail
    go_ret2
    exact RetLC.none _ _ 0
  by_cases h2 : 12 < (zs.length : Int)
  · rw [show ofRootsL zs = ([], 2) from if_pos (.inr (by omega))]
    clear hp
    go_enter Try.func18, Try.ntmps18
    go_wp2_with fail
    go_ret2
    exact RetLC.none _ _ 0
  have HA := Lib.hid (iAll a zs c w hp)
  cases hf : allF zs
  · rw [show ofRootsL zs = ([], 1) by unfold ofRootsL; rw [if_neg (by omega), if_pos hf]]
    rw [hf] at HA
    clear hp hf
    go_enter Try.func18, Try.ntmps18
    go_wp2_with fail
    refine HA.out.mono ?_
    rintro e w' ⟨n, rfl, rfl⟩
    go_wp2_with fail
    go_ret2
    exact RetLC.none _ _ _
  · have HEQ := Lib.hid (show ofRootsL zs = if allF (rootsL zs) = true then (rootsL zs, 0) else ([], 3) by unfold ofRootsL; rw [if_neg (by omega), if_neg (by rw [hf]; simp)])
    rw [hf] at HA
    have HP := Lib.hid hp
    have HC := Lib.hid (fun n => iPolyOf (some ⟨w.heap.size, 0, none⟩) [(one, 0)] 1 ((w.alloc (.cells #[.complex .f64 4607182418800017408 0] 25)).drewN n) (by simp) (cells_one w one 0))
    clear hp hf
    go_enter Try.func18, Try.ntmps18
    go_wp2_with fail
    refine HA.out.mono ?_
    rintro e w' ⟨n, rfl, rfl⟩
    go_wp2_with fail
    refine (HC.out n).mono ?_
    rintro e w1 ⟨v, rfl, ho, hb⟩
    have HO1 := Lib.hid (OwnC.lower (base' := w.heap.size) ho (by simp))
    have HB1 := Lib.hid (show Below w.heap.size w w1 from Below.trans (Below.alloc (Below.refl w.heap.size w) (Nat.le_refl _) (.cells #[.complex .f64 4607182418800017408 0] 25)) (Below.trans (below_drewN (Below.refl _ _) n) (hb.mono (by simp))))
    clear ho hb
    go_wp2_with fail
    go_loopw [4, 22] (fun v x wr => ∃ (k : Nat) (ps : List (Nat × Nat)) (V : Value) (W : World), W = wr ∧ V = v ∧ k ≤ zs.length ∧ x = .int .i64 k ∧ Hid (LikeL ps (rootsTo zs k) ∧ OwnC w.heap.size W V ps ∧ Below w.heap.size w W)) (fun _ x _ => zs.length - (intOf x).toNat)
    case atStart => exact ⟨0, [(one, 0)], _, _, rfl, rfl, Nat.zero_le _, rfl, LikeL.refl _, HO1.out, HB1.out⟩
    case round =>
      clear HO1 HB1 HC HA
      obtain ⟨k, ps, V, W, hW, hV, hk, rfl, HI⟩ := hrel
      subst hW hV
      have HPL := Lib.hid (HI.out.1.1.trans (rootsTo_length zs k hk))
      obtain ⟨g, cp, hv, hcp, hcp2⟩ := HI.out.2.1.at0 (by have := HPL.out; omega)
      subst hv
      obtain ⟨q, cq, hq, hcells⟩ := HI.out.2.1.cells
      injection hq with hq1 hq2 hq3
      subst hq1 hq3
      by_cases h3 : k < zs.length
      · have h3I : (k : Int) < (zs.length : Int) := by omega
        obtain ⟨c1, o1, ha, hw1⟩ := HP.out.2 k h3
        subst ha
        have lc1 : c1 < w.heap.size := World.block_lt_of_cell? w _ hw1
        have hc1 := (HI.out.2.2.cell (p := ⟨c1, o1 + k, none⟩) lc1).trans hw1
        clear hw1
        have HR := Lib.hid (iWithRoot (some ⟨g, 0, none⟩) ps cp zs[k] W hcells (by have := HPL.out; omega) (by have := HPL.out; omega))
        clear hcells
        go_wp2_with fail
        refine HR.out.mono ?_
        rintro e w2 ⟨v2, ps2, rfl, hk2, ho2, hb2⟩
        have HI2 := Lib.hid (show LikeL ps2 (rootsTo zs (k + 1)) ∧ OwnC w.heap.size w2 v2 ps2 ∧ Below w.heap.size w w2 from ⟨by rw [rootsTo_succ h3]; exact hk2.trans (wrL_like HI.out.1 _), OwnC.lower ho2 HI.out.2.2.size, HI.out.2.2.trans (hb2.mono HI.out.2.2.size)⟩)
        clear hk2 ho2 hb2
        go_wp2_with fail
        go_roundw
        case rel => exact ⟨k + 1, ps2, _, _, rfl, rfl, by omega, by go_num, HI2.out⟩
        case measure => simp [intOf]; omega
      · obtain rfl : k = zs.length := by omega
        have HL := Lib.hid (iLimitL (some ⟨g, 0, none⟩) ps cp W hcells)
        rw [HI.out.1.fin] at HL
        clear hcells
        cases hf : allF (rootsTo zs zs.length)
        · rw [hf] at HL
          have HFF := Lib.hid hf
          clear hf
          go_wp2_with fail
          refine HL.out.mono ?_
          rintro e w' ⟨n2, rfl, rfl⟩
          go_wp2_with fail
          go_ret2
          rw [HEQ.out, if_neg (by unfold rootsL; rw [HFF.out]; simp)]
          exact ⟨_, rfl, OwnC.none _ _, below_drewN HI.out.2.2 _⟩
        · rw [hf] at HL
          have HFF := Lib.hid hf
          clear hf
          go_wp2_with fail
          refine HL.out.mono ?_
          rintro e w' ⟨n2, rfl, rfl⟩
          go_wp2_with fail
          go_ret2
          rw [HEQ.out, if_pos (by unfold rootsL; exact HFF.out)]
          exact ⟨_, rfl, by unfold rootsL; rw [← HI.out.1.eq HFF.out]; exact HI.out.2.1, below_drewN HI.out.2.2 _⟩
end Go.Proofs.Ytabpgkkickdopaa
