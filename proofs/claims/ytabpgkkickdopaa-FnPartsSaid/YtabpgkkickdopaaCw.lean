/-
  Zeros appended to a list that the call made, and the laws' comparison of lists. Conditions: the lists' cells can be read, and their numbers are finite. Draws of numbers and of polynomials. No conditions. Draws of polynomials and of parts. No conditions. Draws of polynomials and of parts, and seldom of what is none. No conditions.
-/
import Derived.Test.YtabpgkkickdopaaCs
import Derived.Lib.AppendZerosOnto
namespace Go.Proofs.Ytabpgkkickdopaa
set_option linter.unusedVariables false
open Go Go.RowKit

theorem run_appZ (ty : TypeId) (w : World) (base g n cap : Nat) (zs : List (Nat × Nat)) (hown : OwnC base w (.slice (some ⟨g, 0, none⟩) n cap) zs) (hn : n = zs.length) (k : Nat) (hk : 0 < k) (hl : zs.length + k ≤ 100000) (hbase : base ≤ w.heap.size) :
    ∃ v' w', (Builtin.append_ #[24, 3] ty #[.slice (some ⟨g, 0, none⟩) n cap, .int .i64 k]).run Try.prog w = .ok v' w' ∧ OwnC base w' v' (zs ++ List.replicate k (0, 0)) ∧ w.grownBy w' (some g) := by
  obtain ⟨i, hi, hz0, hz1, hz2⟩ := info_parts info24
  have ht := Try.underlying24
  have htn := Try.underlying3
  subst hn
  have hown' := hown
  obtain ⟨h1, h2⟩ := hown
  have hlen : ((zs ++ List.replicate k ((0, 0) : Nat × Nat)).map cv).length = (zs ++ List.replicate k ((0, 0) : Nat × Nat)).length * 1 := by simp
  have hzc : (Builtin.zeroCells (Value.complex .f64 0 0).cells k).toList = (List.replicate k ((0, 0) : Nat × Nat)).map cv := by
    rw [List.map_replicate]
    apply List.ext_getElem?
    intro j
    by_cases hj : j < k
    · simp [Builtin.zeroCells, Value.cells, hj, Nat.mod_one, cv]
    · simp [Builtin.zeroCells, Value.cells, hj]
  rcases h2 with ⟨hv, _⟩ | ⟨g', cap', cur, hv, hg, hh, hc1, hc2, hc3, hc4⟩
  · cases hv
  · injection hv with e1 e2 e3
    injection e1 with e1
    injection e1 with e1 _ _
    subst e1 e3
    by_cases hroom : zs.length + k ≤ cap
    · have hst := run_storeCells_at Try.prog g zs.length 25 ((List.replicate k ((0, 0) : Nat × Nat)).map cv) 0 cur w hh (by rw [hc3]; simp; omega) (by intro v hv; simp at hv; obtain ⟨_, rfl⟩ := hv; rfl)
      simp only [Nat.add_zero] at hst
      have hw : IntKind.i64.wrap (k : Int) = k := by rw [IntKind.wrap_i64]; omega
      have h48i : ¬ (281474976710656 < (k : Int) * 16) := by omega
      have hneg : ¬ ((k : Int) < 0) := by omega
      have hk0 : k ≠ 0 := by omega
      refine ⟨.slice (some ⟨g, 0, none⟩) (zs.length + k) cap, w.setRow g (cur.toList.take zs.length ++ (List.replicate k ((0, 0) : Nat × Nat)).map cv ++ cur.toList.drop (zs.length + ((List.replicate k ((0, 0) : Nat × Nat)).map cv).length)).toArray, ?_, ?_, ?_⟩
      rotate_left
      · unfold OwnC
        refine ⟨hlen, .inr ⟨g, cap, _, ?_, hg, setRow_heap w g cur _ _ _ hh, by simpa using hroom, hc2, ?_, ?_⟩⟩
        · simp
        · simp only [List.size_toArray, List.length_append, List.length_take, List.length_drop, Array.length_toList, List.length_map, List.length_replicate]
          omega
        · have : cur.toList.take zs.length = zs.map cv := by rw [← hc4, Nat.mul_one]
          rw [this]
          simp only [List.map_append]
          rw [show (zs ++ List.replicate k ((0, 0) : Nat × Nat)).length * 1 = (zs.map cv ++ (List.replicate k ((0, 0) : Nat × Nat)).map cv).length by simp]
          exact List.take_left
      · exact ⟨rfl, rfl, rfl, by simp, fun k _ hk => setRow_other w g k _ (fun e => hk (by rw [e]))⟩
      · have e12 : (Builtin.zeroCells (Value.complex .f64 0 0).cells k).toList = (List.replicate k ((0, 0) : Nat × Nat)).map cv := hzc
        have hadd : (⟨g, 0, none⟩ : Addr).add (zs.length * 1) = ⟨g, zs.length, none⟩ := by rw [Nat.mul_one]; unfold Addr.add; split <;> simp_all
        simp only [Value.cells] at e12
        simp [Builtin.append_, run_underlying ht, run_underlying htn, sizeOf, typeInfo, zeroValue, hi, hz0, hz1, hz2, asInt, asIntOf, hw, hroom, hneg, h48i, hk0, Value.cells, Addr.add_lit]
        rw [e12]
        simp at hst ⊢
        rw [hst]; rfl
    · have holds : (Builtin.firstCells i.size zs.length (.slice (some ⟨g, 0, none⟩) zs.length cap)).run Try.prog w.drew = .ok (zs.map cv).toArray w.drew := by
        rw [hz1]
        exact run_firstCells_some (P := Try.prog) w.drew 1 zs.length ⟨g, 0, none⟩ zs.length cap (zs.map cv) (by simp) (fun j u hu => (World.ownsRow.cells hown' (g := g) rfl) j u hu)
      have hr := Lib.run_append_grow_zeros (P := Try.prog) w 24 3 ty 25 i (.complex .f64 0 0) .i64 .i64 ht htn hi hz0 (some ⟨g, 0, none⟩) zs.length cap (zs.map cv) holds k hk (by rw [hz1]; omega) (by omega) (by omega) (by rw [hz2]; omega) (by rw [hz2]; exact growslice_fits (by omega) (by omega))
      refine ⟨_, _, hr, ?_, ⟨rfl, rfl, rfl, by simp, fun j hj _ => heap_alloc_old w.drew _ hj⟩⟩
      have hge := grownCap_ge w (zs.length + k) cap 25
      have hcm : grownCap w (zs.length + k) cap 25 ≤ maxLen := grownCap_le_maxLen w (zs.length + k) cap 25 (by unfold maxLen; omega)
      unfold OwnC
      refine ⟨hlen, .inr ⟨w.heap.size, _, _, by simp, hbase, heap_alloc_new w.drew _, by simpa using hge, hcm, ?_, ?_⟩⟩
      · simp only [Array.size_append, List.size_toArray, size_zeroCells, List.length_map, Value.cells]
        simp
        omega
      · simp only [Array.toList_append, List.append_assoc]
        rw [hzc, ← List.append_assoc, ← List.map_append]
        rw [show (zs ++ List.replicate k ((0, 0) : Nat × Nat)).length * 1 = ((zs ++ List.replicate k ((0, 0) : Nat × Nat)).map cv).length by simp]
        exact List.take_left
theorem wp_appZ {ops : Array Oper} {rest : List Oper} {o : Oper} {a : Act} {Q : Exit → Act → World → Prop} {w : World} (hgd : o.guard = none) (s x : Operand)
    (ho : o.op = .call { callee := .builtin .append, args := #[s, x], argTypes := #[24, 3] })
    (base g n cap : Nat) (zs : List (Nat × Nat)) (hown : OwnC base w (.slice (some ⟨g, 0, none⟩) n cap) zs) (hn : n = zs.length) (hs : a.eval s = .slice (some ⟨g, 0, none⟩) n cap) (k : Nat) (hk : 0 < k)
    (hx : a.eval x = .int .i64 k) (hl : zs.length + k ≤ 100000) (hbase : base ≤ w.heap.size)
    (h : ∀ v' w', OwnC base w' v' (zs ++ List.replicate k (0, 0)) → w.grownBy w' (some g) → wpList Try.prog ops Q rest (a.put o.dst v') w') : wpList Try.prog ops Q (o :: rest) a w := by
  obtain ⟨v', w', hr, h2, h3⟩ := run_appZ o.type w base g n cap zs hown hn k hk hl hbase
  refine wpList_plain hgd fun K hK => ?_
  unfold Oper.wp execOp
  simp only [ho, resolve, invoke, builtin, Sem.run_bind, Sem.run_pure, Result.andThen_ok, List.map_toArray, List.map_cons, List.map_nil, hs, hx, hr]
  exact hK _ _ (h v' w' h2 h3)

set_option maxRecDepth 100000 in
set_option maxHeartbeats 800000 in
theorem number_any (B : Nat) (a : Option Addr) (len cap b : Nat) (w W : World) (ST : Stay B a len cap b w W) :
    Calls Try.prog 89 #[.pointer (some ⟨b, 0, none⟩)] W (SomeC B a len cap b w) := by
  go_enter Try.func89, Try.ntmps89
  go_wp2_with fail
  refine (next_from (w := w) ST 4 (by omega) (by omega)).mono ?_
  rintro e w' ⟨v, hv, rfl, ST⟩
  go_wp2_with fail
  · clear hv
    refine (next_from (w := w) (by with_reducible (first | exact ST | exact ST.drewN _ | exact ST.alloc' _ | exact (ST.alloc' _).drewN _ | exact (ST.drewN _).alloc' _)) 9 (by omega) (by omega)).mono ?_
    rintro e w' ⟨u1, hu1, rfl, ST⟩
    clear hu1
    go_wp2_with fail
    refine (next_from (w := w) (by with_reducible (first | exact ST | exact ST.drewN _ | exact ST.alloc' _ | exact (ST.alloc' _).drewN _ | exact (ST.drewN _).alloc' _)) 9 (by omega) (by omega)).mono ?_
    rintro e w' ⟨u2, hu2, rfl, ST⟩
    clear hu2
    go_wp2_with fail
    go_ret
    refine ⟨_, _, ?_, ?_, rfl, (by with_reducible (first | exact ST | exact ST.drewN _ | exact ST.alloc' _ | exact (ST.alloc' _).drewN _ | exact (ST.drewN _).alloc' _))⟩ <;> (first | assumption | exact wf_fop _ _ _ _ _ _ rfl | exact wf_int _ | exact wf_lit (by decide) | (refine wf_neg ?_; first | assumption | exact wf_fop _ _ _ _ _ _ rfl))
  · clear hv
    refine (next_from (w := w) (by with_reducible (first | exact ST | exact ST.drewN _ | exact ST.alloc' _ | exact (ST.alloc' _).drewN _ | exact (ST.drewN _).alloc' _)) 9 (by omega) (by omega)).mono ?_
    rintro e w' ⟨u1, hu1, rfl, ST⟩
    clear hu1
    go_wp2_with fail
    go_ret
    refine ⟨_, _, ?_, ?_, rfl, (by with_reducible (first | exact ST | exact ST.drewN _ | exact ST.alloc' _ | exact (ST.alloc' _).drewN _ | exact (ST.drewN _).alloc' _))⟩ <;> (first | assumption | exact wf_fop _ _ _ _ _ _ rfl | exact wf_int _ | exact wf_lit (by decide) | (refine wf_neg ?_; first | assumption | exact wf_fop _ _ _ _ _ _ rfl))
  · clear hv
    refine (next_from (w := w) (by with_reducible (first | exact ST | exact ST.drewN _ | exact ST.alloc' _ | exact (ST.alloc' _).drewN _ | exact (ST.drewN _).alloc' _)) 65 (by omega) (by omega)).mono ?_
    rintro e w' ⟨u1, hu1, rfl, ST⟩
    clear hu1
    go_wp2_with fail
    refine (next_from (w := w) (by with_reducible (first | exact ST | exact ST.drewN _ | exact ST.alloc' _ | exact (ST.alloc' _).drewN _ | exact (ST.drewN _).alloc' _)) 65 (by omega) (by omega)).mono ?_
    rintro e w' ⟨u2, hu2, rfl, ST⟩
    clear hu2
    go_wp2_with fail
    go_ret
    refine ⟨_, _, ?_, ?_, rfl, (by with_reducible (first | exact ST | exact ST.drewN _ | exact ST.alloc' _ | exact (ST.alloc' _).drewN _ | exact (ST.drewN _).alloc' _))⟩ <;> (first | assumption | exact wf_fop _ _ _ _ _ _ rfl | exact wf_int _ | exact wf_lit (by decide) | (refine wf_neg ?_; first | assumption | exact wf_fop _ _ _ _ _ _ rfl))
  · clear hv
    refine (next_from (w := w) (by with_reducible (first | exact ST | exact ST.drewN _ | exact ST.alloc' _ | exact (ST.alloc' _).drewN _ | exact (ST.drewN _).alloc' _)) 2001 (by omega) (by omega)).mono ?_
    rintro e w' ⟨u1, hu1, rfl, ST⟩
    clear hu1
    go_wp2_with fail
    refine (pick_some (w := w) (by with_reducible (first | exact ST | exact ST.drewN _ | exact ST.alloc' _ | exact (ST.alloc' _).drewN _ | exact (ST.drewN _).alloc' _)) [7, 100, 1000] _ 3 rfl (by decide) (by decide) (by intro x hx; simp at hx; unfold InI64; omega) _ rfl).mono ?_
    rintro e w' ⟨z1, rfl, ST⟩
    go_wp2_with fail
    refine (next_from (w := w) (by with_reducible (first | exact ST | exact ST.drewN _ | exact ST.alloc' _ | exact (ST.alloc' _).drewN _ | exact (ST.drewN _).alloc' _)) 2001 (by omega) (by omega)).mono ?_
    rintro e w' ⟨u2, hu2, rfl, ST⟩
    clear hu2
    go_wp2_with fail
    refine (pick_some (w := w) (by with_reducible (first | exact ST | exact ST.drewN _ | exact ST.alloc' _ | exact (ST.alloc' _).drewN _ | exact (ST.drewN _).alloc' _)) [7, 100, 1000] _ 3 rfl (by decide) (by decide) (by intro x hx; simp at hx; unfold InI64; omega) _ rfl).mono ?_
    rintro e w' ⟨z2, rfl, ST⟩
    go_wp2_with fail
    go_ret
    refine ⟨_, _, ?_, ?_, rfl, (by with_reducible (first | exact ST | exact ST.drewN _ | exact ST.alloc' _ | exact (ST.alloc' _).drewN _ | exact (ST.drewN _).alloc' _))⟩ <;> (first | assumption | exact wf_fop _ _ _ _ _ _ rfl | exact wf_int _ | exact wf_lit (by decide) | (refine wf_neg ?_; first | assumption | exact wf_fop _ _ _ _ _ _ rfl))

section
variable {B : Nat} {a : Option Addr} {len cap b : Nat} {w1 W : World} {v : Value} {zs : List (Nat × Nat)}
theorem number_ls (h : LS B a len cap b w1 W v zs) : Calls Try.prog 89 #[.pointer (some ⟨b, 0, none⟩)] W (ComL B a len cap b w1 v zs) :=
  (number_any B a len cap b W W (Stay.refl h.st.src)).mono fun _ _ ⟨x, y, _, _, he, hst⟩ => ⟨x, y, he, h.go hst⟩
theorem strange_ls (h : LS B a len cap b w1 W v zs) : Calls Try.prog 82 #[.pointer (some ⟨b, 0, none⟩)] W (fun e w' => ∃ x : Nat, e = .returned (.float .f64 x) ∧ LS B a len cap b w1 w' v zs) :=
  (strange_any B a len cap b W W (Stay.refl h.st.src)).mono fun _ _ ⟨x, _, he, hst⟩ => ⟨x, he, h.go hst⟩
end
/-- A list of the call's own with at least lo and at most hi numbers; the source goes on. -/
def ListS (lo hi : Nat) (B : Nat) (a : Option Addr) (len cap b : Nat) (w : World) (e : Ending) (w' : World) : Prop :=
  ∃ v zs, e = .returned v ∧ lo ≤ zs.length ∧ zs.length ≤ hi ∧ LS B a len cap b w w' v zs

set_option maxRecDepth 100000 in
set_option maxHeartbeats 1600000 in
theorem roots_any (B : Nat) (a : Option Addr) (len cap b : Nat) (n : Int) (w : World) (hs : Src B a len cap w b) (hn : n ≤ 13) (hn0 : 0 ≤ n) :
    Calls Try.prog 42 #[.pointer (some ⟨b, 0, none⟩), .int .i64 n] w (ListS n.toNat 13 B a len cap b w) := by
  have hb1 := hs.hi
  have ST := Stay.refl hs
  have HNN := Lib.hid hn0
  clear hs
  go_enter Try.func42, Try.ntmps42
  go_wp2_with fail
  have L : LS B a len cap b w (w.alloc (.cells #[] 25)) (.slice (some ⟨w.heap.size, 0, none⟩) 0 0) [] :=
    ⟨ST.alloc' _, OwnC.empty w _ (Nat.le_refl _), hb1⟩
  clear ST
  go_loopw [5, 1] (fun v i wr => ∃ (zs : List (Nat × Nat)) (k : Int) (V : Value) (W : World), W = wr ∧ V = v ∧ 0 ≤ k ∧ (zs.length : Int) + k = n ∧ i = .int .i64 k ∧ LS B a len cap b w W V zs) (fun _ i _ => (intOf i).toNat)
  case atStart => exact ⟨[], n, _, _, rfl, rfl, hn0, by simp, rfl, L⟩
  case round =>
    clear L
    obtain ⟨zs, k, V, W, hW, hV, hk1, hk2, rfl, L⟩ := hrel
    subst hW hV
    by_cases hk : 0 < k
    · by_cases h0 : 0 < zs.length
      · have h0I : (0 : Int) < (zs.length : Int) := by omega
        obtain ⟨g, cp, hv, hcp, hcp2⟩ := L.own.at0 h0
        subst hv
        go_wp2_with fail
        refine (next_ls (by with_reducible (first | exact L | exact L.drewN _ | exact L.alloc' _ | exact (L.alloc' _).drewN _ | exact (L.drewN _).alloc' _)) 6 (by omega) (by omega)).mono ?_
        rintro e w' ⟨v1, hv1, rfl, L⟩
        by_cases hv0 : (v1 : Int) = 0
        · have hv0b : ((v1 : Int) == 0) = true := beq_iff_eq.2 hv0
          clear hv1 hv0
          go_wp2_with fail
          refine (next_ls (by with_reducible (first | exact L | exact L.drewN _ | exact L.alloc' _ | exact (L.alloc' _).drewN _ | exact (L.drewN _).alloc' _)) (zs.length : Int) (by omega) (by omega)).mono ?_
          rintro e w5 ⟨v2, hv2, rfl, L⟩
          have hv2n : v2 < zs.length := by omega
          have hc := L.own.cellAt rfl v2 hv2n
          have hown0 := fun g hg => (L.own.lt g hg).1
          have HO := Lib.hid hown0
          clear hown0
          go_wp2_with (at_builtin; refine wp_appC rfl _ _ rfl _ _ _ rfl w.heap.size _ zs L.own rfl rfl (by omega) (by have := L.st.size; simpa using this) ?_; intro v' w4 hown hgrow)
          have L4 : LS B a len cap b w w4 v' (zs ++ [_]) := ⟨(L.alloc' _).st.grownC hgrow HO.out L.hb, hown, L.hb⟩
          clear hgrow hown
          go_wp2_with fail
          go_roundw
          case rel => exact ⟨_, k - 1, _, _, rfl, rfl, by omega, by simp; omega, rfl, L4⟩
          case measure => simp [intOf]; omega
        · have hv0b : ((v1 : Int) == 0) = false := beq_eq_false_iff_ne.2 hv0
          clear hv1 hv0
          go_wp2_with fail
          refine (number_ls (by with_reducible (first | exact L | exact L.drewN _ | exact L.alloc' _ | exact (L.alloc' _).drewN _ | exact (L.drewN _).alloc' _))).mono ?_
          rintro e w' ⟨x, y, rfl, L⟩
          have hown0 := fun g hg => (L.own.lt g hg).1
          have HO := Lib.hid hown0
          clear hown0
          go_wp2_with (at_builtin; refine wp_appC rfl _ _ rfl _ _ _ rfl w.heap.size _ zs L.own rfl rfl (by omega) (by have := L.st.size; simpa using this) ?_; intro v' w4 hown hgrow)
          have L4 : LS B a len cap b w w4 v' (zs ++ [_]) := ⟨(L.alloc' _).st.grownC hgrow HO.out L.hb, hown, L.hb⟩
          clear hgrow hown
          go_wp2_with fail
          go_roundw
          case rel => exact ⟨_, k - 1, _, _, rfl, rfl, by omega, by simp; omega, rfl, L4⟩
          case measure => simp [intOf]; omega
      · have hz : zs = [] := List.eq_nil_of_length_eq_zero (by omega)
        subst hz
        have hlv : ∃ aa cc, V = .slice aa 0 cc := by
          obtain ⟨aa, cc, hv, _⟩ := L.own.parts
          exact ⟨aa, cc, hv⟩
        obtain ⟨aa, cc, hv⟩ := hlv
        subst hv
        go_wp2_with fail
        refine (number_ls (by with_reducible (first | exact L | exact L.drewN _ | exact L.alloc' _ | exact (L.alloc' _).drewN _ | exact (L.drewN _).alloc' _))).mono ?_
        rintro e w' ⟨x, y, rfl, L⟩
        have hown0 := fun g hg => (L.own.lt g hg).1
        have HO := Lib.hid hown0
        clear hown0
        go_wp2_with (at_builtin; refine wp_appC rfl _ _ rfl _ _ _ rfl w.heap.size _ [] L.own rfl rfl (by simp) (by have := L.st.size; simpa using this) ?_; intro v' w4 hown hgrow)
        have L4 : LS B a len cap b w w4 v' ([] ++ [_]) := ⟨(L.alloc' _).st.grownC hgrow HO.out L.hb, hown, L.hb⟩
        clear hgrow hown
        go_wp2_with fail
        go_roundw
        case rel => exact ⟨_, k - 1, _, _, rfl, rfl, by omega, by simp at hk2 ⊢; omega, rfl, L4⟩
        case measure => simp [intOf]; omega
    · go_wp2_with fail
      go_ret
      exact ⟨_, zs, rfl, by omega, by omega, L⟩

section
variable {B : Nat} {a : Option Addr} {len cap b : Nat} {w1 W : World} {v : Value} {zs : List (Nat × Nat)}
theorem LS.set {g n cp : Nat} (h : LS B a len cap b w1 W (.slice (some ⟨g, 0, none⟩) n cp) zs) (hn : n = zs.length) (i x y : Nat) : LS B a len cap b w1 (W.setCell ⟨g, i, none⟩ (.complex .f64 x y)) (.slice (some ⟨g, 0, none⟩) n cp) (zs.set i (x, y)) := by
  have hg := h.own.le hn
  refine ⟨?_, h.own.stored hn i x y, h.hb⟩
  subst hn
  exact h.st.grownC (World.ownsRow.stored h.own i (.complex .f64 x y)).2 (fun g' e => by injection e with e; omega) h.hb
theorem LS.takeS {x : Option Addr} {n c : Nat} (h : LS B a len cap b w1 W (.slice x n c) zs) (k : Nat) (hk : k ≤ zs.length) : LS B a len cap b w1 W (.slice x k c) (zs.take k) := ⟨h.st, h.own.take k hk, h.hb⟩
theorem LS.trans {w0 : World} (h : LS B a len cap b w1 W v zs) (g : Stay B a len cap b w0 w1) (hb : b < w0.heap.size) : LS B a len cap b w0 W v zs := ⟨g.trans h.st, OwnC.lower h.own g.size, hb⟩
end

set_option maxRecDepth 100000 in
set_option maxHeartbeats 1600000 in
theorem draw4 (B : Nat) (a : Option Addr) (len cap b : Nat) (w : World) (hs : Src B a len cap w b) :
    Calls Try.prog 88 #[.pointer (some ⟨b, 0, none⟩)] w (ListS 2 14 B a len cap b w) := by
  have hb1 := hs.hi
  have ST := Stay.refl hs
  clear hs
  go_enter Try.func88, Try.ntmps88
  go_wp2_with fail
  refine (next_from (w := w) ST 4 (by omega) (by omega)).mono ?_
  rintro e w' ⟨v1, hv1, rfl, ST⟩
  go_wp2_with fail
  refine (next_from (w := w) (by with_reducible (first | exact ST | exact ST.drewN _ | exact ST.alloc' _ | exact (ST.alloc' _).drewN _ | exact (ST.drewN _).alloc' _)) 6 (by omega) (by omega)).mono ?_
  rintro e w' ⟨v2, hv2, rfl, ST⟩
  go_wp2_with fail
  refine (next_from (w := w) (by with_reducible (first | exact ST | exact ST.drewN _ | exact ST.alloc' _ | exact (ST.alloc' _).drewN _ | exact (ST.drewN _).alloc' _)) 12 (by omega) (by omega)).mono ?_
  rintro e w' ⟨v3, hv3, rfl, ST⟩
  go_wp2_with fail
  refine (pick_mem (w := w) (by with_reducible (first | exact ST | exact ST.drewN _ | exact ST.alloc' _ | exact (ST.alloc' _).drewN _ | exact (ST.drewN _).alloc' _)) [(v1 : Int), (v2 : Int), (v3 : Int)] _ 3 rfl (by decide) (by decide) (fun x => 0 ≤ x ∧ x ≤ 11) (by intro x hx; simp at hx; omega) _ rfl).mono ?_
  rintro e w' ⟨z, hz, rfl, ST⟩
  obtain ⟨Z, hZ⟩ : ∃ Z : Nat, z = Z := ⟨z.toNat, by omega⟩
  subst hZ
  have hZ : Z ≤ 11 := by omega
  clear hv1 hv2 hv3 hz
  go_wp2_with fail
  refine (next_from (w := w) (by with_reducible (first | exact ST | exact ST.drewN _ | exact ST.alloc' _ | exact (ST.alloc' _).drewN _ | exact (ST.drewN _).alloc' _)) 2 (by omega) (by omega)).mono ?_
  rintro e w5 ⟨v4, hv4, rfl, ST⟩
  have LOOP : True := trivial
  by_cases hv0 : (v4 : Int) = 0
  · have hv0b : ((v4 : Int) == 0) = true := beq_iff_eq.2 hv0
    clear hv4 hv0
    go_wp2_with fail
    refine (roots_any B a len cap b _ _ ST.src (by omega) (by omega)).mono ?_
    rintro e w6 ⟨vr, rs, rfl, hr1, hr2, L⟩
    obtain ⟨ra, rc, hv, hrc, hrc2, hcells⟩ := L.own.parts
    subst hv
    have L0 := L.trans ST hb1
    have HR := Lib.hid (sOfRoots4 ra rs rc w6 hcells (by omega))
    clear hcells
    cases hq : allF (rootsL rs)
    · rw [finL_no hq] at HR
      clear hq
      go_wp2_with fail
      refine HR.out.mono ?_
      rintro e w7 ⟨v7, rfl, ho7, hb7⟩
      have ST := L0.st.low hb1 (hb7.mono L0.st.size)
      clear ho7 hb7 L L0
      go_wp2_with fail
      have L : LS B a len cap b w (w7.alloc (.cells #[] 25)) (.slice (some ⟨w7.heap.size, 0, none⟩) 0 0) [] :=
        ⟨ST.alloc' _, OwnC.empty w7 _ ST.size, hb1⟩
      clear ST
      go_loopw [6, 7] (fun v i wr => ∃ (zs : List (Nat × Nat)) (V : Value) (W : World), W = wr ∧ V = v ∧ zs.length ≤ Z + 2 ∧ i = .int .i64 (zs.length : Int) ∧ LS B a len cap b w W V zs) (fun _ i _ => Z + 2 - (intOf i).toNat)
      case atStart => exact ⟨[], _, _, rfl, rfl, by simp, rfl, L⟩
      case round =>
        clear L
        obtain ⟨zs, V, W, hW, hV, hk1, rfl, L⟩ := hrel
        subst hW hV
        by_cases hk : zs.length < Z + 2
        · have hkI : (zs.length : Int) ≤ 1 + (Z : Int) := by omega
          go_wp2_with fail
          refine (next_ls (by with_reducible (first | exact L | exact L.drewN _ | exact L.alloc' _ | exact (L.alloc' _).drewN _ | exact (L.drewN _).alloc' _)) 16 (by omega) (by omega)).mono ?_
          rintro e w8 ⟨v8, hv8, rfl, L⟩
          by_cases hv0 : (v8 : Int) = 0
          · have hv0b : ((v8 : Int) == 0) = true := beq_iff_eq.2 hv0
            clear hv8 hv0
            go_wp2_with fail
            refine (draw_ls (by with_reducible (first | exact L | exact L.drewN _ | exact L.alloc' _ | exact (L.alloc' _).drewN _ | exact (L.drewN _).alloc' _))).mono ?_
            rintro e w' ⟨x, y, rfl, L⟩
            have HO := Lib.hid (fun g hg => (L.own.lt g hg).1)
            go_wp2_with (at_builtin; refine wp_appC rfl _ _ rfl _ _ _ rfl w.heap.size _ zs L.own rfl rfl (by omega) (by have := L.st.size; simpa using this) ?_; intro v' w4 hown hgrow)
            have L4 : LS B a len cap b w w4 v' (zs ++ [_]) := ⟨(L.alloc' _).st.grownC hgrow HO.out L.hb, hown, L.hb⟩
            clear hgrow hown
            go_wp2_with fail
            go_roundw
            case rel => exact ⟨zs ++ [_], _, _, rfl, rfl, by simp; omega, by simp, L4⟩
            case measure => simp [intOf]; omega
          · have hv0b : ((v8 : Int) == 0) = false := beq_eq_false_iff_ne.2 hv0
            clear hv8 hv0
            go_wp2_with fail
            refine (number_ls (by with_reducible (first | exact L | exact L.drewN _ | exact L.alloc' _ | exact (L.alloc' _).drewN _ | exact (L.drewN _).alloc' _))).mono ?_
            rintro e w' ⟨x, y, rfl, L⟩
            have HO := Lib.hid (fun g hg => (L.own.lt g hg).1)
            go_wp2_with (at_builtin; refine wp_appC rfl _ _ rfl _ _ _ rfl w.heap.size _ zs L.own rfl rfl (by omega) (by have := L.st.size; simpa using this) ?_; intro v' w4 hown hgrow)
            have L4 : LS B a len cap b w w4 v' (zs ++ [_]) := ⟨(L.alloc' _).st.grownC hgrow HO.out L.hb, hown, L.hb⟩
            clear hgrow hown
            go_wp2_with fail
            go_roundw
            case rel => exact ⟨zs ++ [_], _, _, rfl, rfl, by simp; omega, by simp, L4⟩
            case measure => simp [intOf]; omega
        · have hkI : ¬ (zs.length : Int) ≤ 1 + (Z : Int) := by omega
          have hzl : zs.length = Z + 2 := by omega
          have HZL := Lib.hid hzl
          obtain ⟨g, cp, hv, hcp, hcp2⟩ := L.own.at0 (by omega)
          subst hv
          have hi1 : (1 + (Z : Int)).toNat = Z + 1 := by omega
          have hi2 : (0 : Int) ≤ 1 + (Z : Int) := by omega
          have hi3 : 1 + (Z : Int) < (zs.length : Int) := by omega
          have hc := L.own.cellAt rfl (Z + 1) (by omega)
          have hf := L.own.frozenAt rfl (Z + 1)
          obtain ⟨x, hx⟩ : ∃ x, x = (zs[Z + 1]'(by omega)).1 := ⟨_, rfl⟩
          obtain ⟨y, hy⟩ : ∃ y, y = (zs[Z + 1]'(by omega)).2 := ⟨_, rfl⟩
          rw [← hx, ← hy] at hc
          clear hx hy hzl
          have hz0 : isZ x y = true ∨ isZ x y = false := by cases isZ x y <;> simp
          rcases hz0 with he | he
          · unfold isZ at he
            go_wp2_with fail
            go_ret
            exact ⟨_, zs.set (Z + 1) (one, 0), rfl, by rw [List.length_set]; have := HZL.out; omega, by rw [List.length_set]; have := HZL.out; omega, L.set rfl (Z + 1) one 0⟩
          · unfold isZ at he
            go_wp2_with fail
            go_ret
            exact ⟨_, zs, rfl, by have := HZL.out; omega, by have := HZL.out; omega, L⟩
    · rw [finL_yes hq] at HR
      clear hq
      go_wp2_with fail
      refine HR.out.mono ?_
      rintro e w7 ⟨v7, rfl, ho7, hb7⟩
      have L7 : LS B a len cap b w w7 v7 (rootsL rs) := ⟨L0.st.low hb1 (hb7.mono L0.st.size), OwnC.lower ho7 L0.st.size, hb1⟩
      clear ho7 hb7 L L0
      go_wp2_with fail
      go_ret
      exact ⟨_, _, rfl, by unfold rootsL; rw [rootsTo_length _ _ (Nat.le_refl _)]; omega, by unfold rootsL; rw [rootsTo_length _ _ (Nat.le_refl _)]; omega, L7⟩
  · have hv0b : ((v4 : Int) == 0) = false := beq_eq_false_iff_ne.2 hv0
    clear hv4 hv0
    go_wp2_with fail
    have L : LS B a len cap b w (w5.alloc (.cells #[] 25)) (.slice (some ⟨w5.heap.size, 0, none⟩) 0 0) [] :=
      ⟨ST.alloc' _, OwnC.empty w5 _ ST.size, hb1⟩
    clear ST
    go_loopw [6, 7] (fun v i wr => ∃ (zs : List (Nat × Nat)) (V : Value) (W : World), W = wr ∧ V = v ∧ zs.length ≤ Z + 2 ∧ i = .int .i64 (zs.length : Int) ∧ LS B a len cap b w W V zs) (fun _ i _ => Z + 2 - (intOf i).toNat)
    case atStart => exact ⟨[], _, _, rfl, rfl, by simp, rfl, L⟩
    case round =>
      clear L
      obtain ⟨zs, V, W, hW, hV, hk1, rfl, L⟩ := hrel
      subst hW hV
      by_cases hk : zs.length < Z + 2
      · have hkI : (zs.length : Int) ≤ 1 + (Z : Int) := by omega
        go_wp2_with fail
        refine (next_ls (by with_reducible (first | exact L | exact L.drewN _ | exact L.alloc' _ | exact (L.alloc' _).drewN _ | exact (L.drewN _).alloc' _)) 16 (by omega) (by omega)).mono ?_
        rintro e w8 ⟨v8, hv8, rfl, L⟩
        by_cases hv0 : (v8 : Int) = 0
        · have hv0b : ((v8 : Int) == 0) = true := beq_iff_eq.2 hv0
          clear hv8 hv0
          go_wp2_with fail
          refine (draw_ls (by with_reducible (first | exact L | exact L.drewN _ | exact L.alloc' _ | exact (L.alloc' _).drewN _ | exact (L.drewN _).alloc' _))).mono ?_
          rintro e w' ⟨x, y, rfl, L⟩
          have HO := Lib.hid (fun g hg => (L.own.lt g hg).1)
          go_wp2_with (at_builtin; refine wp_appC rfl _ _ rfl _ _ _ rfl w.heap.size _ zs L.own rfl rfl (by omega) (by have := L.st.size; simpa using this) ?_; intro v' w4 hown hgrow)
          have L4 : LS B a len cap b w w4 v' (zs ++ [_]) := ⟨(L.alloc' _).st.grownC hgrow HO.out L.hb, hown, L.hb⟩
          clear hgrow hown
          go_wp2_with fail
          go_roundw
          case rel => exact ⟨zs ++ [_], _, _, rfl, rfl, by simp; omega, by simp, L4⟩
          case measure => simp [intOf]; omega
        · have hv0b : ((v8 : Int) == 0) = false := beq_eq_false_iff_ne.2 hv0
          clear hv8 hv0
          go_wp2_with fail
          refine (number_ls (by with_reducible (first | exact L | exact L.drewN _ | exact L.alloc' _ | exact (L.alloc' _).drewN _ | exact (L.drewN _).alloc' _))).mono ?_
          rintro e w' ⟨x, y, rfl, L⟩
          have HO := Lib.hid (fun g hg => (L.own.lt g hg).1)
          go_wp2_with (at_builtin; refine wp_appC rfl _ _ rfl _ _ _ rfl w.heap.size _ zs L.own rfl rfl (by omega) (by have := L.st.size; simpa using this) ?_; intro v' w4 hown hgrow)
          have L4 : LS B a len cap b w w4 v' (zs ++ [_]) := ⟨(L.alloc' _).st.grownC hgrow HO.out L.hb, hown, L.hb⟩
          clear hgrow hown
          go_wp2_with fail
          go_roundw
          case rel => exact ⟨zs ++ [_], _, _, rfl, rfl, by simp; omega, by simp, L4⟩
          case measure => simp [intOf]; omega
      · have hkI : ¬ (zs.length : Int) ≤ 1 + (Z : Int) := by omega
        have hzl : zs.length = Z + 2 := by omega
        have HZL := Lib.hid hzl
        obtain ⟨g, cp, hv, hcp, hcp2⟩ := L.own.at0 (by omega)
        subst hv
        have hi1 : (1 + (Z : Int)).toNat = Z + 1 := by omega
        have hi2 : (0 : Int) ≤ 1 + (Z : Int) := by omega
        have hi3 : 1 + (Z : Int) < (zs.length : Int) := by omega
        have hc := L.own.cellAt rfl (Z + 1) (by omega)
        have hf := L.own.frozenAt rfl (Z + 1)
        obtain ⟨x, hx⟩ : ∃ x, x = (zs[Z + 1]'(by omega)).1 := ⟨_, rfl⟩
        obtain ⟨y, hy⟩ : ∃ y, y = (zs[Z + 1]'(by omega)).2 := ⟨_, rfl⟩
        rw [← hx, ← hy] at hc
        clear hx hy hzl
        have hz0 : isZ x y = true ∨ isZ x y = false := by cases isZ x y <;> simp
        rcases hz0 with he | he
        · unfold isZ at he
          go_wp2_with fail
          go_ret
          exact ⟨_, zs.set (Z + 1) (one, 0), rfl, by rw [List.length_set]; have := HZL.out; omega, by rw [List.length_set]; have := HZL.out; omega, L.set rfl (Z + 1) one 0⟩
        · unfold isZ at he
          go_wp2_with fail
          go_ret
          exact ⟨_, zs, rfl, by have := HZL.out; omega, by have := HZL.out; omega, L⟩

set_option maxRecDepth 100000 in
set_option maxHeartbeats 1600000 in
theorem spoil4 (B : Nat) (a : Option Addr) (len cap b : Nat) (w : World) (hs : Src B a len cap w b) :
    Calls Try.prog 40 #[.pointer (some ⟨b, 0, none⟩)] w (ListS 1 26 B a len cap b w) := by
  have HD := Lib.hid (draw4 B a len cap b w hs)
  clear hs
  go_enter Try.func40, Try.ntmps40
  go_wp2_with fail
  refine HD.out.mono ?_
  rintro e w1 ⟨v, zs, rfl, hl1, hl2, L⟩
  obtain ⟨g, cp, hv, hcp, hcp2⟩ := L.own.at0 (by omega)
  subst hv
  go_wp2_with fail
  refine (next_ls (by with_reducible (first | exact L | exact L.drewN _ | exact L.alloc' _ | exact (L.alloc' _).drewN _ | exact (L.drewN _).alloc' _)) 30 (by omega) (by omega)).mono ?_
  rintro e w2 ⟨k, hk, rfl, L⟩
  have h2I : (2 : Int) ≤ (zs.length : Int) := by omega
  by_cases k0 : (k : Int) = 0
  · have kb : ((k : Int) == 0) = true := beq_iff_eq.2 k0
    clear hk k0
    go_wp2_with fail
    refine (next_ls (by with_reducible (first | exact L | exact L.drewN _ | exact L.alloc' _ | exact (L.alloc' _).drewN _ | exact (L.drewN _).alloc' _)) (zs.length : Int) (by omega) (by omega)).mono ?_
    rintro e w3 ⟨j, hj, rfl, L⟩
    go_wp2_with fail
    refine (strange_ls (by with_reducible (first | exact L | exact L.drewN _ | exact L.alloc' _ | exact (L.alloc' _).drewN _ | exact (L.drewN _).alloc' _))).mono ?_
    rintro e w4 ⟨x, rfl, L⟩
    have hjn : j < zs.length := by omega
    have hc := L.own.cellAt rfl j hjn
    have hf := L.own.frozenAt rfl j
    go_wp2_with fail
    go_ret
    exact ⟨_, zs.set j (x, 0), rfl, by rw [List.length_set]; omega, by rw [List.length_set]; omega, L.set rfl j x 0⟩
  have kb0 : ((k : Int) == 0) = false := beq_eq_false_iff_ne.2 k0
  by_cases k1 : (k : Int) = 1
  · have kb : ((k : Int) == 1) = true := beq_iff_eq.2 k1
    have HO := Lib.hid (fun g hg => (L.own.lt g hg).1)
    clear hk k0 k1
    go_wp2_with (at_builtin; refine wp_appC rfl _ _ rfl _ _ _ rfl w.heap.size _ zs L.own rfl rfl (by omega) (by have := L.st.size; simpa using this) ?_; intro v' w4 hown hgrow)
    have L4 : LS B a len cap b w w4 v' (zs ++ [_]) := ⟨(L.alloc' _).st.grownC hgrow HO.out L.hb, hown, L.hb⟩
    clear hgrow hown
    go_wp2_with fail
    go_ret
    exact ⟨_, zs ++ [_], rfl, by simp, by simp; omega, L4⟩
  have kb1 : ((k : Int) == 1) = false := beq_eq_false_iff_ne.2 k1
  by_cases k2 : (k : Int) = 2
  · have kb : ((k : Int) == 2) = true := beq_iff_eq.2 k2
    have hcI : (1 : Int) ≤ (cp : Int) := by omega
    clear hk k0 k1 k2
    go_wp2_with fail
    go_ret
    exact ⟨_, zs.take 1, rfl, by rw [List.length_take]; omega, by rw [List.length_take]; omega, L.takeS 1 (by omega)⟩
  have kb2 : ((k : Int) == 2) = false := beq_eq_false_iff_ne.2 k2
  by_cases k3 : (k : Int) = 3
  · have kb : ((k : Int) == 3) = true := beq_iff_eq.2 k3
    have HO := Lib.hid (fun g hg => (L.own.lt g hg).1)
    clear hk k0 k1 k2 k3
    go_wp2_with (at_builtin; refine wp_appZ rfl _ _ rfl w.heap.size g _ cp zs L.own rfl rfl 12 (by omega) rfl (by omega) L.st.size ?_; intro v' w4 hown hgrow)
    have L4 : LS B a len cap b w w4 v' (zs ++ List.replicate 12 (0, 0)) := ⟨L.st.grownC hgrow HO.out L.hb, hown, L.hb⟩
    clear hgrow hown
    go_wp2_with fail
    go_ret
    exact ⟨_, zs ++ List.replicate 12 (0, 0), rfl, by simp, by simp; omega, L4⟩
  · have kb3 : ((k : Int) == 3) = false := beq_eq_false_iff_ne.2 k3
    clear hk k0 k1 k2 k3
    go_wp2_with fail
    go_ret
    exact ⟨_, zs, rfl, by omega, by omega, L⟩

/-- A list that can be read, made by the call; the source goes on. -/
def ListR (hi : Nat) (B : Nat) (a : Option Addr) (len cap b : Nat) (w : World) (e : Ending) (w' : World) : Prop :=
  ∃ x zs c, e = .returned (.slice x zs.length c) ∧ zs.length ≤ hi ∧ zs.length ≤ c ∧ c ≤ 9223372036854775807 ∧ Cells w' x zs ∧ (∀ ad, x = some ad → w.heap.size ≤ ad.block) ∧ Stay B a len cap b w w'
theorem ListR.own {hi B : Nat} {a : Option Addr} {len cap b : Nat} {w w' : World} {v : Value} {zs : List (Nat × Nat)} (L : LS B a len cap b w w' v zs) (h : zs.length ≤ hi) : ListR hi B a len cap b w (.returned v) w' := by
  obtain ⟨h1, h2⟩ := L.own
  obtain ⟨x, c, hv, hc, hc2, hcells⟩ := L.own.parts
  subst hv
  refine ⟨x, zs, c, rfl, h, hc, hc2, hcells, fun ad e => ?_, L.st⟩
  subst e
  rcases h2 with ⟨hv, _⟩ | ⟨g, cap', cur, hv, hg, _⟩
  · cases hv
  · injection hv with e1
    injection e1 with e1
    subst e1
    exact hg
theorem ListR.ret {hi B : Nat} {a : Option Addr} {len cap b : Nat} {w w' : World} {g n cp : Nat} {zs : List (Nat × Nat)} (L : LS B a len cap b w w' (.slice (some ⟨g, 0, Option.none⟩) n cp) zs) (hn : n = zs.length) (k : Nat) (hk : k ≤ zs.length) (h : zs.length ≤ hi) (m c : Nat) (hm : m = zs.length - k) (hc : m ≤ c) (hc2 : c ≤ 9223372036854775807) : ListR hi B a len cap b w (.returned (.slice (some ⟨g, k, Option.none⟩) m c)) w' := by
  subst hn
  obtain ⟨x, c', hv, hcells⟩ := L.own.cells
  injection hv with e1 e2 e3
  subst e1 e3
  refine ⟨some ⟨g, k, Option.none⟩, zs.drop k, c, by rw [List.length_drop, hm], by rw [List.length_drop]; omega, by rw [List.length_drop]; omega, hc2, ?_, fun ad e => ?_, L.st⟩
  · have := hcells.drop1 k
    rwa [Nat.zero_add] at this
  · injection e with e
    subst e
    exact L.own.le rfl

set_option maxRecDepth 100000 in
set_option maxHeartbeats 1600000 in
theorem part4 (B : Nat) (a : Option Addr) (len cap b : Nat) (w : World) (hs : Src B a len cap w b) :
    Calls Try.prog 67 #[.pointer (some ⟨b, 0, none⟩)] w (ListR 26 B a len cap b w) := by
  have hb1 := hs.hi
  have ST := Stay.refl hs
  clear hs
  go_enter Try.func67, Try.ntmps67
  go_wp2_with fail
  refine (next_from (w := w) ST 4 (by omega) (by omega)).mono ?_
  rintro e w1 ⟨v1, hv1, rfl, ST⟩
  by_cases k0 : (v1 : Int) = 0
  · have kb : ((v1 : Int) == 0) = true := beq_iff_eq.2 k0
    clear hv1 k0
    go_wp2_with fail
    refine (spoil4 B a len cap b w1 ST.src).mono ?_
    rintro e w2 ⟨v, zs, rfl, hl1, hl2, L⟩
    have L := L.trans ST hb1
    obtain ⟨g, cp, hv, hcp, hcp2⟩ := L.own.at0 (by omega)
    subst hv
    go_wp2_with fail
    refine (next_ls (by with_reducible (first | exact L | exact L.drewN _ | exact L.alloc' _ | exact (L.alloc' _).drewN _ | exact (L.drewN _).alloc' _)) (zs.length : Int) (by omega) (by omega)).mono ?_
    rintro e w3 ⟨j, hj, rfl, L⟩
    have hj1 : ((j : Int) + 1).toNat = j + 1 := by omega
    have hj2 : (0 : Int) ≤ (j : Int) + 1 := by omega
    have hj3 : (j : Int) + 1 ≤ (cp : Int) := by omega
    go_wp2_with fail
    go_ret
    have L2 := L.takeS (j + 1) (by omega)
    have := ListR.own (hi := 26) L2 (by rw [List.length_take]; omega)
    exact this
  have kb0 : ((v1 : Int) == 0) = false := beq_eq_false_iff_ne.2 k0
  clear hv1 k0
  go_wp2_with fail
  refine (next_from (w := w) (by with_reducible (first | exact ST | exact ST.drewN _ | exact ST.alloc' _ | exact (ST.alloc' _).drewN _ | exact (ST.drewN _).alloc' _)) 8 (by omega) (by omega)).mono ?_
  rintro e w2 ⟨v2, hv2, rfl, ST⟩
  by_cases k0 : (v2 : Int) = 0
  · have kb : ((v2 : Int) == 0) = true := beq_iff_eq.2 k0
    clear hv2 k0
    go_wp2_with fail
    go_ret
    have L : LS B a len cap b w (w2.alloc (.cells #[] 25)) (.slice (some ⟨w2.heap.size, 0, none⟩) 0 0) [] :=
      ⟨ST.alloc' _, OwnC.empty w2 _ ST.size, hb1⟩
    exact ListR.own (hi := 26) L (by simp)
  have kb2 : ((v2 : Int) == 0) = false := beq_eq_false_iff_ne.2 k0
  clear hv2 k0
  go_wp2_with fail
  refine (spoil4 B a len cap b w2 ST.src).mono ?_
  rintro e w3 ⟨v, zs, rfl, hl1, hl2, L⟩
  have L := L.trans ST hb1
  obtain ⟨g, cp, hv, hcp, hcp2⟩ := L.own.at0 (by omega)
  subst hv
  by_cases h6 : 6 < zs.length
  · have h6I : (6 : Int) < (zs.length : Int) := by omega
    go_wp2_with fail
    refine (next_ls (by with_reducible (first | exact L | exact L.drewN _ | exact L.alloc' _ | exact (L.alloc' _).drewN _ | exact (L.drewN _).alloc' _)) 2 (by omega) (by omega)).mono ?_
    rintro e w4 ⟨v4, hv4, rfl, L⟩
    by_cases k0 : (v4 : Int) = 0
    · have kb : ((v4 : Int) == 0) = true := beq_iff_eq.2 k0
      clear hv4 k0
      have hj1 : ((zs.length : Int) - 4).toNat = zs.length - 4 := by omega
      have hj2 : (0 : Int) ≤ (zs.length : Int) - 4 := by omega
      have hj3 : (zs.length : Int) - 4 ≤ (zs.length : Int) := by omega
      have hj4 : ((zs.length : Int) - ((zs.length : Int) - 4)).toNat = 4 := by omega
      have hj5 : ((cp : Int) - ((zs.length : Int) - 4)).toNat = cp - (zs.length - 4) := by omega
      have hj6 : zs.length - (zs.length - 4) = 4 := by omega
      go_wp2_with fail
      go_ret
      exact ListR.ret L rfl (zs.length - 4) (by omega) hl2 _ _ (by omega) (by omega) (by omega)
    · have kb : ((v4 : Int) == 0) = false := beq_eq_false_iff_ne.2 k0
      clear hv4 k0
      go_wp2_with fail
      go_ret
      exact ListR.own L hl2
  · have h6I : ¬ (6 : Int) < (zs.length : Int) := by omega
    go_wp2_with fail
    go_ret
    exact ListR.own L hl2
end Go.Proofs.Ytabpgkkickdopaa
