/-
  The list that the source draws. No conditions.
-/
import Derived.Test.YtabpgkkickdopaaSl
import Derived.OwnWalk
namespace Go.Proofs.Ytabpgkkickdopaa
set_option linter.unusedVariables false
open Go Go.RowKit

def cv (z : Nat × Nat) : Value := .complex .f64 z.1 z.2
/-- A list of wide numbers that the call made: it owns its cells. -/
def OwnC (base : Nat) (w : World) (v : Value) (zs : List (Nat × Nat)) : Prop := w.ownsRow base 25 1 v zs.length (zs.map cv)

theorem info24 : (Try.prog.info? 25).map (fun i => (i.zero, i.size, i.bytes)) = some (some (.complex .f64 0 0), 1, 16) := by kernel_rfl

/-- append(list, z) on a list of the call's own; the new number lies in a block that was just made. -/
theorem wp_appC {ops : Array Oper} {rest : List Oper} {o : Oper} {a : Act} {Q : Exit → Act → World → Prop} {w : World} (hgd : o.guard = none) (s x : Operand)
    (ho : o.op = .call { callee := .builtin .append, args := #[s, x], argTypes := #[24, 24] })
    (V : World) (re im : Nat) (hW : w = V.alloc (.cells #[.complex .f64 re im] 25)) (base : Nat) (v : Value) (zs : List (Nat × Nat)) (hown : OwnC base V v zs) (hs : a.eval s = v)
    (hx : a.eval x = .slice (some ⟨V.heap.size, 0, none⟩) 1 1) (hlen : zs.length ≤ 100000) (hbase : base ≤ V.heap.size)
    (h : ∀ v' w', OwnC base w' v' (zs ++ [(re, im)]) → (V.alloc (.cells #[.complex .f64 re im] 25)).grownBy w' v.ownBlock → wpList Try.prog ops Q rest (a.put o.dst v') w') : wpList Try.prog ops Q (o :: rest) a w := by
  subst hW
  obtain ⟨i0, hi, hz0, hz1, hz2⟩ := info_parts info24
  refine wpList_append_own _ hgd s x 24 ho base 25 i0 (.complex .f64 0 0) 1 16 Try.underlying24 hi hz0 hz1 hz2 rfl (by decide) v zs.length (zs.map cv) hs (hown.alloc _) ⟨V.heap.size, 0, none⟩ 1 1 [.complex .f64 re im] hx rfl (cell_one_new _ _ _) (by intro u hu; simp at hu; subst hu; rfl) (by unfold maxLen; omega) (by omega) (by simp; omega) ?_
  intro v' w' h1 h2 _
  refine h v' w' ?_ h2
  unfold OwnC
  rw [List.length_append, List.map_append]
  exact h1

section
variable {B : Nat} {a : Option Addr} {len cap b : Nat} {w W W' : World}
theorem Stay.grownC (h : Stay B a len cap b w W) {row : Option Nat} (hg : W.grownBy W' row) (hr : ∀ g, row = some g → w.heap.size ≤ g) (hbw : b < w.heap.size) : Stay B a len cap b w W' := by
  have hb := h.src.hi
  have hne : ∀ k, k < w.heap.size → some k ≠ row := fun k hk e => by have := hr k e.symm; omega
  have hbk : ∀ p : Addr, p.block < w.heap.size → W'.cell? p = W.cell? p := fun p hp => World.cell?_of_block (hg.block p.block (Nat.lt_of_lt_of_le hp h.size) (hne _ hp))
  refine ⟨hg.os.trans h.os, hg.tape.trans h.tape, hg.output.trans h.output, Nat.le_trans h.size hg.size, fun k hk hkb => (hg.block k (Nat.lt_of_lt_of_le hk h.size) (hne k hk)).trans (h.block k hk hkb), ?_⟩
  have hs := h.src
  refine ⟨hs.lo, Nat.lt_of_lt_of_le hs.hi hg.size, hs.fit, by rw [hbk _ hbw]; exact hs.c0, ?_, ?_, fun i => ?_, fun i hi => ?_⟩
  · obtain ⟨k, hk, c1⟩ := hs.c1
    exact ⟨k, hk, by rw [hbk _ hbw]; exact c1⟩
  · obtain ⟨x, c2⟩ := hs.c2
    exact ⟨x, by rw [hbk _ hbw]; exact c2⟩
  · have := hs.fz i
    rw [World.frozen?_of_block (w := W) (hg.block b hs.hi (hne _ hbw))]; exact this
  · obtain ⟨c, o', u, ha, hc, hu, hcell⟩ := hs.code i hi
    have := hs.lo
    exact ⟨c, o', u, ha, hc, hu, by rw [hbk _ (by show c < _; omega)]; exact hcell⟩
theorem OwnC.stay {base : Nat} {v : Value} {zs : List (Nat × Nat)} (h : OwnC base W v zs) (hbb : b < base) (hs : Stay B a len cap b W W') : OwnC base W' v zs := by
  obtain ⟨h1, h2⟩ := h
  refine ⟨h1, ?_⟩
  rcases h2 with h2 | ⟨g, c, cur, hv, hg, hh, hrest⟩
  · exact .inl h2
  · refine .inr ⟨g, c, cur, hv, hg, ?_, hrest⟩
    have : g < W.heap.size := (Array.getElem?_eq_some_iff.1 hh).1
    rw [hs.block g this (by omega)]; exact hh
theorem OwnC.drewN {base : Nat} {v : Value} {zs : List (Nat × Nat)} (h : OwnC base W v zs) (n : Nat) : OwnC base (W.drewN n) v zs := h
theorem OwnC.cells {base : Nat} {v : Value} {zs : List (Nat × Nat)} (h : OwnC base W v zs) : ∃ a c, v = .slice a zs.length c ∧ Cells W a zs := by
  obtain ⟨h1, h2⟩ := h
  rcases h2 with ⟨hv, hn⟩ | ⟨g, c, cur, hv, hg, hh, hc1, hc2, hc3, hc4⟩
  · refine ⟨none, 0, ?_, by omega, fun i hi => by omega⟩
    rw [hv, hn]
  · unfold maxLen at hc2
    refine ⟨_, c, hv, by omega, fun i hi => ⟨g, 0, rfl, ?_⟩⟩
    have e : cur.toList[i]? = some (cv zs[i]) := by
      have : (cur.toList.take (zs.length * 1))[i]? = some (cv zs[i]) := by
        rw [hc4]; simp [List.getElem?_eq_getElem hi]
      rwa [List.getElem?_take_of_lt (by omega)] at this
    unfold World.cell?
    simp only [hh, Nat.zero_add]
    simpa [cv] using e
end

/-- The source, and a list that the call owns. -/
structure LS (B : Nat) (a : Option Addr) (len cap b : Nat) (w1 W : World) (v : Value) (zs : List (Nat × Nat)) : Prop where
  st : Stay B a len cap b w1 W
  own : OwnC w1.heap.size W v zs
  hb : b < w1.heap.size
section
variable {B : Nat} {a : Option Addr} {len cap b : Nat} {w1 W : World} {v : Value} {zs : List (Nat × Nat)}
theorem LS.drewN (h : LS B a len cap b w1 W v zs) (n : Nat) : LS B a len cap b w1 (W.drewN n) v zs := ⟨h.st.drewN n, h.own.drewN n, h.hb⟩
theorem LS.alloc' (h : LS B a len cap b w1 W v zs) (o : Obj) : LS B a len cap b w1 (W.alloc o) v zs := ⟨h.st.alloc' o, h.own.alloc o, h.hb⟩
theorem LS.go (h : LS B a len cap b w1 W v zs) {W' : World} (g : Stay B a len cap b W W') : LS B a len cap b w1 W' v zs := ⟨h.st.trans g, h.own.stay h.hb g, h.hb⟩
def NxtL (B : Nat) (a : Option Addr) (len cap b : Nat) (w1 : World) (v : Value) (zs : List (Nat × Nat)) (n : Int) (e : Ending) (w' : World) : Prop :=
  ∃ x : Nat, (x : Int) < n ∧ e = .returned (.int .i64 (x : Int)) ∧ LS B a len cap b w1 w' v zs
def ComL (B : Nat) (a : Option Addr) (len cap b : Nat) (w1 : World) (v : Value) (zs : List (Nat × Nat)) (e : Ending) (w' : World) : Prop :=
  ∃ x y : Nat, e = .returned (.complex .f64 x y) ∧ LS B a len cap b w1 w' v zs
theorem next_ls (h : LS B a len cap b w1 W v zs) (n : Int) (hn : 1 ≤ n) (hn' : n ≤ 9223372036854775807) : Calls Try.prog 41 #[.pointer (some ⟨b, 0, none⟩), .int .i64 n] W (NxtL B a len cap b w1 v zs n) :=
  (next_any B a len cap b n W h.st.src hn hn').mono fun _ _ ⟨x, hx, he, hst⟩ => ⟨x, hx, he, h.go hst⟩
theorem spoil_ls (h : LS B a len cap b w1 W v zs) : Calls Try.prog 44 #[.pointer (some ⟨b, 0, none⟩)] W (ComL B a len cap b w1 v zs) :=
  (spoil_any B a len cap b W W (Stay.refl h.st.src)).mono fun _ _ ⟨x, y, _, _, he, hst⟩ => ⟨x, y, he, h.go hst⟩
theorem draw_ls (h : LS B a len cap b w1 W v zs) : Calls Try.prog 91 #[.pointer (some ⟨b, 0, none⟩)] W (ComL B a len cap b w1 v zs) :=
  (draw_any B a len cap b W W (Stay.refl h.st.src)).mono fun _ _ ⟨x, y, _, _, he, hst⟩ => ⟨x, y, he, h.go hst⟩
theorem pick_ls (h : LS B a len cap b w1 W v zs) (xs : List Int) (t : TypeId) (m : Nat) (hm : m = xs.length) (hm1 : 1 ≤ m) (hm2 : m ≤ 1000) (p : Int → Prop) (hx : ∀ x ∈ xs, p x) (V : World) (hV : V = W.alloc (.cells (xs.map (Value.int .i64)).toArray t)) :
    Calls Try.prog 74 #[.pointer (some ⟨b, 0, none⟩), .slice (some ⟨W.heap.size, 0, none⟩) m m] V fun e w' => ∃ x : Int, p x ∧ e = .returned (.int .i64 x) ∧ LS B a len cap b w1 w' v zs :=
  (pick_mem (Stay.refl h.st.src) xs t m hm hm1 hm2 p hx V hV).mono fun _ _ ⟨x, hp, he, hst⟩ => ⟨x, hp, he, h.go hst⟩
end

/-- A list of wide numbers, whichever, that can be read. -/
def ListC (B : Nat) (w : World) (e : Ending) (w' : World) : Prop :=
  ∃ (a : Option Addr) (zs : List (Nat × Nat)) (c : Nat), e = .returned (.slice a zs.length c) ∧ Cells w' a zs ∧ Below B w w'

end Go.Proofs.Ytabpgkkickdopaa
