/-
  Draws of whole numbers, one: what stays, l02Make of any limbs, l02Draw. Conditions: the limbs can be read. Draws of whole numbers, two: l02Spoil. No conditions. Draws of whole numbers, three: l02Two and the draws of pairs. Conditions: the code's bytes can be read. Draws of whole numbers, four: DrawDivideWholes, DrawAddWholes, DrawWholeOf, DrawIntegerOf. Conditions: the code's bytes can be read.
-/
import Derived.Test.YtabpgkkickdopaaSh
import Derived.Test.YtabpgkkickdopaaTd
import Derived.Test.YtabpgkkickdopaaUg
import Derived.Test.YtabpgkkickdopaaVl
import Derived.Deep.RegionLaw
import Derived.Deep.RegionHeldLaw
import Derived.Deep.RegionHeld3
namespace Go.Proofs.Ytabpgkkickdopaa
set_option linter.unusedVariables false
open Go Go.RowKit

section
variable {B : Nat} {a : Option Addr} {len cap b : Nat} {w V w' : World}
theorem Src.below (h : Src B a len cap V b) (hb : Below (b + 1) V w') : Src B a len cap w' b := by
  have hlt : b < b + 1 := Nat.lt_succ_self b
  refine ⟨h.lo, Nat.lt_of_lt_of_le h.hi hb.size, h.fit, by rw [hb.cell (p := ⟨b, 0, none⟩) hlt]; exact h.c0, ?_, ?_, fun i => ?_, fun i hi => ?_⟩
  · obtain ⟨k, hk, c1⟩ := h.c1
    exact ⟨k, hk, by rw [hb.cell (p := ⟨b, 1, none⟩) hlt]; exact c1⟩
  · obtain ⟨x, c2⟩ := h.c2
    exact ⟨x, by rw [hb.cell (p := ⟨b, 2, none⟩) hlt]; exact c2⟩
  · rw [World.frozen?_of_block (w := V) (hb.block b hlt)]; exact h.fz i
  · obtain ⟨c, o', u, ha, hc, hu, hcell⟩ := h.code i hi
    exact ⟨c, o', u, ha, hc, hu, by rw [hb.cell (p := ⟨c, o' + i, none⟩) (by have := h.lo; show c < b + 1; omega)]; exact hcell⟩
theorem Stay.low (h : Stay B a len cap b w V) (hw : b < w.heap.size) (hb : Below w.heap.size V w') : Stay B a len cap b w w' :=
  ⟨hb.os.trans h.os, hb.tape.trans h.tape, hb.output.trans h.output, Nat.le_trans h.size hb.size, fun k hk hne => (hb.block k hk).trans (h.block k hk hne), h.src.below (hb.mono hw)⟩
theorem Stay.grown (h : Stay B a len cap b w w') : w.grownBy w' (some b) :=
  ⟨h.os, h.tape, h.output, h.size, fun k hk hne => h.block k hk (fun e => hne (by rw [e]))⟩
theorem OwnV.stay {lo : Nat} {v : Value} {xs : List Int} (h : OwnV w lo v xs) (g : Stay B a len cap b w w') (hb : b < lo) : OwnV w' lo v xs :=
  World.ownsRow.kept h g.grown (.inr (fun e => by have := OwnV.lt h b e; omega))
theorem BoxAt.stay {g : Nat} {t : TypeId} {cs : Array Value} (h : BoxAt w g t cs) (st : Stay B a len cap b w w') (hb : g ≠ b) : BoxAt w' g t cs := (st.block g h.lt hb).trans h
theorem Own.stay {lo : Nat} {x : Option Addr} {xs : List Int} (h : Own w lo x xs) (g : Stay B a len cap b w w') (hb : b < lo) : Own w' lo x xs :=
  h.grown g.grown (fun k e => by injection e with e; omega)
end

/-- The call returned some whole number, or what is none, in new memory. -/
def RetA (k : Nat) (w : World) (e : Ending) (w' : World) : Prop := ∃ s xs v, e = .returned (.agg #[.int .i64 s, v]) ∧ xs.length ≤ k ∧ OwnV w' w.heap.size v xs ∧ Below w.heap.size w w'
/-- The same, and the source was drawn from. -/
def RetSW (k : Nat) (B : Nat) (a : Option Addr) (len cap b : Nat) (w : World) (e : Ending) (w' : World) : Prop := ∃ s xs v, e = .returned (.agg #[.int .i64 s, v]) ∧ xs.length ≤ k ∧ OwnV w' w.heap.size v xs ∧ Stay B a len cap b w w'

theorem OwnV.setBoxI {w : World} {lo : Nat} {v : Value} {xs : List Int} (h : OwnV w lo v xs) {g : Nat} (hg : g < lo) (i : Nat) (u : Value) : OwnV (w.setCell ⟨g, i, none⟩ u) lo v xs :=
  World.ownsRow.kept h ⟨rfl, rfl, rfl, by simp, fun k _ hne => Below.heap_setCell w ⟨g, i, none⟩ u k (fun e => hne (by rw [e]))⟩ (.inr (fun e => by have := OwnV.lt h g e; omega))
theorem OwnV.lower {w : World} {lo lo' : Nat} {v : Value} {xs : List Int} (h : OwnV w lo v xs) (hl : lo' ≤ lo) : OwnV w lo' v xs := by
  obtain ⟨h1, h2 | ⟨g, cap, cur, e, hb, hr⟩⟩ := h
  · exact ⟨h1, .inl h2⟩
  · exact ⟨h1, .inr ⟨g, cap, cur, e, Nat.le_trans hl hb, hr⟩⟩
section
variable {B : Nat} {a : Option Addr} {len cap b : Nat} {w W : World}
theorem pickP_from (p : Int → Prop) (h : Stay B a len cap b w W) (xs : List Int) (t : TypeId) (m : Nat) (hm : m = xs.length) (hm1 : 1 ≤ m) (hm2 : m ≤ 1000) (hx : ∀ x ∈ xs, p x) (V : World) (hV : V = W.alloc (.cells (xs.map (Value.int .i64)).toArray t)) :
    Calls Try.prog 74 #[.pointer (some ⟨b, 0, none⟩), .slice (some ⟨W.heap.size, 0, none⟩) m m] V (SomeP p B a len cap b w) := by
  subst hm hV
  have h2 := h.alloc' (.cells (xs.map (Value.int .i64)).toArray t)
  have hb := h.src.hi
  refine (pickP_any p B a len cap b W.heap.size xs.length xs.length _ h2.src hm1 hm2 (by simp) (by omega) fun i hi => ?_).mono fun _ _ ⟨x, h1, he, hst⟩ => ⟨x, h1, he, h2.trans hst⟩
  exact ⟨xs[i], hx xs[i] (List.getElem_mem _), by simp [List.getElem?_eq_getElem hi]⟩
end
theorem OwnV.setNe {w : World} {lo : Nat} {v : Value} {xs : List Int} (h : OwnV w lo v xs) {g : Nat} (hg : v.ownBlock ≠ some g) (i : Nat) (u : Value) : OwnV (w.setCell ⟨g, i, none⟩ u) lo v xs :=
  World.ownsRow.kept h ⟨rfl, rfl, rfl, by simp, fun k _ hne => Below.heap_setCell w ⟨g, i, none⟩ u k (fun e => hne (by rw [e]))⟩ (.inr hg)
/-- One number is appended to numbers of the call's own; what else it changes. -/
theorem wp_app1G {ops : Array Oper} {rest : List Oper} {o : Oper} {a : Act} {Q : Exit → Act → World → Prop} {w : World} (hgd : o.guard = none) (s x : Operand) (t : TypeId)
    (ho : o.op = .call { callee := .builtin .append, args := #[s, x], argTypes := #[t, t] }) (ht : Try.prog.underlying t = some (.slice 2))
    (V : World) (z : Int) (hW : w = V.alloc (.cells #[.int .i64 z] 2)) (lo : Nat) (v : Value) (xs : List Int) (hown : OwnV V lo v xs) (hs : a.eval s = v)
    (hx : a.eval x = .slice (some ⟨V.heap.size, 0, none⟩) 1 1) (hlen : xs.length ≤ 8388607) (hbase : lo ≤ V.heap.size)
    (h : ∀ v' w', OwnV w' lo v' (xs ++ [z]) → V.grownBy w' v.ownBlock → wpList Try.prog ops Q rest (a.put o.dst v') w') : wpList Try.prog ops Q (o :: rest) a w := by
  subst hW
  refine wp_app hgd s x t ho ht lo v xs (hown.alloc _) hs ⟨V.heap.size, 0, none⟩ 1 1 [z] hx rfl ?_ (by simp; omega) (by simp; omega) ?_
  · intro i hi
    simp at hi
    subst hi
    simp [Addr.add]
  · intro v' w' h1 h2
    exact h v' w' h1 ⟨h2.os, h2.tape, h2.output, Nat.le_trans (by simp) h2.size, fun k hk hne => (h2.block k (by simp; omega) hne).trans (Below.heap_alloc V _ k hk)⟩

/-- One number is appended at a step of a region that draws; what else it changes. -/
theorem step_app1G {ops : Array Oper} {o : Oper} {a : Act} {K : Act → World → Prop} {Q : Exit → Act → World → Prop} {E : Prop} {w : World} (hgd : o.guard = none) (s x : Operand) (t : TypeId)
    (ho : o.op = .call { callee := .builtin .append, args := #[s, x], argTypes := #[t, t] }) (ht : Try.prog.underlying t = some (.slice 2))
    (V : World) (z : Int) (hW : w = V.alloc (.cells #[.int .i64 z] 2)) (lo : Nat) (v : Value) (xs : List Int) (hown : OwnV V lo v xs) (hs : a.eval s = v)
    (hx : a.eval x = .slice (some ⟨V.heap.size, 0, none⟩) 1 1) (hlen : xs.length ≤ 8388607) (hbase : lo ≤ V.heap.size)
    (h : ∀ v' w', OwnV w' lo v' (xs ++ [z]) → V.grownBy w' v.ownBlock → K (a.put o.dst v') w') :
    if Region.wanted o (yielded ops a.tmps) = true then Oper.wp Try.prog o a w K Q else E := by
  subst hW
  obtain ⟨i0, hi, hz0, hz1, hz2⟩ := info_parts info_i64
  refine step_append_lies _ hgd s x t ho lo 2 i0 (.int .i64 0) 1 8 ht hi hz0 hz1 hz2 rfl (by decide) v xs.length (xs.map (Value.int .i64)) hs (hown.alloc _) ⟨V.heap.size, 0, none⟩ 1 1 [.int .i64 z] hx rfl ?_ (by intro u hu; simp at hu; subst hu; rfl) (by omega) (by unfold maxLen; omega) (by omega) (by simp; omega) _ rfl ?_
  · intro j u hj
    match j with
    | 0 =>
      simp at hj
      subst hj
      simp [Addr.add]
    | j + 1 => simp at hj
  · intro g cap w' h1 h2 _ _
    refine h _ w' ?_ ⟨h2.os, h2.tape, h2.output, Nat.le_trans (by simp) h2.size, fun k hk hne => (h2.block k (by simp; omega) hne).trans (Below.heap_alloc V _ k hk)⟩
    unfold OwnV
    rw [List.length_append, List.map_append]
    exact h1
/-- The call returned some whole number, or what is none, in memory of its own; the source was drawn from. -/
def RetSO (k : Nat) (B : Nat) (a : Option Addr) (len cap b : Nat) (w : World) (e : Ending) (w' : World) : Prop := ∃ s xs x c, e = .returned (.agg #[.int .i64 s, .slice x xs.length c]) ∧ xs.length ≤ k ∧ xs.length ≤ c ∧ Own w' w.heap.size x xs ∧ Stay B a len cap b w w'
theorem lim_shift_len {n K : Nat} (hn : n ≤ 3) (hK : K ≤ 4800) : (lim (n * 2 ^ K)).length ≤ 202 := by
  rw [lim_length]
  refine dig_length_le (k := 202) ?_
  rw [two24]
  obtain ⟨E, hE⟩ : ∃ E, E = 24 * 202 := ⟨_, rfl⟩
  rw [← hE]
  have h1 : n * 2 ^ K < 2 ^ 2 * 2 ^ K := Nat.mul_lt_mul_of_pos_right (by omega) (Nat.two_pow_pos K)
  rw [← Nat.pow_add] at h1
  exact Nat.lt_of_lt_of_le h1 (Nat.pow_le_pow_right (by omega) (by omega))

/-- The call returned two whole numbers, or what is none, in memory of their own. -/
def RetTwo (k : Nat) (w : World) (e : Ending) (w' : World) : Prop := ∃ s xs x c s' xs' x' c', e = .returned (.tuple #[.agg #[.int .i64 s, .slice x xs.length c], .agg #[.int .i64 s', .slice x' xs'.length c']]) ∧ xs.length ≤ k ∧ xs.length ≤ c ∧ xs'.length ≤ k ∧ xs'.length ≤ c' ∧ Own w' w.heap.size x xs ∧ Own w' w.heap.size x' xs' ∧ Below w.heap.size w w'
theorem Code8.below {B B' : Nat} {a : Option Addr} {len : Nat} {w w' : World} (h : Code8 B a len w) (hb : Below B w w') (hB : B ≤ B') : Code8 B' a len w' := fun i hi => by
  obtain ⟨c, o, u, ha, hc, hu, hcell⟩ := h i hi
  exact ⟨c, o, u, ha, by omega, hu, by rw [hb.cell (p := ⟨c, o + i, none⟩) hc]; exact hcell⟩
theorem own_set4 {w : World} {lo g g' : Nat} {x : Option Addr} {xs : List Int} (h : Own w lo x xs) (hg : g < lo) (hg' : g' < lo) (u0 u1 u2 u3 : Value) :
    Own ((((w.setCell ⟨g, 0, none⟩ u0).setCell ⟨g, 1, none⟩ u1).setCell ⟨g', 0, none⟩ u2).setCell ⟨g', 1, none⟩ u3) lo x xs :=
  (((h.setFar (p := ⟨g, 0, none⟩) hg u0).setFar (p := ⟨g, 1, none⟩) hg u1).setFar (p := ⟨g', 0, none⟩) hg' u2).setFar (p := ⟨g', 1, none⟩) hg' u3
theorem below_set4 {w W : World} {B g g' : Nat} (h : Below B w W) (hg : B ≤ g) (hg' : B ≤ g') (u0 u1 u2 u3 : Value) :
    Below B w ((((W.setCell ⟨g, 0, none⟩ u0).setCell ⟨g, 1, none⟩ u1).setCell ⟨g', 0, none⟩ u2).setCell ⟨g', 1, none⟩ u3) :=
  ((((h.setCell hg u0).setCell hg u1).setCell hg' u2).setCell hg' u3)

/-- The call returned a whole number, or what is none, in memory of its own. -/
def RetOne (k : Nat) (w : World) (e : Ending) (w' : World) : Prop := ∃ s xs x c, e = .returned (.agg #[.int .i64 s, .slice x xs.length c]) ∧ xs.length ≤ k ∧ xs.length ≤ c ∧ Own w' w.heap.size x xs ∧ Below w.heap.size w w'
theorem lim_len_small {n : Nat} (h : n ≤ 36893488147419103232) : (lim n).length ≤ 3 := by
  rw [lim_length]
  exact dig_length_le (Nat.lt_of_le_of_lt h (by decide))
end Go.Proofs.Ytabpgkkickdopaa
