/-
  Draws of whole numbers, one: what stays, l02Make of any limbs, l02Draw. Conditions: the limbs can be read. Draws of whole numbers, two: l02Spoil. No conditions. Draws of whole numbers, three: l02Two and the draws of pairs. Conditions: the code's bytes can be read. Draws of whole numbers, four: DrawDivideWholes, DrawAddWholes, DrawWholeOf, DrawIntegerOf. Conditions: the code's bytes can be read.
-/
import Derived.Test.YtgppagmejhgmaaaGreatDoorSh
import Derived.Test.YtgppagmejhgmaaaGreatDoorTd
import Derived.Test.YtgppagmejhgmaaaGreatDoorUg
import Derived.Test.YtgppagmejhgmaaaGreatDoorVl
import Derived.Deep.RegionLaw
import Derived.Deep.RegionHeldLaw
import Derived.Deep.RegionHeld3
namespace Go.Proofs.YtgppagmejhgmaaaGreatDoor
set_option linter.unusedVariables false
open Go Go.RowKit

section
variable {B : Nat} {a : Option Addr} {len cap b : Nat} {w V w' : World}
theorem Src.below (h : Src B a len cap V b) (hb : Below (b + 1) V w') : Src B a len cap w' b := by
  have hlt : b < b + 1 := Nat.lt_succ_self b
  refine ⟨h.lo, Nat.lt_of_lt_of_le h.hi hb.size, h.fit, by rw [hb.cell (p := ⟨b, 0, none⟩) hlt]; exact h.c0, ?_, ?_, fun i => ?_, fun i hi => ?_⟩
  · obtain ⟨k, hk, c1⟩ := h.c1
    exact ⟨k, hk, by rw [hb.cell (p := ⟨b, 1, none⟩) hlt]; exact c1⟩
  · obtain ⟨x, c2⟩ := h.c2
    exact ⟨x, by rw [hb.cell (p := ⟨b, 2, none⟩) hlt]; exact c2⟩
  · rw [World.frozen?_of_block (w := V) (hb.block b hlt)]; exact h.fz i
  · obtain ⟨c, o', u, ha, hc, hu, hcell⟩ := h.code i hi
    exact ⟨c, o', u, ha, hc, hu, by rw [hb.cell (p := ⟨c, o' + i, none⟩) (by have := h.lo; show c < b + 1; omega)]; exact hcell⟩
theorem Stay.low (h : Stay B a len cap b w V) (hw : b < w.heap.size) (hb : Below w.heap.size V w') : Stay B a len cap b w w' :=
  ⟨hb.os.trans h.os, hb.tape.trans h.tape, hb.output.trans h.output, Nat.le_trans h.size hb.size, fun k hk hne => (hb.block k hk).trans (h.block k hk hne), h.src.below (hb.mono hw)⟩
theorem Stay.grown (h : Stay B a len cap b w w') : w.grownBy w' (some b) :=
  ⟨h.os, h.tape, h.output, h.size, fun k hk hne => h.block k hk (fun e => hne (by rw [e]))⟩
theorem OwnV.stay {lo : Nat} {v : Value} {xs : List Int} (h : OwnV w lo v xs) (g : Stay B a len cap b w w') (hb : b < lo) : OwnV w' lo v xs :=
  World.ownsRow.kept h g.grown (.inr (fun e => by have := OwnV.lt h b e; omega))
theorem BoxAt.stay {g : Nat} {t : TypeId} {cs : Array Value} (h : BoxAt w g t cs) (st : Stay B a len cap b w w') (hb : g ≠ b) : BoxAt w' g t cs := (st.block g h.lt hb).trans h
theorem Own.stay {lo : Nat} {x : Option Addr} {xs : List Int} (h : Own w lo x xs) (g : Stay B a len cap b w w') (hb : b < lo) : Own w' lo x xs :=
  h.grown g.grown (fun k e => by injection e with e; omega)
end

/-- The call returned some whole number, or what is none, in new memory. -/
def RetA (k : Nat) (w : World) (e : Ending) (w' : World) : Prop := ∃ s xs v, e = .returned (.agg #[.int .i64 s, v]) ∧ xs.length ≤ k ∧ OwnV w' w.heap.size v xs ∧ Below w.heap.size w w'
/-- The same, and the source was drawn from. -/
def RetSW (k : Nat) (B : Nat) (a : Option Addr) (len cap b : Nat) (w : World) (e : Ending) (w' : World) : Prop := ∃ s xs v, e = .returned (.agg #[.int .i64 s, v]) ∧ xs.length ≤ k ∧ OwnV w' w.heap.size v xs ∧ Stay B a len cap b w w'

theorem OwnV.setBoxI {w : World} {lo : Nat} {v : Value} {xs : List Int} (h : OwnV w lo v xs) {g : Nat} (hg : g < lo) (i : Nat) (u : Value) : OwnV (w.setCell ⟨g, i, none⟩ u) lo v xs :=
  World.ownsRow.kept h ⟨rfl, rfl, rfl, by simp, fun k _ hne => Below.heap_setCell w ⟨g, i, none⟩ u k (fun e => hne (by rw [e]))⟩ (.inr (fun e => by have := OwnV.lt h g e; omega))
theorem OwnV.lower {w : World} {lo lo' : Nat} {v : Value} {xs : List Int} (h : OwnV w lo v xs) (hl : lo' ≤ lo) : OwnV w lo' v xs := by
  obtain ⟨h1, h2 | ⟨g, cap, cur, e, hb, hr⟩⟩ := h
  · exact ⟨h1, .inl h2⟩
  · exact ⟨h1, .inr ⟨g, cap, cur, e, Nat.le_trans hl hb, hr⟩⟩
set_option maxHeartbeats 400000 in
theorem sOwnV (a : Option Addr) (xs : List Int) (c : Nat) (w : World) (B : Nat) (hB : B ≤ w.heap.size) (hl : xs.length ≤ 8388608) (hx : Ints w B a xs) :
    Calls Tryz.prog 129 #[.slice a xs.length c] w fun e w' => ∃ v, e = .returned v ∧ OwnV w' w.heap.size v xs ∧ Below w.heap.size w w' := by
  cases a with
  | none =>
    have h0 : xs = [] := by
      rcases Nat.eq_zero_or_pos xs.length with h | h
      · exact List.eq_nil_of_length_eq_zero h
      · obtain ⟨_, _, he, _⟩ := hx 0 h; cases he
    subst h0
    clear hx hl
    simp only [List.length_nil]
    go_enter Tryz.func129, Tryz.ntmps129
    go_wp2
    go_ret
    exact ⟨_, rfl, OwnV.empty w _ (Nat.le_refl _), (by repeat (first | exact Below.refl _ _ | assumption | refine Below.alloc ?_ (by simp <;> omega) _ | refine Below.setCell ?_ (by simp <;> omega) _ | refine below_drewN ?_ _))⟩
  | some ad =>
    have HX := Lib.hid hx
    have HL := Lib.hid hl
    clear hx hl
    go_enter Tryz.func129, Tryz.ntmps129
    go_wp2_with (at_builtin; refine wp_app rfl _ _ 58 rfl Tryz.underlying58 w.heap.size _ [] (OwnV.empty w _ (Nat.le_refl _)) rfl ad xs.length c xs rfl rfl (ints_add (HX.out.alloc hB _)) (by have := HL.out; simp; omega) (by simp) ?_; intro v' w' hown hgrow)
    have HB := Lib.hid ((Below.alloc (Below.refl w.heap.size w) (Nat.le_refl _) (.cells #[] 2)).grown hgrow (by simp) (fun g hg => by simp [Value.ownBlock] at hg; omega))
    have HO := Lib.hid hown
    clear hgrow hown
    go_wp2_with fail
    go_ret
    exact ⟨_, rfl, HO.out, HB.out⟩
set_option maxHeartbeats 800000 in
theorem sMakeAny (s : Int) (a : Option Addr) (xs : List Int) (c : Nat) (w : World) (B : Nat) (hB : B ≤ w.heap.size) (hx : Ints w B a xs) (hc : xs.length ≤ c) (hl : xs.length ≤ 8388608) :
    Calls Tryz.prog 103 #[.int .i64 s, .slice a xs.length c] w (RetA xs.length w) := by
  have HX := Lib.hid hx
  have HL := Lib.hid hl
  have P0 := Lib.hid (BoxAt.new w 60 #[.int .i64 0, .slice none 0 0])
  have HO := Lib.hid (show ∀ (k : Nat) (hk : k ≤ xs.length) o, Calls Tryz.prog 129 #[.slice a k c] (w.alloc o) (fun e w' => ∃ v, e = .returned v ∧ OwnV w' (w.alloc o).heap.size v (xs.take k) ∧ Below (w.alloc o).heap.size (w.alloc o) w') from fun k hk o => by
    have hlen : (xs.take k).length = k := by rw [List.length_take]; omega
    have := sOwnV a (xs.take k) c (w.alloc o) B (by simp; omega) (by rw [hlen]; omega) ((hx.take k).alloc hB o)
    rwa [hlen] at this)
  clear hx
  go_enter Tryz.func103, Tryz.ntmps103
  go_wp2
  go_loop [5] (fun i => ∃ k : Nat, k ≤ xs.length ∧ i = .int .i64 k) (fun i => (intOf i).toNat)
  case atStart => exact ⟨xs.length, Nat.le_refl _, rfl⟩
  case round =>
    obtain ⟨k, hk, rfl⟩ := hrel
    by_cases h0 : 0 < k
    · obtain ⟨b, o, ha, hcB, hcell⟩ := HX.out (k - 1) (by omega)
      subst ha
      have hi1 : ((k : Int) - 1).toNat = k - 1 := by omega
      have hi2 : (0 : Int) ≤ (k : Int) - 1 := by omega
      have hi3 : (k : Int) - 1 < (xs.length : Int) := by omega
      have h0I : (0 : Int) < (k : Int) := by omega
      have hkb : (k : Int) ≤ 9223372036854775807 := by have := HL.out; omega
      obtain ⟨x, hxk⟩ : ∃ x : Int, x = xs[k - 1] := ⟨_, rfl⟩
      rw [← hxk] at hcell
      have hcell2 : ∀ o', (w.alloc o').cell? ⟨b, o + (k - 1), none⟩ = some (.int .i64 x) := fun o' => by rw [World.cell?_alloc_lt w _ ⟨b, o + (k - 1), none⟩ (by show b < _; omega)]; exact hcell
      have HK := Lib.hid hk
      clear hxk hcell
      by_cases hx0 : x = 0
      · subst hx0
        go_wp2
        go_round
        case rel => exact ⟨k - 1, by omega, by (try simp); omega⟩
        case measure => simp [intOf]; omega
      · have hne : (x == 0) = false := by simpa using hx0
        have hkz : ((k : Int) == 0) = false := by simp; omega
        have hkc : (k : Int) ≤ (c : Int) := by omega
        have hlen : (xs.take k).length = k := by rw [List.length_take]; omega
        have HLN := Lib.hid hlen
        clear hlen
        go_wp2_with fail
        refine (HO.out k HK.out _).mono ?_
        rintro e w1 ⟨v1, rfl, ho1, hb1⟩
        obtain ⟨a1, c1, rfl, _, _, _⟩ := ho1.parts
        have HO1 := Lib.hid ho1
        have HB1 := Lib.hid hb1
        have P1 := Lib.hid (P0.out.below hb1)
        obtain ⟨q1, q2, q3, q4⟩ := P1.out.two
        clear ho1 hb1
        go_wp2_with fail
        refine bodyPost_ret (v := .agg #[.int .i64 s, .slice a1 (xs.take k).length c1]) (by simp [results, Tryz.results103, go_sem, *]) rfl ⟨s, xs.take k, .slice a1 (xs.take k).length c1, rfl, by rw [HLN.out]; exact HK.out, ((HO1.out.setBoxI (by simp) _ _).setBoxI (by simp) _ _).lower (by simp), (((Below.refl _ w).alloc (Nat.le_refl _) _).trans (HB1.out.mono (by simp)) |>.setCell (by simp) _).setCell (by simp) _⟩
    · obtain rfl : k = 0 := by omega
      go_wp2
      refine bodyPost_ret (v := .agg #[.int .i64 0, .slice none 0 0]) (by simp [results, Tryz.results103, go_sem]) rfl ⟨0, [], .slice none 0 0, rfl, Nat.zero_le _, OwnV.nil _ _, (by repeat (first | exact Below.refl _ _ | assumption | refine Below.alloc ?_ (by simp <;> omega) _ | refine Below.setCell ?_ (by simp <;> omega) _ | refine below_drewN ?_ _))⟩

section
variable {B : Nat} {a : Option Addr} {len cap b : Nat} {w W : World}
theorem pickP_from (p : Int → Prop) (h : Stay B a len cap b w W) (xs : List Int) (t : TypeId) (m : Nat) (hm : m = xs.length) (hm1 : 1 ≤ m) (hm2 : m ≤ 1000) (hx : ∀ x ∈ xs, p x) (V : World) (hV : V = W.alloc (.cells (xs.map (Value.int .i64)).toArray t)) :
    Calls Tryz.prog 51 #[.pointer (some ⟨b, 0, none⟩), .slice (some ⟨W.heap.size, 0, none⟩) m m] V (SomeP p B a len cap b w) := by
  subst hm hV
  have h2 := h.alloc' (.cells (xs.map (Value.int .i64)).toArray t)
  have hb := h.src.hi
  refine (pickP_any p B a len cap b W.heap.size xs.length xs.length _ h2.src hm1 hm2 (by simp) (by omega) fun i hi => ?_).mono fun _ _ ⟨x, h1, he, hst⟩ => ⟨x, h1, he, h2.trans hst⟩
  exact ⟨xs[i], hx xs[i] (List.getElem_mem _), by simp [List.getElem?_eq_getElem hi]⟩
end
/-- A row of numbers is no variable that holds a whole number. -/
theorem OwnV.ne_box {w : World} {lo g : Nat} {v : Value} {xs : List Int} {cs : Array Value} (h : OwnV w lo v xs) (hb : BoxAt w g 60 cs) : v.ownBlock ≠ some g := by
  obtain ⟨_, h2 | ⟨k, cap, cur, e, _, hc, _⟩⟩ := h
  · rw [h2.1]; exact fun e => by cases e
  · rw [e]
    intro e2
    have e3 : k = g := by injection e2
    subst e3
    unfold BoxAt at hb
    rw [hb] at hc
    injection hc with hc
    injection hc with _ hc
    exact absurd hc (by decide)
theorem OwnV.setNe {w : World} {lo : Nat} {v : Value} {xs : List Int} (h : OwnV w lo v xs) {g : Nat} (hg : v.ownBlock ≠ some g) (i : Nat) (u : Value) : OwnV (w.setCell ⟨g, i, none⟩ u) lo v xs :=
  World.ownsRow.kept h ⟨rfl, rfl, rfl, by simp, fun k _ hne => Below.heap_setCell w ⟨g, i, none⟩ u k (fun e => hne (by rw [e]))⟩ (.inr hg)
/-- One number is appended to numbers of the call's own; what else it changes. -/
theorem wp_app1G {ops : Array Oper} {rest : List Oper} {o : Oper} {a : Act} {Q : Exit → Act → World → Prop} {w : World} (hgd : o.guard = none) (s x : Operand) (t : TypeId)
    (ho : o.op = .call { callee := .builtin .append, args := #[s, x], argTypes := #[t, t] }) (ht : Tryz.prog.underlying t = some (.slice 2))
    (V : World) (z : Int) (hW : w = V.alloc (.cells #[.int .i64 z] 2)) (lo : Nat) (v : Value) (xs : List Int) (hown : OwnV V lo v xs) (hs : a.eval s = v)
    (hx : a.eval x = .slice (some ⟨V.heap.size, 0, none⟩) 1 1) (hlen : xs.length ≤ 8388607) (hbase : lo ≤ V.heap.size)
    (h : ∀ v' w', OwnV w' lo v' (xs ++ [z]) → V.grownBy w' v.ownBlock → wpList Tryz.prog ops Q rest (a.put o.dst v') w') : wpList Tryz.prog ops Q (o :: rest) a w := by
  subst hW
  refine wp_app hgd s x t ho ht lo v xs (hown.alloc _) hs ⟨V.heap.size, 0, none⟩ 1 1 [z] hx rfl ?_ (by simp; omega) (by simp; omega) ?_
  · intro i hi
    simp at hi
    subst hi
    simp [Addr.add]
  · intro v' w' h1 h2
    exact h v' w' h1 ⟨h2.os, h2.tape, h2.output, Nat.le_trans (by simp) h2.size, fun k hk hne => (h2.block k (by simp; omega) hne).trans (Below.heap_alloc V _ k hk)⟩

/-- One number is appended at a step of a region that draws; what else it changes. -/
theorem step_app1G {ops : Array Oper} {o : Oper} {a : Act} {K : Act → World → Prop} {Q : Exit → Act → World → Prop} {E : Prop} {w : World} (hgd : o.guard = none) (s x : Operand) (t : TypeId)
    (ho : o.op = .call { callee := .builtin .append, args := #[s, x], argTypes := #[t, t] }) (ht : Tryz.prog.underlying t = some (.slice 2))
    (V : World) (z : Int) (hW : w = V.alloc (.cells #[.int .i64 z] 2)) (lo : Nat) (v : Value) (xs : List Int) (hown : OwnV V lo v xs) (hs : a.eval s = v)
    (hx : a.eval x = .slice (some ⟨V.heap.size, 0, none⟩) 1 1) (hlen : xs.length ≤ 8388607) (hbase : lo ≤ V.heap.size)
    (h : ∀ v' w', OwnV w' lo v' (xs ++ [z]) → V.grownBy w' v.ownBlock → K (a.put o.dst v') w') :
    if Region.wanted o (yielded ops a.tmps) = true then Oper.wp Tryz.prog o a w K Q else E := by
  subst hW
  obtain ⟨i0, hi, hz0, hz1, hz2⟩ := info_parts info_i64
  refine step_append_lies _ hgd s x t ho lo 2 i0 (.int .i64 0) 1 8 ht hi hz0 hz1 hz2 rfl (by decide) v xs.length (xs.map (Value.int .i64)) hs (hown.alloc _) ⟨V.heap.size, 0, none⟩ 1 1 [.int .i64 z] hx rfl ?_ (by intro u hu; simp at hu; subst hu; rfl) (by omega) (by unfold maxLen; omega) (by omega) (by simp; omega) _ rfl ?_
  · intro j u hj
    match j with
    | 0 =>
      simp at hj
      subst hj
      simp [Addr.add]
    | j + 1 => simp at hj
  · intro g cap w' h1 h2 _ _
    refine h _ w' ?_ ⟨h2.os, h2.tape, h2.output, Nat.le_trans (by simp) h2.size, fun k hk hne => (h2.block k (by simp; omega) hne).trans (Below.heap_alloc V _ k hk)⟩
    unfold OwnV
    rw [List.length_append, List.map_append]
    exact h1
/-- The call returned some whole number, or what is none, in memory of its own; the source was drawn from. -/
def RetSO (k : Nat) (B : Nat) (a : Option Addr) (len cap b : Nat) (w : World) (e : Ending) (w' : World) : Prop := ∃ s xs x c, e = .returned (.agg #[.int .i64 s, .slice x xs.length c]) ∧ xs.length ≤ k ∧ xs.length ≤ c ∧ Own w' w.heap.size x xs ∧ Stay B a len cap b w w'
theorem lim_shift_len {n K : Nat} (hn : n ≤ 3) (hK : K ≤ 4800) : (lim (n * 2 ^ K)).length ≤ 202 := by
  rw [lim_length]
  refine dig_length_le (k := 202) ?_
  rw [two24]
  obtain ⟨E, hE⟩ : ∃ E, E = 24 * 202 := ⟨_, rfl⟩
  rw [← hE]
  have h1 : n * 2 ^ K < 2 ^ 2 * 2 ^ K := Nat.mul_lt_mul_of_pos_right (by omega) (Nat.two_pow_pos K)
  rw [← Nat.pow_add] at h1
  exact Nat.lt_of_lt_of_le h1 (Nat.pow_le_pow_right (by omega) (by omega))

/-- The call returned two whole numbers, or what is none, in memory of their own. -/
def RetTwo (k : Nat) (w : World) (e : Ending) (w' : World) : Prop := ∃ s xs x c s' xs' x' c', e = .returned (.tuple #[.agg #[.int .i64 s, .slice x xs.length c], .agg #[.int .i64 s', .slice x' xs'.length c']]) ∧ xs.length ≤ k ∧ xs.length ≤ c ∧ xs'.length ≤ k ∧ xs'.length ≤ c' ∧ Own w' w.heap.size x xs ∧ Own w' w.heap.size x' xs' ∧ Below w.heap.size w w'
theorem Code8.below {B B' : Nat} {a : Option Addr} {len : Nat} {w w' : World} (h : Code8 B a len w) (hb : Below B w w') (hB : B ≤ B') : Code8 B' a len w' := fun i hi => by
  obtain ⟨c, o, u, ha, hc, hu, hcell⟩ := h i hi
  exact ⟨c, o, u, ha, by omega, hu, by rw [hb.cell (p := ⟨c, o + i, none⟩) hc]; exact hcell⟩
theorem own_set4 {w : World} {lo g g' : Nat} {x : Option Addr} {xs : List Int} (h : Own w lo x xs) (hg : g < lo) (hg' : g' < lo) (u0 u1 u2 u3 : Value) :
    Own ((((w.setCell ⟨g, 0, none⟩ u0).setCell ⟨g, 1, none⟩ u1).setCell ⟨g', 0, none⟩ u2).setCell ⟨g', 1, none⟩ u3) lo x xs :=
  (((h.setFar (p := ⟨g, 0, none⟩) hg u0).setFar (p := ⟨g, 1, none⟩) hg u1).setFar (p := ⟨g', 0, none⟩) hg' u2).setFar (p := ⟨g', 1, none⟩) hg' u3
theorem below_set4 {w W : World} {B g g' : Nat} (h : Below B w W) (hg : B ≤ g) (hg' : B ≤ g') (u0 u1 u2 u3 : Value) :
    Below B w ((((W.setCell ⟨g, 0, none⟩ u0).setCell ⟨g, 1, none⟩ u1).setCell ⟨g', 0, none⟩ u2).setCell ⟨g', 1, none⟩ u3) :=
  ((((h.setCell hg u0).setCell hg u1).setCell hg' u2).setCell hg' u3)

/-- The call returned a whole number, or what is none, in memory of its own. -/
def RetOne (k : Nat) (w : World) (e : Ending) (w' : World) : Prop := ∃ s xs x c, e = .returned (.agg #[.int .i64 s, .slice x xs.length c]) ∧ xs.length ≤ k ∧ xs.length ≤ c ∧ Own w' w.heap.size x xs ∧ Below w.heap.size w w'
theorem lim_len_small {n : Nat} (h : n ≤ 36893488147419103232) : (lim n).length ≤ 3 := by
  rw [lim_length]
  exact dig_length_le (Nat.lt_of_le_of_lt h (by decide))
end Go.Proofs.YtgppagmejhgmaaaGreatDoor
