/-
  What a law's walk keeps of a call with two whole numbers as results. No conditions.
-/
import Derived.Test.YtebkpaonmeokgaaVr
import Derived.Test.YtebkpaonmeokgaaLx
namespace Go.Proofs.Ytebkpaonmeokgaa
set_option linter.unusedVariables false
open Go Go.RowKit

theorem boxDrew {w : World} {g : Nat} {t : TypeId} {cs : Array Value} (h : BoxAt w g t cs) : BoxAt w.drew g t cs := h
theorem balD {w W : World} {o : Obj} (h : Below w.heap.size w W) : Below w.heap.size w (W.alloc o) := h.alloc h.size o
theorem own_box {w : World} {lo g : Nat} {a : Option Addr} {xs : List Int} {cs : Array Value} (h : Own w lo a xs) (hb : BoxAt w g 26 cs) (i : Nat) (u : Value) : Own (w.setCell ⟨g, i, none⟩ u) lo a xs := by
  rcases h with h | ⟨g', e, hg, hr⟩
  · exact .inl h
  · refine .inr ⟨g', e, hg, hr.far (p := ⟨g, i, none⟩) (fun hgg => ?_) u⟩
    obtain ⟨cur, hc, _⟩ := hr
    simp only at hgg
    subst hgg
    unfold BoxAt at hb
    rw [hb] at hc
    injection hc with hc
    injection hc with _ hc
    exact absurd hc (by decide)
theorem box_set2 {w : World} {g : Nat} {v0 v1 : Value} (hb : BoxAt w g 26 #[v0, v1]) (u v : Value) : BoxAt ((w.setCell ⟨g, 0, none⟩ u).setCell ⟨g, 1, none⟩ v) g 26 #[u, v] := by
  have := (hb.set_ 0 u).set_ 1 v
  simpa using this
theorem far_twoL {w : World} {g g' : Nat} {v0 v1 : Value} {cs : Array Value} (hq : BoxAt w g 26 cs) (hr : BoxAt w g' 26 #[v0, v1]) (hne : g' ≠ g) :
    (∀ u v, ((w.setCell ⟨g, 0, none⟩ u).setCell ⟨g, 1, none⟩ v).cell? ⟨g', 0, none⟩ = some v0) ∧ (∀ u v, ((w.setCell ⟨g, 0, none⟩ u).setCell ⟨g, 1, none⟩ v).cell? ⟨g', 1, none⟩ = some v1) ∧
    (∀ u v, ((w.setCell ⟨g, 0, none⟩ u).setCell ⟨g, 1, none⟩ v).frozen? ⟨g', 0, none⟩ = false) ∧ (∀ u v, ((w.setCell ⟨g, 0, none⟩ u).setCell ⟨g, 1, none⟩ v).frozen? ⟨g', 1, none⟩ = false) := by
  have h := fun u v => BoxAt.two ((hr.far (p := ⟨g, 0, none⟩) hne u).far (p := ⟨g, 1, none⟩) hne v)
  exact ⟨fun u v => (h u v).1, fun u v => (h u v).2.1, fun u v => (h u v).2.2.1, fun u v => (h u v).2.2.2⟩
/-- A variable in block g that holds a whole number with limbs of the call's own. -/
def HoldW (W : World) (lo hi g : Nat) (s : Int) (xs : List Int) (a : Option Addr) (c : Nat) : Prop := BoxAt W g 26 #[.int .i64 s, .slice a xs.length c] ∧ xs.length ≤ c ∧ Own2 W lo hi a xs
/-- Two variables that hold both results of a call: their blocks, their limbs. -/
structure ResD (W0 W : World) (p q : Value) (r : DivRes) (hi : Nat) : Prop where
  ex : ∃ g a c g' a' c', p = .pointer (some ⟨g, 0, none⟩) ∧ q = .pointer (some ⟨g', 0, none⟩) ∧ W0.heap.size ≤ g ∧ g < hi ∧ W0.heap.size ≤ g' ∧ g' < hi ∧ HoldW W W0.heap.size hi g r.s1 r.l1 a c ∧ HoldW W W0.heap.size hi g' r.s2 r.l2 a' c'
  bel : Below W0.heap.size W0 W
  size : hi ≤ W.heap.size
theorem own_two {W : World} {lo : Nat} {a : Option Addr} {xs : List Int} (h : Own W lo a xs) {lo' hi : Nat} (hl : lo' ≤ lo) (hh : W.heap.size ≤ hi) : Own2 W lo' hi a xs := by
  rcases h with h | ⟨g, e, hg, hr⟩
  · exact .inl h
  · exact .inr ⟨g, e, by omega, by have := hr.lt; omega, hr⟩
theorem ResD.mk0 {W0 w : World} {r : DivRes} {c d lo : Nat} {a b : Option Addr} (hb : Below W0.heap.size W0 w) (hlo : W0.heap.size ≤ lo) (ha : Own w lo a r.l1) (hc : r.l1.length ≤ c) (hb' : Own w lo b r.l2) (hd : r.l2.length ≤ d) :
    ResD W0 ((w.alloc (.cells #[.int .i64 r.s1, .slice a r.l1.length c] 26)).alloc (.cells #[.int .i64 r.s2, .slice b r.l2.length d] 26)) (.pointer (some ⟨w.heap.size, 0, none⟩)) (.pointer (some ⟨w.heap.size + 1, 0, none⟩)) r (w.heap.size + 2) := by
  have hs := hb.size
  have h2 := BoxAt.new (w.alloc (.cells #[.int .i64 r.s1, .slice a r.l1.length c] 26)) 26 #[.int .i64 r.s2, .slice b r.l2.length d]
  simp only [size_al] at h2
  exact ⟨⟨_, a, c, _, b, d, rfl, rfl, hs, by omega, by omega, by omega, ⟨(BoxAt.new _ _ _).alloc _, hc, own_two ((ha.alloc _).alloc _) hlo (by simp)⟩, ⟨h2, hd, own_two ((hb'.alloc _).alloc _) hlo (by simp)⟩⟩, balD (balD hb), by simp⟩
theorem ResD.mk0' {W0 w : World} {r : DivRes} {c d lo : Nat} {a b : Option Addr} (hb : Below W0.heap.size W0 w) (hlo : W0.heap.size ≤ lo) (ha : Own w lo a r.l1) (hc : r.l1.length ≤ c) (hb' : Own w lo b r.l2) (hd : r.l2.length ≤ d) :
    ResD W0 ((w.alloc (.cells #[.int .i64 r.s2, .slice b r.l2.length d] 26)).alloc (.cells #[.int .i64 r.s1, .slice a r.l1.length c] 26)) (.pointer (some ⟨w.heap.size + 1, 0, none⟩)) (.pointer (some ⟨w.heap.size, 0, none⟩)) r (w.heap.size + 2) := by
  have hs := hb.size
  have h2 := BoxAt.new (w.alloc (.cells #[.int .i64 r.s2, .slice b r.l2.length d] 26)) 26 #[.int .i64 r.s1, .slice a r.l1.length c]
  simp only [size_al] at h2
  exact ⟨⟨_, a, c, _, b, d, rfl, rfl, by omega, by omega, hs, by omega, ⟨h2, hc, own_two ((ha.alloc _).alloc _) hlo (by simp)⟩, ⟨(BoxAt.new _ _ _).alloc _, hd, own_two ((hb'.alloc _).alloc _) hlo (by simp)⟩⟩, balD (balD hb), by simp⟩
theorem ResD.mk1 {W0 w : World} {r : DivRes} {c d lo G : Nat} {a b : Option Addr} {v0 v1 : Value} (hq : BoxAt w G 26 #[v0, v1]) (hG : W0.heap.size ≤ G) (hb : Below W0.heap.size W0 w) (hlo : W0.heap.size ≤ lo) (ha : Own w lo a r.l1) (hc : r.l1.length ≤ c) (hb' : Own w lo b r.l2) (hd : r.l2.length ≤ d) :
    ResD W0 (((w.setCell ⟨G, 0, none⟩ (.int .i64 r.s1)).setCell ⟨G, 1, none⟩ (.slice a r.l1.length c)).alloc (.cells #[.int .i64 r.s2, .slice b r.l2.length d] 26)) (.pointer (some ⟨G, 0, none⟩)) (.pointer (some ⟨w.heap.size, 0, none⟩)) r (w.heap.size + 1) := by
  have hs := hb.size
  have hl := hq.lt
  have e : ((w.setCell ⟨G, 0, none⟩ (.int .i64 r.s1)).setCell ⟨G, 1, none⟩ (.slice a r.l1.length c)).heap.size = w.heap.size := by simp [World.setCell]
  have h2 := BoxAt.new ((w.setCell ⟨G, 0, none⟩ (.int .i64 r.s1)).setCell ⟨G, 1, none⟩ (.slice a r.l1.length c)) 26 #[.int .i64 r.s2, .slice b r.l2.length d]
  rw [e] at h2
  exact ⟨⟨_, a, c, _, b, d, rfl, rfl, hG, by omega, hs, by omega, ⟨(box_set2 hq _ _).alloc _, hc, own_two (((own_box (own_box ha hq 0 _) (hq.set_ 0 _) 1 _).alloc _)) hlo (by rw [size_al, e]; exact Nat.le_refl _)⟩,
    ⟨h2, hd, own_two ((own_box (own_box hb' hq 0 _) (hq.set_ 0 _) 1 _).alloc _) hlo (by rw [size_al, e]; exact Nat.le_refl _)⟩⟩, balD (below_set2 hb hG _ _), by rw [size_al, e]; exact Nat.le_refl _⟩
theorem ResD.mk1' {W0 w : World} {r : DivRes} {c d lo G : Nat} {a b : Option Addr} {v0 v1 : Value} (hq : BoxAt w G 26 #[v0, v1]) (hG : W0.heap.size ≤ G) (hb : Below W0.heap.size W0 w) (hlo : W0.heap.size ≤ lo) (ha : Own w lo a r.l1) (hc : r.l1.length ≤ c) (hb' : Own w lo b r.l2) (hd : r.l2.length ≤ d) :
    ResD W0 (((w.setCell ⟨G, 0, none⟩ (.int .i64 r.s2)).setCell ⟨G, 1, none⟩ (.slice b r.l2.length d)).alloc (.cells #[.int .i64 r.s1, .slice a r.l1.length c] 26)) (.pointer (some ⟨w.heap.size, 0, none⟩)) (.pointer (some ⟨G, 0, none⟩)) r (w.heap.size + 1) := by
  have hs := hb.size
  have hl := hq.lt
  have e : ((w.setCell ⟨G, 0, none⟩ (.int .i64 r.s2)).setCell ⟨G, 1, none⟩ (.slice b r.l2.length d)).heap.size = w.heap.size := by simp [World.setCell]
  have h2 := BoxAt.new ((w.setCell ⟨G, 0, none⟩ (.int .i64 r.s2)).setCell ⟨G, 1, none⟩ (.slice b r.l2.length d)) 26 #[.int .i64 r.s1, .slice a r.l1.length c]
  rw [e] at h2
  exact ⟨⟨_, a, c, _, b, d, rfl, rfl, hs, by omega, hG, by omega, ⟨h2, hc, own_two ((own_box (own_box ha hq 0 _) (hq.set_ 0 _) 1 _).alloc _) hlo (by rw [size_al, e]; exact Nat.le_refl _)⟩,
    ⟨(box_set2 hq _ _).alloc _, hd, own_two ((own_box (own_box hb' hq 0 _) (hq.set_ 0 _) 1 _).alloc _) hlo (by rw [size_al, e]; exact Nat.le_refl _)⟩⟩, balD (below_set2 hb hG _ _), by rw [size_al, e]; exact Nat.le_refl _⟩
theorem ResD.mk2 {W0 w : World} {r : DivRes} {c d lo G G' : Nat} {a b : Option Addr} {v0 v1 u0 u1 : Value} (hq : BoxAt w G 26 #[v0, v1]) (hr : BoxAt w G' 26 #[u0, u1]) (hne : G ≠ G') (hG : W0.heap.size ≤ G) (hG' : W0.heap.size ≤ G') (hb : Below W0.heap.size W0 w) (hlo : W0.heap.size ≤ lo) (ha : Own w lo a r.l1) (hc : r.l1.length ≤ c) (hb' : Own w lo b r.l2) (hd : r.l2.length ≤ d) :
    ResD W0 ((((w.setCell ⟨G, 0, none⟩ (.int .i64 r.s1)).setCell ⟨G, 1, none⟩ (.slice a r.l1.length c)).setCell ⟨G', 0, none⟩ (.int .i64 r.s2)).setCell ⟨G', 1, none⟩ (.slice b r.l2.length d)) (.pointer (some ⟨G, 0, none⟩)) (.pointer (some ⟨G', 0, none⟩)) r w.heap.size := by
  have hl := hq.lt
  have hl' := hr.lt
  have hr1 := (hr.far (p := ⟨G, 0, none⟩) (Ne.symm hne) (.int .i64 r.s1)).far (p := ⟨G, 1, none⟩) (Ne.symm hne) (.slice a r.l1.length c)
  have h1 := ((box_set2 hq (.int .i64 r.s1) (.slice a r.l1.length c)).far (p := ⟨G', 0, none⟩) hne (.int .i64 r.s2)).far (p := ⟨G', 1, none⟩) hne (.slice b r.l2.length d)
  have o1 := fun {x : Option Addr} {xs : List Int} (h : Own w lo x xs) => own_box (own_box (own_box (own_box h hq 0 (.int .i64 r.s1)) (hq.set_ 0 _) 1 (.slice a r.l1.length c)) hr1 0 (.int .i64 r.s2)) (hr1.set_ 0 _) 1 (.slice b r.l2.length d)
  exact ⟨⟨_, a, c, _, b, d, rfl, rfl, hG, hl, hG', hl', ⟨h1, hc, own_two (o1 ha) hlo (by simp [World.setCell])⟩, ⟨box_set2 hr1 _ _, hd, own_two (o1 hb') hlo (by simp [World.setCell])⟩⟩, below_set2 (below_set2 hb hG _ _) hG' _ _, by simp [World.setCell]⟩
theorem Own2.grownA {w w' : World} {lo hi : Nat} {a a' : Option Addr} {xs ys : List Int} {n : Nat} {row : Option Nat} (h : Own2 w lo hi a' ys) (hg : w.grownBy w' row) (hap : Apart a a' xs ys) (hn : n = xs.length) (hrow : ∀ g, row = some g → 0 < n ∧ a = some ⟨g, 0, none⟩) : Own2 w' lo hi a' ys := by
  rcases h with h | ⟨g, e, hl, hh, hr⟩
  · exact .inl h
  · by_cases hy : ys = []
    · exact .inl hy
    · refine .inr ⟨g, e, hl, hh, hr.keep (hg.block g hr.lt (fun e2 => ?_))⟩
      obtain ⟨h1, h2⟩ := hrow g e2.symm
      rcases hap with h3 | h3 | h3
      · subst hn; rw [h3] at h1; simp at h1
      · exact hy h3
      · exact h3 (by rw [h2, e])
theorem Own.grownA {w w' : World} {lo : Nat} {a a' : Option Addr} {xs ys zs : List Int} {n : Nat} {row : Option Nat} (h : Own w lo a' zs) (hz : zs.length = ys.length) (hg : w.grownBy w' row) (hap : Apart a' a ys xs) (hn : n = xs.length) (hrow : ∀ g, row = some g → 0 < n ∧ a = some ⟨g, 0, none⟩) : Own w' lo a' zs := by
  rcases h with h | ⟨g, e, hl, hr⟩
  · exact .inl h
  · by_cases hy : zs = []
    · exact .inl hy
    · refine .inr ⟨g, e, hl, hr.keep (hg.block g hr.lt (fun e2 => ?_))⟩
      obtain ⟨h1, h2⟩ := hrow g e2.symm
      rcases hap with h3 | h3 | h3
      · rw [h3] at hz; exact hy (List.eq_nil_of_length_eq_zero hz)
      · subst hn; rw [h3] at h1; simp at h1
      · exact h3 (by rw [h2, e])
end Go.Proofs.Ytebkpaonmeokgaa
