/-
  Contracts of the laws' own helpers over exact numbers, and the tests of exact numbers by the program and by the model. Conditions: the limbs can be read. What the laws' walks over exact numbers keep in mind: marks, variables that hold a result. Conditions: the limbs can be read. Contracts: IsDyadic of the program and of the model. Conditions: the limbs can be read.
-/
import Derived.Test.YtgppagmejhgmaaaGreatDoorUd
import Derived.Test.YtgppagmejhgmaaaGreatDoorLx
namespace Go.Proofs.YtgppagmejhgmaaaGreatDoor
set_option linter.unusedVariables false
open Go Go.RowKit

def IsDy (s : Int) (xs : List Int) (x : Int) : Prop := IsWh s xs ∧ -5000 ≤ x ∧ x ≤ 5000 ∧ ((s = 0 ∧ x = 0) ∨ (s ≠ 0 ∧ xs.getD 0 0 % 2 = 1))
noncomputable def dyB (s : Int) (xs : List Int) (x : Int) : Bool := @decide (IsDy s xs x) (Classical.propDecidable _)
theorem dyB_yes {s : Int} {xs : List Int} {x : Int} (h : IsDy s xs x) : dyB s xs x = true := by unfold dyB; exact @decide_eq_true _ (Classical.propDecidable _) h
theorem dyB_no {s : Int} {xs : List Int} {x : Int} (h : ¬ IsDy s xs x) : dyB s xs x = false := by unfold dyB; exact @decide_eq_false _ (Classical.propDecidable _) h
theorem dyB_iff {s : Int} {xs : List Int} {x : Int} : dyB s xs x = true ↔ IsDy s xs x := by unfold dyB; exact @decide_eq_true_iff _ (Classical.propDecidable _)

/-- The call returned an exact number in new memory. -/
def RetY (s : Int) (xs : List Int) (x : Int) (w : World) (e : Ending) (w' : World) : Prop := ∃ a c, e = .returned (.agg #[.int .i64 s, .slice a xs.length c, .int .i64 x]) ∧ xs.length ≤ c ∧ Own w' w.heap.size a xs ∧ Below w.heap.size w w'

theorem three_boxT (w : World) (t1 t2 t3 : TypeId) (p q r : Array Value) : BoxAt (((w.alloc (.cells p t1)).alloc (.cells q t2)).alloc (.cells r t3)) w.heap.size t1 p ∧ BoxAt (((w.alloc (.cells p t1)).alloc (.cells q t2)).alloc (.cells r t3)) (w.heap.size + 1) t2 q ∧
    BoxAt (((w.alloc (.cells p t1)).alloc (.cells q t2)).alloc (.cells r t3)) (w.heap.size + 1 + 1) t3 r ∧ Below w.heap.size w (((w.alloc (.cells p t1)).alloc (.cells q t2)).alloc (.cells r t3)) ∧ (((w.alloc (.cells p t1)).alloc (.cells q t2)).alloc (.cells r t3)).heap.size = w.heap.size + 3 := by
  have h1 := BoxAt.new w t1 p
  have h2 := BoxAt.new (w.alloc (.cells p t1)) t2 q
  have h3 := BoxAt.new ((w.alloc (.cells p t1)).alloc (.cells q t2)) t3 r
  refine ⟨(h1.alloc _).alloc _, by simpa using h2.alloc _, by simpa using h3, (((Below.refl _ w).alloc (Nat.le_refl _) _).alloc (by simp) _).alloc (by simp; omega) _, by simp⟩
theorem BoxAt.tri {w : World} {g : Nat} {t : TypeId} {a b c : Value} (h : BoxAt w g t #[a, b, c]) : w.cell? ⟨g, 0, none⟩ = some a ∧ w.cell? ⟨g, 1, none⟩ = some b ∧ w.cell? ⟨g, 2, none⟩ = some c := ⟨h.cell 0, h.cell 1, h.cell 2⟩
theorem BoxAt.tri6 {w : World} {g : Nat} {t : TypeId} {a b c : Value} (h : BoxAt w g t #[a, b, c]) : w.cell? ⟨g, 0, none⟩ = some a ∧ w.cell? ⟨g, 1, none⟩ = some b ∧ w.cell? ⟨g, 2, none⟩ = some c ∧ w.frozen? ⟨g, 0, none⟩ = false ∧ w.frozen? ⟨g, 1, none⟩ = false ∧ w.frozen? ⟨g, 2, none⟩ = false :=
  ⟨h.cell 0, h.cell 1, h.cell 2, h.frozen 0, h.frozen 1, h.frozen 2⟩
/-- Three cells of a variable are written. -/
theorem Own.set3 {w : World} {lo : Nat} {a : Option Addr} {xs : List Int} {g : Nat} (h : Own w lo a xs) (hg : g < lo) (u v x : Value) : Own (((w.setCell ⟨g, 0, none⟩ u).setCell ⟨g, 1, none⟩ v).setCell ⟨g, 2, none⟩ x) lo a xs :=
  ((h.setFar (by simpa using hg) _).setFar (by simpa using hg) _).setFar (by simpa using hg) _
theorem Below.set3 {w W : World} {B g : Nat} (h : Below B w W) (hg : B ≤ g) (u v x : Value) : Below B w (((W.setCell ⟨g, 0, none⟩ u).setCell ⟨g, 1, none⟩ v).setCell ⟨g, 2, none⟩ x) :=
  ((h.setCell (by simpa using hg) _).setCell (by simpa using hg) _).setCell (by simpa using hg) _

set_option maxHeartbeats 400000 in
theorem iBeyond (k l : Int) (w : World) (h0 : 0 ≤ l) (h1 : l ≤ 1000000) : Calls Tryz.prog 113 #[.int .i64 k, .int .i64 l] w fun e w' => e = .returned (.bool (decide (k < -l ∨ l < k))) ∧ w = w' := by
  by_cases hk : k < -l
  · have e : decide (k < -l ∨ l < k) = true := decide_eq_true (.inl hk)
    rw [e]
    go_enter Tryz.func113, Tryz.ntmps113
    go_wp2
    go_ret
    exact ⟨rfl, rfl⟩
  · have hd : decide (k < -l) = false := decide_eq_false hk
    by_cases hk2 : l < k
    · have e : decide (k < -l ∨ l < k) = true := decide_eq_true (.inr hk2)
      rw [e]
      have hd2 : decide (l < k) = true := decide_eq_true hk2
      go_enter Tryz.func113, Tryz.ntmps113
      go_wp2
      go_ret
      exact ⟨rfl, rfl⟩
    · have e : decide (k < -l ∨ l < k) = false := decide_eq_false (by omega)
      rw [e]
      have hd2 : decide (l < k) = false := decide_eq_false hk2
      go_enter Tryz.func113, Tryz.ntmps113
      go_wp2
      go_ret
      exact ⟨rfl, rfl⟩

theorem i64_and1 (y : Nat) : bits .and .i64 (y : Int) 1 = ((y % 2 : Nat) : Int) := by
  have hw : ((BitVec.ofInt 64 (y : Int) &&& BitVec.ofInt 64 1).toNat : Int) = ((y % 2 : Nat) : Int) := by
    have e : BitVec.ofInt 64 1 = BitVec.ofNat 64 (2^1-1) := by decide
    rw [e, BitVec.toNat_and, BitVec.toNat_ofInt, BitVec.toNat_ofNat, Nat.mod_eq_of_lt (show 2^1-1 < 2^64 by decide), Nat.and_two_pow_sub_one_eq_mod]
    omega
  show IntKind.i64.wrap ((BitVec.ofInt 64 (y : Int) &&& BitVec.ofInt 64 1).toNat : Int) = _
  rw [hw, IntKind.wrap_i64]
  omega

theorem sgn_ne {s : Int} {n : Nat} (h : IsWh s (lim n)) : s ≠ 0 ↔ n ≠ 0 := by
  obtain ⟨m, hm, _, hs⟩ := isWh_of h
  obtain rfl := lim_inj hm
  omega

/-- Whether a magnitude is odd. -/
theorem lim_getD (n : Nat) : (lim n).getD 0 0 = ((n % 16777216 : Nat) : Int) := by
  by_cases h : n = 0
  · subst h; rw [lim_zero]; rfl
  · rw [lim, dig_pos h]; rfl
set_option maxHeartbeats 400000 in
theorem iOdd (a : Option Addr) (n c1 : Nat) (w : World) (B : Nat) (hx : Ints w B a (lim n)) (hl : (lim n).length ≤ 1048576) :
    Calls Tryz.prog 114 #[.slice a (lim n).length c1] w fun e w' => e = .returned (.bool (decide (n % 2 = 1))) ∧ w = w' := by
  by_cases h0 : n = 0
  · have hz : (lim n).length = 0 := lim_len_zero.2 h0
    rw [hz]
    subst h0
    have e : decide (0 % 2 = 1) = false := by decide
    rw [e]
    clear hx hl hz
    go_enter Tryz.func114, Tryz.ntmps114
    go_wp2
    go_ret
    exact ⟨rfl, rfl⟩
  · have hpos : 0 < (lim n).length := by have := (not_congr (@lim_len_zero n)).2 h0; omega
    obtain ⟨b, o, ha, hcB, hcell⟩ := hx 0 hpos
    have hg : (lim n)[0] = (lim n).getD 0 0 := by simp [List.getD, List.getElem?_eq_getElem hpos]
    rw [hg, lim_getD, Nat.add_zero] at hcell
    subst ha
    obtain ⟨x, hxk⟩ : ∃ x : Nat, x = n % 16777216 := ⟨_, rfl⟩
    rw [← hxk] at hcell
    have hmod : n % 2 = x % 2 := by omega
    rw [hmod]
    have hand := i64_and1 x
    have hpI : (0 : Int) < ((lim n).length : Int) := by omega
    have hl2 : ((lim n).length : Int) ≤ 1048576 := by omega
    rcases Nat.mod_two_eq_zero_or_one x with h | h
    · rw [h] at hand ⊢
      clear hx hl hg hxk hmod h h0 hpos
      go_enter Tryz.func114, Tryz.ntmps114
      go_wp2
      go_ret
      exact ⟨rfl, rfl⟩
    · rw [h] at hand ⊢
      clear hx hl hg hxk hmod h h0 hpos
      go_enter Tryz.func114, Tryz.ntmps114
      go_wp2
      go_ret
      exact ⟨rfl, rfl⟩

/-- A variable that holds the result of a call: its block, its limbs. -/
structure ResY (W0 W : World) (p : Value) (s : Int) (xs : List Int) (x : Int) (hi : Nat) : Prop where
  ex : ∃ g a c, p = .pointer (some ⟨g, 0, none⟩) ∧ W0.heap.size ≤ g ∧ g < hi ∧ BoxAt W g 62 #[.int .i64 s, .slice a xs.length c, .int .i64 x] ∧ xs.length ≤ c ∧ Own2 W W0.heap.size hi a xs
  bel : Below W0.heap.size W0 W
  size : hi ≤ W.heap.size
theorem ResY.mk1 {W0 W W' : World} {s x : Int} {xs : List Int} {a : Option Addr} {c : Nat} {lo : Nat} (hb : Below W0.heap.size W0 W) (ho : Own W lo a xs) (hlo : W0.heap.size ≤ lo) (hc : xs.length ≤ c) (hW : W' = W.alloc (.cells #[.int .i64 s, .slice a xs.length c, .int .i64 x] 62)) :
    ResY W0 W' (.pointer (some ⟨W.heap.size, 0, none⟩)) s xs x W'.heap.size := by
  subst hW
  exact ⟨⟨W.heap.size, a, c, rfl, hb.size, by simp, BoxAt.new _ _ _, hc, Own2.of ((ho.mono hlo).alloc _)⟩, hb.alloc hb.size _, Nat.le_refl _⟩
theorem below_set3 {W0 W : World} {g : Nat} (h : Below W0.heap.size W0 W) (hg : W0.heap.size ≤ g) (u v x : Value) : Below W0.heap.size W0 (((W.setCell ⟨g, 0, none⟩ u).setCell ⟨g, 1, none⟩ v).setCell ⟨g, 2, none⟩ x) := Below.set3 h hg u v x
theorem ResY.mk2 {W0 W : World} {g : Nat} {s x : Int} {xs : List Int} {a : Option Addr} {c : Nat} {lo : Nat} {v0 v1 v2 : Value} (hx : BoxAt W g 62 #[v0, v1, v2]) (hg : W0.heap.size ≤ g) (hb : Below W0.heap.size W0 W) (ho : Own W lo a xs) (hlo : g < lo) (hc : xs.length ≤ c) :
    ResY W0 (((W.setCell ⟨g, 0, none⟩ (.int .i64 s)).setCell ⟨g, 1, none⟩ (.slice a xs.length c)).setCell ⟨g, 2, none⟩ (.int .i64 x)) (.pointer (some ⟨g, 0, none⟩)) s xs x W.heap.size := by
  refine ⟨⟨g, a, c, rfl, hg, hx.lt, ?_, hc, ?_⟩, below_set3 hb hg _ _ _, by simp [World.setCell]⟩
  · have := ((hx.set_ 0 (.int .i64 s)).set_ 1 (.slice a xs.length c)).set_ 2 (.int .i64 x)
    simpa using this
  · rcases Own2.of ho with h | ⟨g', e, h1, h2, hr⟩
    · exact .inl h
    · exact .inr ⟨g', e, by omega, h2, ((hr.far (by simp; omega) _).far (by simp; omega) _).far (by simp; omega) _⟩
theorem two_boxT (w : World) (t1 t2 : TypeId) (p q : Array Value) : BoxAt ((w.alloc (.cells p t1)).alloc (.cells q t2)) w.heap.size t1 p ∧ BoxAt ((w.alloc (.cells p t1)).alloc (.cells q t2)) (w.heap.size + 1) t2 q ∧ Below w.heap.size w ((w.alloc (.cells p t1)).alloc (.cells q t2)) ∧ ((w.alloc (.cells p t1)).alloc (.cells q t2)).heap.size = w.heap.size + 2 := by
  have h1 := BoxAt.new w t1 p
  have h2 := BoxAt.new (w.alloc (.cells p t1)) t2 q
  exact ⟨h1.alloc _, by simpa using h2, ((Below.refl _ w).alloc (Nat.le_refl _) _).alloc (by simp) _, by simp⟩

theorem dy_odd {s x : Int} {n : Nat} (h : IsWh s (lim n)) (h1 : -5000 ≤ x) (h2 : x ≤ 5000) (hs : s ≠ 0) : dyB s (lim n) x = decide (n % 2 = 1) := by
  by_cases ho : n % 2 = 1
  · rw [decide_eq_true ho]
    refine dyB_yes ⟨h, h1, h2, .inr ⟨hs, ?_⟩⟩
    rw [lim_getD]
    omega
  · rw [decide_eq_false ho]
    refine dyB_no fun hd => ?_
    rcases hd.2.2.2 with ⟨h0, _⟩ | ⟨_, h0⟩
    · exact hs h0
    · rw [lim_getD] at h0
      omega

set_option maxRecDepth 100000 in
set_option maxHeartbeats 2000000 in
theorem iIsDyadic (s : Int) (a : Option Addr) (xs : List Int) (c1 : Nat) (x : Int) (w : World) (B : Nat) (hB : B ≤ w.heap.size) (hl : xs.length ≤ 9223372036854775807) (hx : Ints w B a xs) :
    Calls Tryz.prog 88 #[.agg #[.int .i64 s, .slice a xs.length c1, .int .i64 x]] w (RetB (.bool (dyB s xs x)) w) := by
  obtain ⟨W0, hW0⟩ : ∃ W0 : World, w.alloc (.cells #[.int .i64 s, .slice a xs.length c1, .int .i64 x] 62) = W0 := ⟨_, rfl⟩
  obtain ⟨p1, p3, p4⟩ := one_box w 62 #[.int .i64 s, .slice a xs.length c1, .int .i64 x]
  rw [hW0] at p1 p3 p4
  have HW0 := Lib.hid hW0
  have P3 := Lib.hid p3
  have P4 := Lib.hid p4
  have SS := Lib.hid (show ∀ W, Below W0.heap.size W0 W → (W.cell? ⟨w.heap.size, 0, none⟩ = some (.int .i64 s) ∧ W.cell? ⟨w.heap.size, 1, none⟩ = some (.slice a xs.length c1) ∧ W.cell? ⟨w.heap.size, 2, none⟩ = some (.int .i64 x)) from
    fun W hW => (p1.below hW).tri)
  have IX := Lib.hid (show ∀ W, Below W0.heap.size W0 W → Ints W B a xs ∧ B ≤ W.heap.size from fun W hW => ⟨hx.below ((p3.mono hB).trans (hW.mono (by omega))), by have := hW.size; omega⟩)
  have hT : Below W0.heap.size W0 W0 := Below.refl _ _
  have HEND := Lib.hid (show ∀ v W, Below W0.heap.size W0 W → RetB v w (.returned v) W from fun v W hW => ⟨rfl, P3.out.trans (hW.mono (by omega))⟩)
  have HI1 := Lib.hid (show ∀ W, Below W0.heap.size W0 W → Calls Tryz.prog 112 #[.agg #[.int .i64 s, .slice a xs.length c1]] W fun e w' => e = .returned (.bool (whB s xs)) ∧ Below W0.heap.size W0 w' from
    fun W hW => (iIsWhole s a xs c1 W B (IX.out W hW).2 hl (IX.out W hW).1).mono fun e w' ⟨he, hb⟩ => ⟨he, hW.trans (hb.mono hW.size)⟩)
  obtain ⟨k1, k2, k3⟩ := SS.out _ hT
  cases h1 : whB s xs
  · rw [dyB_no (fun h => by rw [whB_iff.2 h.1] at h1; cases h1)]
    rw [h1] at HI1
    clear p1 p3 p4 hx hW0 hB h1 hl IX
    go_enter Tryz.func88, Tryz.ntmps88
    go_wp2_with fail
    rw [HW0.out]
    refine (HI1.out _ hT).mono ?_
    rintro e w1 ⟨rfl, hb⟩
    clear k1 k2 k3
    obtain ⟨k1, k2, k3⟩ := SS.out _ hb
    go_wp2_with fail
    go_ret
    exact HEND.out _ _ hb
  · have e1 := Lib.hid (whB_iff.1 h1)
    rw [h1] at HI1
    have HBY := Lib.hid (fun W => iBeyond x 5000 W (by omega) (by omega))
    by_cases hx5 : x < -5000 ∨ 5000 < x
    · rw [dyB_no (fun h => by have := h.2.1; have := h.2.2.1; omega)]
      rw [decide_eq_true hx5] at HBY
      clear p1 p3 p4 hx hW0 hB h1 hl IX hx5
      go_enter Tryz.func88, Tryz.ntmps88
      go_wp2_with fail
      rw [HW0.out]
      refine (HI1.out _ hT).mono ?_
      rintro e w1 ⟨rfl, hb⟩
      clear k1 k2 k3
      obtain ⟨k1, k2, k3⟩ := SS.out _ hb
      go_wp2_with fail
      refine (HBY.out _).mono ?_
      rintro e w2 ⟨rfl, rfl⟩
      go_wp2_with fail
      go_ret
      exact HEND.out _ _ hb
    · rw [decide_eq_false hx5] at HBY
      have hx6 : -5000 ≤ x ∧ x ≤ 5000 := by omega
      have HX6 := Lib.hid hx6
      by_cases hs : s = 0
      · subst hs
        have e : dyB 0 xs x = decide (x = 0) := by
          by_cases h0 : x = 0
          · rw [decide_eq_true h0]; exact dyB_yes ⟨e1.out, hx6.1, hx6.2, .inl ⟨rfl, h0⟩⟩
          · rw [decide_eq_false h0]; exact dyB_no fun h => by rcases h.2.2.2 with ⟨_, h⟩ | ⟨h, _⟩; exact h0 h; exact h rfl
        rw [e]
        clear p1 p3 p4 hx hW0 hB h1 hl IX hx5 hx6 e
        go_enter Tryz.func88, Tryz.ntmps88
        go_wp2_with fail
        rw [HW0.out]
        refine (HI1.out _ hT).mono ?_
        rintro e w1 ⟨rfl, hb⟩
        clear k1 k2 k3
        obtain ⟨k1, k2, k3⟩ := SS.out _ hb
        go_wp2_with fail
        refine (HBY.out _).mono ?_
        rintro e w2 ⟨rfl, rfl⟩
        go_wp2_with fail
        go_ret
        exact HEND.out _ _ hb
      · obtain ⟨n, rfl, hn, sn⟩ := isWh_of e1.out
        rw [dy_odd e1.out hx6.1 hx6.2 hs]
        have hsb : (s == 0) = false := by simpa using hs
        have HS := Lib.hid (show ∀ W, Below W0.heap.size W0 W → Calls Tryz.prog 65 #[.agg #[.int .i64 s, .slice a (lim n).length c1]] W fun e w' => e = .returned (.slice a (lim n).length c1) ∧ Below W0.heap.size W0 w' from
          fun W hW => (iSize s a _ c1 W).mono fun e w' ⟨he, hb⟩ => ⟨he, hW.trans (hb.mono hW.size)⟩)
        have HP := Lib.hid (show ∀ W, Below W0.heap.size W0 W → Calls Tryz.prog 114 #[.slice a (lim n).length c1] W fun e w' => e = .returned (.bool (decide (n % 2 = 1))) ∧ W = w' from
          fun W hW => iOdd a n c1 W B (IX.out W hW).1 (by omega))
        clear p1 p3 p4 hx hW0 hB h1 hl IX hx5 hx6 hs sn hn
        go_enter Tryz.func88, Tryz.ntmps88
        go_wp2_with fail
        rw [HW0.out]
        refine (HI1.out _ hT).mono ?_
        rintro e w1 ⟨rfl, hb⟩
        clear k1 k2 k3
        obtain ⟨k1, k2, k3⟩ := SS.out _ hb
        go_wp2_with fail
        refine (HBY.out _).mono ?_
        rintro e w2 ⟨rfl, rfl⟩
        go_wp2_with fail
        refine (HS.out _ hb).mono ?_
        rintro e w3 ⟨rfl, hb3⟩
        go_wp2_with fail
        refine (HP.out _ hb3).mono ?_
        rintro e w4 ⟨rfl, rfl⟩
        go_wp2_with fail
        go_ret
        exact HEND.out _ _ hb3

end Go.Proofs.YtgppagmejhgmaaaGreatDoor
