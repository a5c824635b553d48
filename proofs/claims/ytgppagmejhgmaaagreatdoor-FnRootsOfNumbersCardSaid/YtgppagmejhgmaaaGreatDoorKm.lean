/-
  Contracts: the number beside a root, by the program. Conditions: the limbs can be read; the library's table is as its initialiser lays it. Contract: ModulusOf of the program. Conditions: the library's table is as its initialiser lays it.
-/
import Derived.Test.YtgppagmejhgmaaaGreatDoorKj
import Derived.Deep.DeepCutAuto
import Derived.Deep.RegionWith
import Derived.Test.YtgppagmejhgmaaaGreatDoorGt
namespace Go.Proofs.YtgppagmejhgmaaaGreatDoor
set_option linter.unusedVariables false
open Go Go.RowKit

open Go Go.RowKit Ieee

theorem own_lit (w : World) (z : Int) : Own (w.alloc (.cells #[.int .i64 z] 2)) w.heap.size (some ⟨w.heap.size, 0, none⟩) [z] := by
  refine Own.row ⟨#[.int .i64 z], heap_alloc_new w _, fun i h => ?_⟩ (Nat.le_refl _)
  have h0 : i = 0 := by simpa using h
  subst h0
  rfl
set_option maxRecDepth 100000 in
set_option maxHeartbeats 8000000 in
theorem iBesideRoot (s : Int) (a : Option Addr) (u c1 : Nat) (ue hh y g : Int) (v : Nat) (rx p1 : Int) (p : Nat) (px cz m1 : Int) (mm : Nat) (mx : Int) (b : Nat) (w : World) (B : Nat) (hB : B ≤ w.heap.size) (hx : Ints w B a (lim u)) (hs : Sg s u) (hl : (lim u).length ≤ 200) (hue1 : -5000 ≤ ue) (hue2 : ue ≤ 5000) (hTab : Tab w)
    (hbl : blen u = (b : Int)) (hb1 : b ≤ 4800) (hh1 : ((b : Int) + ue + 1) / 2 = hh) (hy : ue - 2 * hh = y)
    (hsc : redS s u y = (s, lim u, y)) (hrt : rtY s (lim u) y 64 = (g, lim v, rx, 0)) (hv : (lim v).length ≤ 200) (sg' : Sg g v) (hrx1 : -64 ≤ rx) (hrx2 : rx ≤ 64)
    (hp : mulW (g * (v : Int)) rx (g * (v : Int)) rx = (p1, lim p, px)) (hpl : (lim p).length ≤ 400) (sp : Sg p1 p) (hpx1 : -200 ≤ px) (hpx2 : px ≤ 200)
    (hc : (subW (p1 * (p : Int)) px (s * (u : Int)) y).1 = cz)
    (hm : addW (g * (v : Int)) rx (-(1 * ((1 : Nat) : Int))) (-65) = (m1, lim mm, mx)) (hml : (lim mm).length ≤ 200) (sm : Sg m1 mm) (hmx1 : -200 ≤ mx) (hmx2 : mx ≤ 200)
    (R1 : Int) (R2 : List Int) (R3 : Int) (hR : (if 0 < cz then redS m1 mm (mx + hh) else redS g v (rx + hh)) = (R1, R2, R3)) :
    Calls Tryz.prog 40 #[.agg #[.int .i64 s, .slice a (lim u).length c1, .int .i64 ue]] w (RetYR (R1, R2, R3) w) := by
  obtain ⟨W0, hW0⟩ : ∃ W0 : World, (w.alloc (.cells #[.int .i64 s, .slice a (lim u).length c1, .int .i64 ue] 62)).alloc (.cells #[.int .i64 0, .slice none 0 0, .int .i64 0] 62) = W0 := ⟨_, rfl⟩
  obtain ⟨p1', p2, p3, p4⟩ := two_boxT w 62 62 #[.int .i64 s, .slice a (lim u).length c1, .int .i64 ue] #[.int .i64 0, .slice none 0 0, .int .i64 0]
  rw [hW0] at p1' p2 p3 p4
  have HW0 := Lib.hid hW0
  have P3 := Lib.hid p3
  have P4 := Lib.hid p4
  have HTB := Lib.hid (show ∀ W, Below W0.heap.size W0 W → Tab W from fun W hW => (hTab.below p3).below hW)
  have SS := Lib.hid (show ∀ W, Below W0.heap.size W0 W → (W.cell? ⟨w.heap.size, 0, none⟩ = some (.int .i64 s) ∧ W.cell? ⟨w.heap.size, 1, none⟩ = some (.slice a (lim u).length c1) ∧ W.cell? ⟨w.heap.size, 2, none⟩ = some (.int .i64 ue)) from
    fun W hW => (p1'.below hW).tri)
  have SR := Lib.hid (show ∀ W, Below W0.heap.size W0 W → _ from fun W hW => (p2.below hW).tri6)
  have hT : Below W0.heap.size W0 W0 := Below.refl _ _
  have IX := Lib.hid (show ∀ W, Below W0.heap.size W0 W → Ints W B a (lim u) ∧ B ≤ W.heap.size from fun W hW => ⟨hx.below ((p3.mono hB).trans (hW.mono (by omega))), by have := hW.size; omega⟩)
  have hyb : -14000 ≤ y ∧ y ≤ 5000 := by omega
  have hhb : -2500 ≤ hh ∧ hh ≤ 5000 := by omega
  have HS := Lib.hid (show ∀ W, Below W0.heap.size W0 W → Calls Tryz.prog 65 #[.agg #[.int .i64 s, .slice a (lim u).length c1]] W fun e w' => e = .returned (.slice a (lim u).length c1) ∧ Below W0.heap.size W0 w' from
    fun W hW => (iSize s a (lim u).length c1 W).mono fun e w' ⟨he, hb⟩ => ⟨he, hW.trans (hb.mono hW.size)⟩)
  have HLN := Lib.hid (show ∀ W, Below W0.heap.size W0 W → Calls Tryz.prog 66 #[.slice a (lim u).length c1] W fun e w' => e = .returned (.int .i64 (b : Int)) ∧ W = w' from
    fun W hW => by
      have := iMagLength a u c1 W B (IX.out W hW).1 (by omega)
      rw [hbl] at this
      exact this)
  have HRE := Lib.hid (show ∀ W, Below W0.heap.size W0 W → Calls Tryz.prog 67 #[.agg #[.int .i64 s, .slice a (lim u).length c1], .int .i64 y] W fun e w' => ∃ a c, e = .returned (.agg #[.int .i64 s, .slice a (lim u).length c, .int .i64 y]) ∧ (lim u).length ≤ c ∧ Own w' W0.heap.size a (lim u) ∧ Below W0.heap.size W0 w' from
    fun W hW => by
      have := iReduced s a u c1 y W B (IX.out W hW).2 (IX.out W hW).1 hs (by omega) (by omega) (by omega) (HTB.out W hW)
      rw [hsc] at this
      exact this.mono fun e w' ⟨a, c, he, hc, ho, hb⟩ => ⟨a, c, he, hc, ho.mono hW.size, hW.trans (hb.mono hW.size)⟩)
  have HRA := Lib.hid (show ∀ (a : Option Addr) (c : Nat) W, Below W0.heap.size W0 W → Own W W0.heap.size a (lim u) → Calls Tryz.prog 68 #[.agg #[.int .i64 s, .slice a (lim u).length c, .int .i64 y], .int .i64 64] W fun e w' => ∃ a c, e = .returned (.tuple #[.agg #[.int .i64 g, .slice a (lim v).length c, .int .i64 rx], .int .i64 0]) ∧ (lim v).length ≤ c ∧ Own w' W0.heap.size a (lim v) ∧ Below W0.heap.size W0 w' ∧ Below W.heap.size W w' from
    fun a c W hW ho => by
      have := iRootAbove s a (lim u) c y 64 W _ (Nat.le_refl _) ho.ints (by omega) (HTB.out W hW)
      rw [hrt] at this
      exact this.mono fun e w' ⟨a, c, he, hc, ho, hb⟩ => ⟨a, c, he, hc, ho.mono hW.size, hW.trans (hb.mono hW.size), hb⟩)
  have HTM := Lib.hid (show ∀ (a : Option Addr) (c : Nat) W, Below W0.heap.size W0 W → Own W W0.heap.size a (lim v) → Calls Tryz.prog 61 #[.agg #[.int .i64 g, .slice a (lim v).length c, .int .i64 rx], .agg #[.int .i64 g, .slice a (lim v).length c, .int .i64 rx]] W fun e w' => ∃ a c, e = .returned (.agg #[.int .i64 p1, .slice a (lim p).length c, .int .i64 px]) ∧ Own w' W0.heap.size a (lim p) ∧ Below W.heap.size W w' from
    fun a c W hW ho => by
      have := iTimesD g a v c rx g a v c rx W _ _ (Nat.le_refl _) (Nat.le_refl _) ho.ints ho.ints sg' sg' (by omega) (by omega) (by omega) (by omega) (by omega) (by omega) (HTB.out W hW)
      rw [hp] at this
      exact this.mono fun e w' ⟨a, c, he, hc, ho, hb⟩ => ⟨a, c, he, ho.mono hW.size, hb⟩)
  have HCM := Lib.hid (show ∀ (a b : Option Addr) (c d : Nat) W, Below W0.heap.size W0 W → Own W W0.heap.size a (lim p) → Own W W0.heap.size b (lim u) → Calls Tryz.prog 69 #[.agg #[.int .i64 p1, .slice a (lim p).length c, .int .i64 px], .agg #[.int .i64 s, .slice b (lim u).length d, .int .i64 y]] W fun e w' => e = .returned (.int .i64 cz) ∧ Below W.heap.size W w' from
    fun a b c d W hW ho hp => by
      have := iCompareD p1 a p c px s b u d y W _ _ (Nat.le_refl _) (Nat.le_refl _) ho.ints hp.ints sp hs (by omega) (by omega) (by omega) (by omega) (by omega) (by omega) (HTB.out W hW)
      rw [hc] at this
      exact this)
  have hone : redS 1 1 (-65) = (1, [1], -65) := by
    rw [redS_pos (by omega), show od 1 = 1 by decide, show tw 1 = 0 by decide, lim_one]
    rfl
  have HMO := Lib.hid (show ∀ (a : Option Addr) (lo : Nat) W, Below W0.heap.size W0 W → lo ≤ W.heap.size → Own W lo a [1] → Calls Tryz.prog 71 #[.slice a 1 1, .int .i64 65] W fun e w' => ∃ a c, e = .returned (.agg #[.int .i64 1, .slice a 1 c, .int .i64 (-65)]) ∧ Own w' W0.heap.size a [1] ∧ Below W.heap.size W w' from
    fun a lo W hW hlo ho => by
      have := iMultipleOf a 1 1 65 W lo hlo (by rw [lim_one]; exact ho) (by rw [lim_one]; simp) (by rw [lim_one]; simp) (by omega) (by omega) (HTB.out W hW)
      rw [hone, lim_one] at this
      exact this.mono fun e w' ⟨a, c, he, hc, ho, hb⟩ => ⟨a, c, he, ho.mono hW.size, hb⟩)
  have HMI := Lib.hid (show ∀ (a b : Option Addr) (c d : Nat) W, Below W0.heap.size W0 W → Own W W0.heap.size a (lim v) → Own W W0.heap.size b [1] → Calls Tryz.prog 70 #[.agg #[.int .i64 g, .slice a (lim v).length c, .int .i64 rx], .agg #[.int .i64 1, .slice b 1 d, .int .i64 (-65)]] W fun e w' => ∃ a c, e = .returned (.agg #[.int .i64 m1, .slice a (lim mm).length c, .int .i64 mx]) ∧ Own w' W.heap.size a (lim mm) ∧ Below W.heap.size W w' from
    fun a b c d W hW ho hp => by
      have := iMinusD g a v c rx 1 b 1 d (-65) W _ _ (Nat.le_refl _) (Nat.le_refl _) ho.ints (by rw [lim_one]; exact hp.ints) sg' (.inr ⟨by omega, .inl rfl⟩) (by omega) (by rw [lim_one]; simp) (by omega) (by omega) (by omega) (by omega) (HTB.out W hW)
      rw [hm, lim_one] at this
      exact this.mono fun e w' ⟨a, c, he, hc, ho, hb⟩ => ⟨a, c, he, ho, hb⟩)
  obtain ⟨e1, he1⟩ : ∃ e1 : Int, e1 = rx + hh := ⟨_, rfl⟩
  obtain ⟨e2, he2⟩ : ∃ e2 : Int, e2 = mx + hh := ⟨_, rfl⟩
  rw [← he1, ← he2] at hR
  have HF1 := Lib.hid (show ¬ 0 < cz → ∀ (a : Option Addr) (c : Nat) W, Below W0.heap.size W0 W → Own W W0.heap.size a (lim v) → Calls Tryz.prog 67 #[.agg #[.int .i64 g, .slice a (lim v).length c], .int .i64 e1] W fun e w' => ∃ a c, e = .returned (.agg #[.int .i64 R1, .slice a R2.length c, .int .i64 R3]) ∧ R2.length ≤ c ∧ Own w' W0.heap.size a R2 ∧ Below W0.heap.size W0 w' from
    fun hz a c W hW ho => by
      have := iReduced g a v c e1 W _ (Nat.le_refl _) ho.ints sg' (by omega) (by omega) (by omega) (HTB.out W hW)
      rw [if_neg hz] at hR
      rw [hR] at this
      exact this.mono fun e w' ⟨a, c, he, hc, ho, hb⟩ => ⟨a, c, he, hc, ho.mono hW.size, hW.trans (hb.mono hW.size)⟩)
  have HF2 := Lib.hid (show 0 < cz → ∀ (a : Option Addr) (c : Nat) W, Below W0.heap.size W0 W → Own W W0.heap.size a (lim mm) → Calls Tryz.prog 67 #[.agg #[.int .i64 m1, .slice a (lim mm).length c], .int .i64 e2] W fun e w' => ∃ a c, e = .returned (.agg #[.int .i64 R1, .slice a R2.length c, .int .i64 R3]) ∧ R2.length ≤ c ∧ Own w' W0.heap.size a R2 ∧ Below W0.heap.size W0 w' from
    fun hz a c W hW ho => by
      have := iReduced m1 a mm c e2 W _ (Nat.le_refl _) ho.ints sm (by omega) (by omega) (by omega) (HTB.out W hW)
      rw [if_pos hz] at hR
      rw [hR] at this
      exact this.mono fun e w' ⟨a, c, he, hc, ho, hb⟩ => ⟨a, c, he, hc, ho.mono hW.size, hW.trans (hb.mono hW.size)⟩)
  clear hR
  have hwa : wrap64 ((b : Int) + ue) = (b : Int) + ue := by unfold wrap64; omega
  have hwb : wrap64 ((b : Int) + ue + 1) = (b : Int) + ue + 1 := by unfold wrap64; omega
  have hwa2 : IntKind.i64.wrap ((b : Int) + ue) = (b : Int) + ue := by rw [IntKind.wrap_i64]; omega
  have hwb2 : IntKind.i64.wrap ((b : Int) + ue + 1) = (b : Int) + ue + 1 := by rw [IntKind.wrap_i64]; omega
  obtain ⟨h2, hh2⟩ : ∃ h2 : Int, 2 * hh = h2 := ⟨_, rfl⟩
  have hwc : wrap64 (2 * hh) = h2 := by rw [← hh2]; unfold wrap64; omega
  have hwd : wrap64 (ue - h2) = y := by rw [← hh2, ← hy]; unfold wrap64; omega
  have hwe : wrap64 (rx + hh) = e1 := by rw [he1]; unfold wrap64; omega
  have hwf : wrap64 (mx + hh) = e2 := by rw [he2]; unfold wrap64; omega
  have hbd : Below W0.heap.size W0 W0.drew := hT.drew
  obtain ⟨k1, k2, k3⟩ := SS.out _ hT
  clear p1' p2 p3 p4 hx hW0 hB hl hue1 hue2 hTab hbl hb1 hy hsc hrt hv sg' hrx1 hrx2 hp hpl sp hpx1 hpx2 hc hm hml sm hmx1 hmx2 IX hyb hhb hone he1 he2 hh2 hs
  go_enter Tryz.func40, Tryz.ntmps40
  go_wp2_with fail
  rw [HW0.out]
  go_region_held3 (fun W => W.cell? ⟨w.heap.size, 0, none⟩ = some (.int .i64 s) ∧ W.cell? ⟨w.heap.size, 1, none⟩ = some (.slice a (lim u).length c1) ∧ W.cell? ⟨w.heap.size, 2, none⟩ = some (.int .i64 ue))
    (exact SS.out _ (by assumption))
    (first
    | (go_at_call 65; with_reducible refine (HS.out _ (by assumption)).mono ?_; rintro e w2 ⟨rfl, hb2⟩)
    | (go_at_call 66; with_reducible refine (HLN.out _ (by assumption)).mono ?_; rintro e w3 ⟨rfl, rfl⟩))
  all_goals
    clear k1 k2 k3 hbd
    obtain ⟨k1, k2, k3⟩ := SS.out _ hb2
    go_wp2_with fail
    refine (HRE.out _ hb2).mono ?_
    rintro e w4 ⟨a4, c4, rfl, hc4, ho4, hb4⟩
    clear k1 k2 k3 hb2
    have hbox4 := BoxAt.new w4 62 #[.int .i64 s, .slice a4 (lim u).length c4, .int .i64 y]
    obtain ⟨k1, k2, k3⟩ := hbox4.tri
    go_wp2_with fail
    refine (HRA.out _ _ _ (below_alloc hb4 _) (ho4.alloc _)).mono ?_
    rintro e w5 ⟨a5, c5, rfl, hc5, ho5, hb5, hbb⟩
    have hb4s := hb4.size
    have hbx := hbox4.below hbb
    have ho4' := (ho4.alloc (.cells #[.int .i64 s, .slice a4 (lim u).length c4, .int .i64 y] 62)).below hbb
    have hszb := hbb.size
    simp only [size_al] at hszb
    obtain ⟨W1, hW1⟩ : ∃ W1 : World, w5.alloc (.cells #[.int .i64 g, .slice a5 (lim v).length c5, .int .i64 rx] 62) = W1 := ⟨_, rfl⟩
    have q1 := BoxAt.new w5 62 #[.int .i64 g, .slice a5 (lim v).length c5, .int .i64 rx]
    have q2 := hbx.alloc (.cells #[.int .i64 g, .slice a5 (lim v).length c5, .int .i64 rx] 62)
    have q3 := ho5.alloc (.cells #[.int .i64 g, .slice a5 (lim v).length c5, .int .i64 rx] 62)
    have q4 := ho4'.alloc (.cells #[.int .i64 g, .slice a5 (lim v).length c5, .int .i64 rx] 62)
    have q5 := below_alloc hb5 (.cells #[.int .i64 g, .slice a5 (lim v).length c5, .int .i64 rx] 62)
    have q6 : W1.heap.size = w5.heap.size + 1 := by rw [← hW1]; simp
    rw [hW1] at q1 q2 q3 q4 q5
    have HW1 := Lib.hid hW1
    have HB1 := Lib.hid q5
    have HS1 := Lib.hid (show w4.heap.size < w5.heap.size ∧ W1.heap.size = w5.heap.size + 1 ∧ W0.heap.size ≤ w4.heap.size from ⟨by omega, q6, hb4s⟩)
    have HB2 := Lib.hid (show BoxAt W1 w5.heap.size 62 #[.int .i64 g, .slice a5 (lim v).length c5, .int .i64 rx] from q1)
    have SV := Lib.hid (show ∀ W, Below W1.heap.size W1 W → (W.cell? ⟨w5.heap.size, 0, none⟩ = some (.int .i64 g) ∧ W.cell? ⟨w5.heap.size, 1, none⟩ = some (.slice a5 (lim v).length c5) ∧ W.cell? ⟨w5.heap.size, 2, none⟩ = some (.int .i64 rx) ∧ W.cell? ⟨w4.heap.size, 0, none⟩ = some (.int .i64 s) ∧ W.cell? ⟨w4.heap.size, 1, none⟩ = some (.slice a4 (lim u).length c4) ∧ W.cell? ⟨w4.heap.size, 2, none⟩ = some (.int .i64 y)) from
      fun W hW => ⟨(q1.below hW).cell 0, (q1.below hW).cell 1, (q1.below hW).cell 2, (q2.below hW).cell 0, (q2.below hW).cell 1, (q2.below hW).cell 2⟩)
    have HTM1 := Lib.hid (show ∀ W, Below W1.heap.size W1 W → Calls Tryz.prog 61 #[.agg #[.int .i64 g, .slice a5 (lim v).length c5, .int .i64 rx], .agg #[.int .i64 g, .slice a5 (lim v).length c5, .int .i64 rx]] W fun e w' => ∃ a c, e = .returned (.agg #[.int .i64 p1, .slice a (lim p).length c, .int .i64 px]) ∧ Own w' W0.heap.size a (lim p) ∧ Below W1.heap.size W1 w' from
      fun W hW => (HTM.out _ _ W (HB1.out.trans (hW.mono HB1.out.size)) (q3.below hW)).mono fun e w' ⟨a, c, he, ho, hb⟩ => ⟨a, c, he, ho, hW.trans (hb.mono hW.size)⟩)
    have HCM1 := Lib.hid (show ∀ (a : Option Addr) (c : Nat) W, Below W1.heap.size W1 W → Own W W0.heap.size a (lim p) → Calls Tryz.prog 69 #[.agg #[.int .i64 p1, .slice a (lim p).length c, .int .i64 px], .agg #[.int .i64 s, .slice a4 (lim u).length c4, .int .i64 y]] W fun e w' => e = .returned (.int .i64 cz) ∧ Below W1.heap.size W1 w' from
      fun a c W hW ho => (HCM.out _ _ _ _ W (HB1.out.trans (hW.mono HB1.out.size)) ho (q4.below hW)).mono fun e w' ⟨he, hb⟩ => ⟨he, hW.trans (hb.mono hW.size)⟩)
    have HMO1 := Lib.hid (show ∀ (a : Option Addr) (lo : Nat) W, Below W1.heap.size W1 W → lo ≤ W.heap.size → Own W lo a [1] → Calls Tryz.prog 71 #[.slice a 1 1, .int .i64 65] W fun e w' => ∃ a c, e = .returned (.agg #[.int .i64 1, .slice a 1 c, .int .i64 (-65)]) ∧ Own w' W0.heap.size a [1] ∧ Below W1.heap.size W1 w' from
      fun a lo W hW hlo ho => (HMO.out _ lo W (HB1.out.trans (hW.mono HB1.out.size)) hlo ho).mono fun e w' ⟨a, c, he, ho, hb⟩ => ⟨a, c, he, ho, hW.trans (hb.mono hW.size)⟩)
    have HMI1 := Lib.hid (show ∀ (b : Option Addr) (d : Nat) W, Below W1.heap.size W1 W → Own W W0.heap.size b [1] → Calls Tryz.prog 70 #[.agg #[.int .i64 g, .slice a5 (lim v).length c5, .int .i64 rx], .agg #[.int .i64 1, .slice b 1 d, .int .i64 (-65)]] W fun e w' => ∃ a c, e = .returned (.agg #[.int .i64 m1, .slice a (lim mm).length c, .int .i64 mx]) ∧ Own w' W1.heap.size a (lim mm) ∧ Below W1.heap.size W1 w' from
      fun b d W hW ho => (HMI.out _ _ _ _ W (HB1.out.trans (hW.mono HB1.out.size)) (q3.below hW) ho).mono fun e w' ⟨a, c, he, ho, hb⟩ => ⟨a, c, he, ho.mono hW.size, hW.trans (hb.mono hW.size)⟩)
    have HQ3 := Lib.hid q3
    have hV : Below W1.heap.size W1 W1 := Below.refl _ _
    have hVd : Below W1.heap.size W1 W1.drew := hV.drew
    clear q1 q2 q3 q4 q5 q6 hbx ho4' hszb hbox4 hb4 ho4 hbb ho5 hb5 hW1 hb4s hc5 hc4 k1 k2 k3
    clear HTM HCM HMO HMI HRE HRA HS HLN
    have hWW := HW1.out
    go_wp2_with fail
    clear hWW hwa hwb hwa2 hwb2 hwc hwd hh1
    go_region_held3 (fun W => W.cell? ⟨w5.heap.size, 0, none⟩ = some (.int .i64 g) ∧ W.cell? ⟨w5.heap.size, 1, none⟩ = some (.slice a5 (lim v).length c5) ∧ W.cell? ⟨w5.heap.size, 2, none⟩ = some (.int .i64 rx) ∧ W.cell? ⟨w4.heap.size, 0, none⟩ = some (.int .i64 s) ∧ W.cell? ⟨w4.heap.size, 1, none⟩ = some (.slice a4 (lim u).length c4) ∧ W.cell? ⟨w4.heap.size, 2, none⟩ = some (.int .i64 y))
      (exact SV.out _ (by assumption))
      (first
      | (go_at_call 61; with_reducible refine (HTM1.out _ (by assumption)).mono ?_; rintro e w6 ⟨a6, c6, rfl, ho6, hb6⟩)
      | (go_at_call 69; with_reducible refine (HCM1.out _ _ _ (by assumption) (by assumption)).mono ?_; rintro e w7 ⟨rfl, hb7⟩))
    all_goals
      clear ho6 hb6
      obtain ⟨y1, y2, y3, y4, y5, y6⟩ := SV.out _ hb7
      by_cases hz : 0 < cz
      · have HF := Lib.hid (HF2.out (by omega))
        have hdz : decide (0 < cz) = true := decide_eq_true hz
        clear HF1 HF2 hz
        rw [hdz]
        have hb7d := hb7.drew
        have hA := below_alloc hb7 (.cells #[.int .i64 1] 2)
        have hAd := hA.drew
        have hOA := own_lit w7 1
        have hOAd : Own (w7.alloc (.cells #[.int .i64 1] 2)).drew w7.heap.size (some ⟨w7.heap.size, 0, none⟩) [1] := by rw [World.drew_is_drewN]; exact hOA.drewN 1
        have hsA : w7.heap.size ≤ (w7.alloc (.cells #[.int .i64 1] 2)).heap.size := by simp
        have hsAd : w7.heap.size ≤ ((w7.alloc (.cells #[.int .i64 1] 2)).drew).heap.size := by simp
        obtain ⟨ya1, ya2, ya3, _, _, _⟩ := SV.out _ hA
        obtain ⟨yd1, yd2, yd3, _, _, _⟩ := SV.out _ hAd
        obtain ⟨ye1, ye2, ye3, _, _, _⟩ := SV.out _ hb7d
        go_wp2_with fail
        go_region_with ((first
          | (go_at_call 71; (first | (with_reducible refine (HMO1.out _ _ _ hAd hsAd hOAd).mono ?_) | (with_reducible refine (HMO1.out _ _ _ hA hsA hOA).mono ?_)); rintro e w8 ⟨a8, c8, rfl, ho8, hb8⟩; clear ya1 ya2 ya3 yd1 yd2 yd3 ye1 ye2 ye3; obtain ⟨ya1, ya2, ya3, _, _, _⟩ := SV.out _ hb8)
          | (go_at_call 70; with_reducible refine (HMI1.out _ _ _ hb8 ho8).mono ?_; rintro e w9 ⟨a9, c9, rfl, ho9, hb9⟩; clear ya1 ya2 ya3; have hx9 := HB2.out.below hb9; obtain ⟨z1, z2, z3, z4, z5, z6⟩ := hx9.tri6)))
        all_goals
          have hgW : W0.heap.size ≤ w5.heap.size := by have := HS1.out; omega
          have hbe := (((HB1.out.trans (hb9.mono HB1.out.size)).setCell (p := ⟨w5.heap.size, 0, none⟩) hgW (.int .i64 m1)).setCell (p := ⟨w5.heap.size, 1, none⟩) hgW (.slice a9 (lim mm).length c9)).setCell (p := ⟨w5.heap.size, 2, none⟩) hgW (.int .i64 mx)
          have howe := (((ho9.setFar (p := ⟨w5.heap.size, 0, none⟩) (by have := HS1.out; show w5.heap.size < _; omega) (.int .i64 m1)).setFar (p := ⟨w5.heap.size, 1, none⟩) (by have := HS1.out; show w5.heap.size < _; omega) (.slice a9 (lim mm).length c9)).setFar (p := ⟨w5.heap.size, 2, none⟩) (by have := HS1.out; show w5.heap.size < _; omega) (.int .i64 mx)).mono HB1.out.size
          clear hb7 hb7d hA hAd hOA hOAd hsA hsAd hb8 ho8 hb9 ho9 hx9 hgW
          go_wp2_with fail
          refine (HF.out _ _ _ hbe howe).mono ?_
          rintro e w10 ⟨a10, c10, rfl, hc10, ho10, hb10⟩
          have HO8 := Lib.hid ho10
          have HC8 := Lib.hid hc10
          obtain ⟨q1, q2, q3, q4, q5, q6⟩ := SR.out _ hb10
          clear hc10 ho10 howe hbe
          go_wp2_with fail
          refine bodyPost_ret (v := .agg #[.int .i64 R1, .slice a10 R2.length c10, .int .i64 R3]) (by simp [results, Tryz.results40, go_sem, *]) rfl ?_
          exact retYR_end (g := w.heap.size + 1) (r := (R1, R2, R3)) P3.out P4.out hb10 (by omega) (by omega) _ _ _ HO8.out HC8.out
      · have HF := Lib.hid (HF1.out (by omega))
        have hdz : decide (0 < cz) = false := decide_eq_false hz
        have hbe := HB1.out.trans (hb7.mono HB1.out.size)
        have howe := HQ3.out.below hb7
        clear HF1 HF2 hz
        rw [hdz]
        go_wp2_with fail
        refine (HF.out _ _ _ hbe howe).mono ?_
        rintro e w8 ⟨a8, c8, rfl, hc8, ho8, hb8⟩
        have HO8 := Lib.hid ho8
        have HC8 := Lib.hid hc8
        obtain ⟨q1, q2, q3, q4, q5, q6⟩ := SR.out _ hb8
        clear hc8 ho8 howe hbe hb7 y1 y2 y3 y4 y5 y6
        go_wp2_with fail
        refine bodyPost_ret (v := .agg #[.int .i64 R1, .slice a8 R2.length c8, .int .i64 R3]) (by simp [results, Tryz.results40, go_sem, *]) rfl ?_
        exact retYR_end (g := w.heap.size + 1) (r := (R1, R2, R3)) P3.out P4.out hb8 (by omega) (by omega) _ _ _ HO8.out HC8.out

open Go Go.RowKit Ieee

/-- The modulus, and the code. -/
def moR (x y : Nat) : Nat × Int := if (isF .f64 x && isF .f64 y) = true then fitF (rtI (mg x * mg x + mg y * mg y)) else (0, 1)
theorem moR_no {x y : Nat} (h : (isF .f64 x && isF .f64 y) = false) : moR x y = (0, 1) := by unfold moR; rw [if_neg (by rw [h]; decide)]
theorem moR_yes {x y : Nat} (h : (isF .f64 x && isF .f64 y) = true) : moR x y = fitF (rtI (mg x * mg x + mg y * mg y)) := by unfold moR; rw [if_pos h]

set_option maxRecDepth 100000 in
set_option maxHeartbeats 4000000 in
theorem iModulusOf (x y : Nat) (hx : x < 2 ^ 64) (hy : y < 2 ^ 64) (w : World) (hTab : Tab w) : Calls Tryz.prog 15 #[.complex .f64 x y] w fun e w' => e = .returned (.tuple #[.float .f64 (moR x y).1, .int .i64 (moR x y).2]) ∧ Below w.heap.size w w' := by
  have hT : Below w.heap.size w w := Below.refl _ _
  have HTB := Lib.hid (show ∀ W, Below w.heap.size w W → Tab W from fun W hW => hTab.below hW)
  have HE := Lib.hid (iExactOf x y hx hy w hTab)
  cases hf : (isF .f64 x && isF .f64 y)
  · rw [moR_no hf]
    have he : exOf x y = exZ 1 := by unfold exOf; rw [if_neg (by rw [hf]; decide)]
    rw [he] at HE
    unfold exZ at HE
    clear hf he hx hy hTab
    go_enter Tryz.func15, Tryz.ntmps15
    go_wp2_with fail
    refine HE.out.mono ?_
    rintro e w1 ⟨a, c, b, d, rfl, _, _, hb⟩
    have hb2 := below_alloc hb (.cells #[.int .i64 0, .slice a 0 c, .int .i64 0, .int .i64 0, .slice b 0 d, .int .i64 0] 64)
    clear hb
    go_wp2_with fail
    go_ret2
    exact ⟨rfl, hb2⟩
  · obtain ⟨fx, fy⟩ := both_yes hf
    obtain ⟨⟨s, l, e, c1⟩, hd1⟩ : ∃ r, dyF x = r := ⟨_, rfl⟩
    obtain ⟨⟨t, k, f, c2⟩, hd2⟩ : ∃ r, dyF y = r := ⟨_, rfl⟩
    obtain rfl : c1 = 0 := by
      obtain ⟨b, m, i, rfl, hF, hC⟩ := fin_fw hx fx
      rw [dyF_fw b hF] at hd1
      cases hd1; rfl
    obtain rfl : c2 = 0 := by
      obtain ⟨b, m, i, rfl, hF, hC⟩ := fin_fw hy fy
      rw [dyF_fw b hF] at hd2
      cases hd2; rfl
    have he : exOf x y = ⟨s, l, e, t, k, f, 0⟩ := by unfold exOf; rw [if_pos hf, hd1, hd2]
    rw [he] at HE
    rw [moR_yes hf]
    have hl3 : l.length ≤ 3 := by have := dyF_len x; rw [hd1] at this; exact this
    have hk3 : k.length ≤ 3 := by have := dyF_len y; rw [hd2] at this; exact this
    have hsq := sqY_red hx hy fx fy hd1 hd2
    obtain ⟨C, hC⟩ : ∃ C, C = 4197 := ⟨_, rfl⟩
    have hN := N_lt hx hy fx fy hC
    obtain ⟨N, hNe⟩ : ∃ N, N = mg x * mg x + mg y * mg y := ⟨_, rfl⟩
    rw [← hNe] at hsq hN ⊢
    obtain ⟨s', u, ue, hh, y', g, v, rx, p1, p, px, cz, m1, mm, mx, b, R1, R2, R3, g1, g2, g3, g4, g5, g6⟩ := bs_all hC hN
    rw [g1, fitY_yes g2] at hsq
    have HSQ := Lib.hid (show ∀ (a b : Option Addr) (c d : Nat) W, Below w.heap.size w W → Own W w.heap.size a l → Own W w.heap.size b k → Calls Tryz.prog 38 #[.agg #[.int .i64 s, .slice a l.length c, .int .i64 e, .int .i64 t, .slice b k.length d, .int .i64 f]] W fun e w' => ∃ a c, e = .returned (.tuple #[.agg #[.int .i64 s', .slice a (lim u).length c, .int .i64 ue], .int .i64 0]) ∧ Own w' w.heap.size a (lim u) ∧ Below w.heap.size w w' from
      fun a b c d W hW ho hp => by
        have := iSquareOfExact s a l c e t b k d f W _ (Nat.le_refl _) ho.ints hp.ints (by omega) (by omega) (HTB.out W hW)
        rw [hsq] at this
        exact this.mono fun e w' ⟨a, c, he, _, ho, hb⟩ => ⟨a, c, he, ho.mono hW.size, hW.trans (hb.mono hW.size)⟩)
    have HBS := Lib.hid (show ∀ (a : Option Addr) (c : Nat) W, Below w.heap.size w W → Own W w.heap.size a (lim u) → Calls Tryz.prog 40 #[.agg #[.int .i64 s', .slice a (lim u).length c, .int .i64 ue]] W fun e w' => ∃ a c, e = .returned (.agg #[.int .i64 R1, .slice a R2.length c, .int .i64 R3]) ∧ Own w' w.heap.size a R2 ∧ Below w.heap.size w w' from
      fun a c W hW ho => (iBesideRoot s' a u c ue hh y' g v rx p1 p px cz m1 mm mx b W _ (Nat.le_refl _) ho.ints g3.hs g3.hl g3.hue1 g3.hue2 (HTB.out W hW) g3.hbl g3.hb1 g3.hh1 g3.hy g3.hsc g3.hrt g3.hv g3.sg' g3.hrx1 g3.hrx2 g3.hp g3.hpl g3.sp g3.hpx1 g3.hpx2 g3.hc g3.hm g3.hml g3.sm g3.hmx1 g3.hmx2 R1 R2 R3 g4).mono fun e w' ⟨a, c, he, _, ho, hb⟩ => ⟨a, c, he, ho.mono hW.size, hW.trans (hb.mono hW.size)⟩)
    obtain ⟨⟨z, cd⟩, hz⟩ : ∃ r, fitF (rtI N) = r := ⟨_, rfl⟩
    rw [hz] at g6 ⊢
    have HFL := Lib.hid (show ∀ (a : Option Addr) (c : Nat) W, Below w.heap.size w W → Own W w.heap.size a R2 → Calls Tryz.prog 39 #[.agg #[.int .i64 R1, .slice a R2.length c, .int .i64 R3]] W fun e w' => e = .returned (.tuple #[.float .f64 z, .int .i64 cd]) ∧ Below w.heap.size w w' from
      fun a c W hW ho => by
        have := iFloatOf R1 a R2 c R3 W _ (Nat.le_refl _) ho.ints (by omega) (HTB.out W hW)
        rw [g6] at this
        exact this.mono fun e w' ⟨he, hb⟩ => ⟨he, hW.trans (hb.mono hW.size)⟩)
    clear g1 g2 g3 g4 g5 g6 hsq hN hNe hC hl3 hk3 he hd1 hd2 fx fy hf hx hy hTab hz HTB
    go_enter Tryz.func15, Tryz.ntmps15
    go_wp2_with fail
    refine HE.out.mono ?_
    rintro e1 w1 ⟨a1, c1, b1, d1, rfl, ho1, hp1, hb1⟩
    have hbx := BoxAt.new w1 64 #[.int .i64 s, .slice a1 l.length c1, .int .i64 e, .int .i64 t, .slice b1 k.length d1, .int .i64 f]
    obtain ⟨k1, k2, k3, k4, k5, k6⟩ := hbx.six
    have hb2 := below_alloc hb1 (.cells #[.int .i64 s, .slice a1 l.length c1, .int .i64 e, .int .i64 t, .slice b1 k.length d1, .int .i64 f] 64)
    have ho2 := ho1.alloc (.cells #[.int .i64 s, .slice a1 l.length c1, .int .i64 e, .int .i64 t, .slice b1 k.length d1, .int .i64 f] 64)
    have hp2 := hp1.alloc (.cells #[.int .i64 s, .slice a1 l.length c1, .int .i64 e, .int .i64 t, .slice b1 k.length d1, .int .i64 f] 64)
    clear hb1 ho1 hp1
    go_wp2_with fail
    refine (HSQ.out _ _ _ _ _ hb2 ho2 hp2).mono ?_
    rintro e2 w2 ⟨a2, c2, rfl, ho3, hb3⟩
    clear hb2 ho2 hp2 k1 k2 k3 k4 k5 k6 hbx
    have hbx := BoxAt.new w2 62 #[.int .i64 s', .slice a2 (lim u).length c2, .int .i64 ue]
    obtain ⟨k1, k2, k3⟩ := hbx.tri
    have hb4 := below_alloc hb3 (.cells #[.int .i64 s', .slice a2 (lim u).length c2, .int .i64 ue] 62)
    have ho4 := ho3.alloc (.cells #[.int .i64 s', .slice a2 (lim u).length c2, .int .i64 ue] 62)
    clear hb3 ho3
    go_wp2_with fail
    refine (HBS.out _ _ _ hb4 ho4).mono ?_
    rintro e3 w3 ⟨a3, c3, rfl, ho5, hb5⟩
    clear hb4 ho4 k1 k2 k3 hbx
    go_wp2_with fail
    refine (HFL.out _ _ _ hb5 ho5).mono ?_
    rintro e4 w4 ⟨rfl, hb6⟩
    clear hb5 ho5
    go_wp2_with fail
    go_ret2
    exact ⟨rfl, hb6⟩
end Go.Proofs.YtgppagmejhgmaaaGreatDoor
