/-
  Contracts: the draws of laws.FnRootsOfNumbers. Conditions: the code's bytes can be read. Contracts: the draws of laws.FnRootsOfNumbers. Conditions: the code's bytes can be read. What laws.FnRootsOfNumbers asks: comparisons, the root of a square, a modulus between the larger part and the size, real parts of at least 0, the narrowed root. Conditions: none.
-/
import Derived.Test.YtgppagmejhgmaaaGreatDoorKv
import Derived.Test.YtgppagmejhgmaaaGreatDoorGp
namespace Go.Proofs.YtgppagmejhgmaaaGreatDoor
set_option linter.unusedVariables false
open Go Go.RowKit

open Go Go.RowKit Ieee

set_option maxHeartbeats 400000 in
theorem dice_below (B : Nat) (a : Option Addr) (len cap : Nat) (b : Nat) (n : Int) (w : World) (hs : Src B a len cap w b) (hn : 1 ≤ n) (hn' : n ≤ 9223372036854775807) :
    Calls Tryz.prog 13 #[.pointer (some ⟨b, 0, none⟩), .int .i64 n] w (Nxt B a len cap b n w) := by
  have HS := Lib.hid hs
  obtain ⟨lo, hi, fit, c0, ⟨k, hk, c1⟩, ⟨h, c2⟩, fz, code⟩ := hs
  have fz1 := fz 1
  have fz2 := fz 2
  have FZ := Lib.hid fz
  clear fz
  have CODE := Lib.hid code
  clear code
  obtain ⟨v, hv, hm⟩ := mask_of h
  have hd1 : decide (n < 1) = false := decide_eq_false (by omega)
  by_cases hkl : k < len
  · obtain ⟨c, o, u, ha, hcB, hu, hcell⟩ := CODE.out k hkl
    have hbc : ¬ b = c := by omega
    have hcb : ¬ c = b := by omega
    have hkI : (k : Int) < (len : Int) := by omega
    have hk0 : (0 : Int) ≤ (k : Int) := by omega
    subst ha
    go_enter Tryz.func13, Tryz.ntmps13
    go_wp2
    go_quiet (fail)
    go_wp2
    go_quiet (fail)
    go_wp2
    go_ret
    have e0 : 0 ≤ ((v : Int) + (u : Int)) % n := Int.emod_nonneg _ (by omega)
    have e1 : ((v : Int) + (u : Int)) % n < n := Int.emod_lt_of_pos _ (by omega)
    refine ⟨(((v : Int) + (u : Int)) % n).toNat, by omega, ret_int (Int.toNat_of_nonneg e0).symm, ?_⟩
    exact (((Stay.refl HS.out).set2 _).drewN _).set1 (k + 1) (by omega) _ (by omega)
  · obtain rfl : k = len := by omega
    go_enter Tryz.func13, Tryz.ntmps13
    go_wp2
    go_quiet (fail)
    go_wp2
    go_ret
    have e0 : 0 ≤ (v : Int) % n := Int.emod_nonneg _ (by omega)
    have e1 : (v : Int) % n < n := Int.emod_lt_of_pos _ (by omega)
    refine ⟨((v : Int) % n).toNat, by omega, ret_int (Int.toNat_of_nonneg e0).symm, ?_⟩
    exact ((Stay.refl HS.out).set2 _).drewN _

set_option maxRecDepth 100000 in
set_option maxHeartbeats 400000 in
theorem roll_any (a : Option Addr) (len cap : Nat) (w : World) (hlen : (len : Int) ≤ 4096) (hcode : Code8 w.heap.size a len w) :
    Calls Tryz.prog 12 #[.slice a len cap, .int .u64 6011] w (MadeSrc w.heap.size a len cap w) := by
  have HC := Lib.hid hcode
  clear hcode
  go_enter Tryz.func12, Tryz.ntmps12
  go_wp2
  have h0 : Src w.heap.size a len cap (w.alloc (.cells #[.slice a len cap, .int .i64 0, .int .u64 (37610827 + (len : Int))] 55)) w.heap.size := by
    refine ⟨Nat.le_refl _, by simp, by omega, by simp, ⟨0, Nat.zero_le _, by simp⟩, ⟨37610827 + (len : Int), by simp⟩, fun i => by simp, fun i hi => ?_⟩
    obtain ⟨c, o, u, ha, hc, hu, hcell⟩ := HC.out i hi
    exact ⟨c, o, u, ha, hc, hu, by rw [World.cell?_alloc_lt _ _ _ hc]; exact hcell⟩
  have H0 := Lib.hid h0
  clear h0
  obtain ⟨w0, hw0⟩ : ∃ w0, w0 = w.alloc (.cells #[.slice a len cap, .int .i64 0, .int .u64 (37610827 + (len : Int))] 55) := ⟨_, rfl⟩
  rw [← hw0] at H0 ⊢
  have HW := Lib.hid hw0
  clear hw0
  have HEND : ∀ wr, Stay w.heap.size a len cap w.heap.size w0 wr → MadeSrc w.heap.size a len cap w (.returned (.pointer (some ⟨w.heap.size, 0, none⟩))) wr := fun wr hst =>
    ⟨w.heap.size, rfl, (by rw [HW.out] at hst; exact ((Below.refl _ w).alloc (Nat.le_refl _) _).trans (hst.below (by simp))), hst.src⟩
  go_loopw [6] (fun i wr => ∃ k : Nat, k ≤ len ∧ i = .int .i64 k ∧ Stay w.heap.size a len cap w.heap.size w0 wr) (fun i _ => len - (intOf i).toNat)
  case atStart => exact ⟨0, Nat.zero_le _, rfl, Stay.refl H0.out⟩
  case round =>
    obtain ⟨k, hk, rfl, hst⟩ := hrel
    have HST := Lib.hid hst
    obtain ⟨lo, hi, fit, c0, ⟨k1, hk1, c1⟩, ⟨x2, c2⟩, fz, code⟩ := hst.src
    clear hst c1
    have fz2 := fz 2
    have CODE := Lib.hid code
    clear fz code
    by_cases hkl : k < len
    · obtain ⟨c, o, u, ha, hcB, hu, hcell⟩ := CODE.out k hkl
      have hbc : ¬ w.heap.size = c := by omega
      have hcb : ¬ c = w.heap.size := by omega
      have hkI : (k : Int) < (len : Int) := by omega
      have hk0 : (0 : Int) ≤ (k : Int) := by omega
      subst ha
      go_wp2
      go_region
      all_goals
        go_wp2
        go_roundw
        case rel => exact ⟨k + 1, by omega, by go_num, (HST.out.set2 _).drewN 1⟩
        case measure => simp [intOf]; omega
    · obtain rfl : k = len := by omega
      go_wp2
      go_ret
      exact HEND _ HST.out

open Go Go.RowKit Ieee

set_option maxRecDepth 100000 in
set_option maxHeartbeats 800000 in
theorem drawRF (a : Option Addr) (len cap : Nat) (w : World) (hlen : len ≤ 9223372036854775807) (hcode : Code8 w.heap.size a len w) :
    Calls Tryz.prog 5 #[.slice a len cap] w fun e w' => ∃ x, x < 2 ^ 64 ∧ e = .returned (.float .f64 x) ∧ Below w.heap.size w w' := by
  have HF := Lib.hid (from_any a len cap w hlen hcode)
  clear hlen hcode
  obtain ⟨B, hB⟩ : ∃ B, B = w.heap.size := ⟨_, rfl⟩
  rw [← hB] at HF ⊢
  have HB := Lib.hid hB
  clear hB
  go_enter Tryz.func5, Tryz.ntmps5
  go_wp2_with fail
  refine HF.out.mono ?_
  rintro e w1 ⟨b, rfl, hbel, hsrc⟩
  have BE := Lib.hid hbel
  have BZ := Lib.hid (show B ≤ w1.heap.size by have := hbel.size; have := HB.out; omega)
  have ST := Stay.refl hsrc
  have HA := Lib.hid (show ∀ x W, x < 2 ^ 64 → isF .f64 x = true → Calls Tryz.prog 30 #[.float .f64 x] W fun e w' => e = .returned (.float .f64 (ab x)) ∧ W = w' from fun x W h1 h2 => sAbsC x h1 h2 W)
  have hab : ∀ x, ab x < 2 ^ 63 := fun x => Nat.mod_lt _ (by decide)
  clear hbel hsrc HF
  go_wp2_with fail
  refine (next_from ST _ (by omega) (by omega)).mono ?_
  rintro e w2 ⟨v, hv, rfl, ST2⟩
  clear ST
  by_cases h0 : v = 0
  · subst h0
    clear hv
    go_wp2_with fail
    refine (strange_any B a len cap b w1 _ ST2).mono ?_
    rintro e w3 ⟨x, hx, rfl, ST3⟩
    have BS := Lib.hid (ST3.below BZ.out)
    have HX := Lib.hid hx
    clear ST2 ST3 hx
    go_wp2_with fail
    go_ret
    exact ⟨_, HX.out, rfl, BE.out.trans BS.out⟩
  · have e0 : ((v : Int) == 0) = false := by simpa using h0
    by_cases h1 : v = 1
    · subst h1
      clear hv
      go_wp2_with fail
      refine (float_fin B a len cap b w1 _ ST2).mono ?_
      rintro e w3 ⟨x, hf, hx, rfl, ST3⟩
      have BS := Lib.hid (ST3.below BZ.out)
      have HX := Lib.hid (And.intro hx hf)
      clear ST2 ST3 hx hf
      go_wp2_with fail
      refine (HA.out _ _ HX.out.1 HX.out.2).mono ?_
      rintro e w4 ⟨rfl, rfl⟩
      go_wp2_with fail
      go_ret
      exact ⟨_, neg_lt (by have := hab x; omega), rfl, BE.out.trans BS.out⟩
    · have e1 : ((v : Int) == 1) = false := by simp; omega
      by_cases h2 : v = 2
      · subst h2
        clear hv
        go_wp2_with fail
        refine (next_from ST2 _ (by omega) (by omega)).mono ?_
        rintro e w3 ⟨u, hu, rfl, ST3⟩
        have BS := Lib.hid (ST3.below BZ.out)
        clear ST2 ST3
        go_wp2_with fail
        go_ret
        refine ⟨_, ?_, rfl, below_drewN (BE.out.trans BS.out) _⟩
        exact wf_fop _ _ _ _ _ _ rfl
      · have e2 : ((v : Int) == 2) = false := by simp; omega
        clear hv h0 h1 h2
        go_wp2_with fail
        refine (float_fin B a len cap b w1 _ ST2).mono ?_
        rintro e w3 ⟨x, hf, hx, rfl, ST3⟩
        have BS := Lib.hid (ST3.below BZ.out)
        have HX := Lib.hid (And.intro hx hf)
        clear ST2 ST3 hx hf
        go_wp2_with fail
        refine (HA.out _ _ HX.out.1 HX.out.2).mono ?_
        rintro e w4 ⟨rfl, rfl⟩
        go_wp2_with fail
        go_ret
        exact ⟨_, by have := hab x; omega, rfl, BE.out.trans BS.out⟩
set_option maxHeartbeats 400000 in
theorem drawRN (a : Option Addr) (len cap : Nat) (w : World) (hlen : len ≤ 9223372036854775807) (hcode : Code8 w.heap.size a len w) :
    Calls Tryz.prog 9 #[.slice a len cap] w fun e w' => ∃ x, x < 2 ^ 32 ∧ e = .returned (.float .f32 x) ∧ Below w.heap.size w w' := by
  have HF := Lib.hid (drawRF a len cap w hlen hcode)
  clear hlen hcode
  have hcv : ∀ (x : Nat) (W : World), ∃ y n, (convert 24 29 (.float .f64 x)).run Tryz.prog W = .ok (.float .f32 y) (W.drewN n) ∧ y < 2 ^ 32 := fun x W => by
    obtain ⟨⟨y, n⟩, h1, h2⟩ := ffN_ex Tryz.prog W x
    exact ⟨y, n, by simp [convert, run_underlying Tryz.underlying24, run_underlying Tryz.underlying29, h1], h2⟩
  have HC := Lib.hid hcv
  clear hcv
  go_enter Tryz.func9, Tryz.ntmps9
  go_wp2_with fail
  refine HF.out.mono ?_
  rintro e w1 ⟨x, _, rfl, hb⟩
  obtain ⟨y, n, hy, hy2⟩ := HC.out x w1
  have HY := Lib.hid hy2
  have hb2 := below_drewN hb n
  clear hy2 hb
  go_wp2_with fail
  go_ret
  exact ⟨_, HY.out, rfl, hb2⟩
set_option maxHeartbeats 400000 in
theorem drawMO (a : Option Addr) (len cap : Nat) (w : World) (hlen : len ≤ 9223372036854775807) (hcode : Code8 w.heap.size a len w) :
    Calls Tryz.prog 14 #[.slice a len cap] w fun e w' => ∃ x y, x < 2 ^ 64 ∧ y < 2 ^ 64 ∧ e = .returned (.complex .f64 x y) ∧ Below w.heap.size w w' := by
  have HF := Lib.hid (from_any a len cap w hlen hcode)
  clear hlen hcode
  go_enter Tryz.func14, Tryz.ntmps14
  go_wp2_with fail
  refine HF.out.mono ?_
  rintro e w1 ⟨b, rfl, hbel, hsrc⟩
  have BE := Lib.hid hbel
  have ST := Stay.refl hsrc
  clear hbel hsrc HF
  go_wp2_with fail
  refine (spoil_any w.heap.size a len cap b w1 _ ST).mono ?_
  rintro e w2 ⟨x, y, hx, hy, rfl, ST2⟩
  have BS := Lib.hid (ST2.below BE.out.size)
  have HX := Lib.hid hx
  have HY := Lib.hid hy
  clear ST ST2 hx hy
  go_wp2_with fail
  go_ret
  exact ⟨_, _, HX.out, HY.out, rfl, BE.out.trans BS.out⟩
set_option maxHeartbeats 400000 in
theorem drawRC (a : Option Addr) (len cap : Nat) (w : World) (hlen : len ≤ 9223372036854775807) (hcode : Code8 w.heap.size a len w) :
    Calls Tryz.prog 19 #[.slice a len cap] w fun e w' => ∃ x y, x < 2 ^ 64 ∧ y < 2 ^ 64 ∧ e = .returned (.complex .f64 x y) ∧ Below w.heap.size w w' := by
  have HF := Lib.hid (drawMO a len cap w hlen hcode)
  clear hlen hcode
  go_enter Tryz.func19, Tryz.ntmps19
  go_wp2_with fail
  refine HF.out.mono ?_
  rintro e w1 ⟨x, y, hx, hy, rfl, hb⟩
  have HX := Lib.hid hx
  have HY := Lib.hid hy
  clear hx hy
  go_wp2_with fail
  go_ret
  exact ⟨_, _, HX.out, HY.out, rfl, hb⟩
set_option maxHeartbeats 400000 in
theorem drawCN (a : Option Addr) (len cap : Nat) (w : World) (hlen : len ≤ 9223372036854775807) (hcode : Code8 w.heap.size a len w) :
    Calls Tryz.prog 23 #[.slice a len cap] w fun e w' => ∃ x y, x < 2 ^ 32 ∧ y < 2 ^ 32 ∧ e = .returned (.complex .f32 x y) ∧ Below w.heap.size w w' := by
  have HF := Lib.hid (from_any a len cap w hlen hcode)
  clear hlen hcode
  go_enter Tryz.func23, Tryz.ntmps23
  go_wp2_with fail
  refine HF.out.mono ?_
  rintro e w1 ⟨b, rfl, hbel, hsrc⟩
  have BE := Lib.hid hbel
  have ST := Stay.refl hsrc
  clear hbel hsrc HF
  go_wp2_with fail
  refine (narrow_any w.heap.size a len cap b w1 _ ST).mono ?_
  rintro e w2 ⟨x, y, hx, hy, rfl, ST2⟩
  have BS := Lib.hid (ST2.below BE.out.size)
  have HX := Lib.hid hx
  have HY := Lib.hid hy
  clear ST ST2 hx hy
  go_wp2_with fail
  go_ret
  exact ⟨_, _, HX.out, HY.out, rfl, BE.out.trans BS.out⟩
/-- A number out of the dice. -/
theorem roll_below (a : Option Addr) (len cap : Nat) (n : Int) (hn : 1 ≤ n) (hn' : n ≤ 9223372036854775807) (W : World) (B b : Nat) (hs : Src B a len cap W b) (hB : B ≤ W.heap.size) :
    Calls Tryz.prog 13 #[.pointer (some ⟨b, 0, none⟩), .int .i64 n] W fun e w' => ∃ v : Nat, (v : Int) < n ∧ e = .returned (.int .i64 (v : Int)) ∧ Below B W w' :=
  (dice_below B a len cap b n W hs hn hn').mono fun _ _ ⟨v, hv, he, hst⟩ => ⟨v, hv, he, hst.below hB⟩

open Go Go.RowKit Ieee

set_option maxHeartbeats 800000 in
theorem float9_fin (x : Nat) (hx64 : x < 2 ^ 64) (hx : isF .f64 x = true) (w : World) : Calls Tryz.prog 8 #[.float .f64 x, .float .f64 x] w fun e w' => e = .returned (.bool true) ∧ w = w' := by
  have hs1 := order_self (isF_not_isN hx)
  have hs : (FloatKind.f64.format.order x x != some .eq) = false := by rw [hs1]; rfl
  have hs2 : (FloatKind.f64.format.order x x == some .eq) = true := by rw [hs1]; rfl
  obtain ⟨r, hr⟩ := quo_fin hx
  have hq : ∀ W : World, (binOp .quo 24 (.float .f64 4607182418800017408) (.float .f64 x)).run Tryz.prog W = .ok (.float .f64 r) W := fun W => run_float_arith W _ _ _ _ _ _ hr
  have hrr : (FloatKind.f64.format.order x 0 == some .eq) = true → (FloatKind.f64.format.order r r == some .eq) = true := fun h0 => by
    obtain ⟨s, m, i, e, hF, _⟩ := fin_fw hx64 hx
    have hz := zero_fw s hF
    rw [← e, h0] at hz
    have hm : m = 0 := of_decide_eq_true hz.symm
    subst hm
    rw [fw_zero] at e
    subst e
    cases s
    · have h1 : floatBits .quo .f64 4607182418800017408 (f64.word false 0) = some 0x7ff0000000000000 := by decide +kernel
      rw [h1] at hr
      cases hr
      decide +kernel
    · have h1 : floatBits .quo .f64 4607182418800017408 (f64.word true 0) = some 0xfff0000000000000 := by decide +kernel
      rw [h1] at hr
      cases hr
      decide +kernel
  clear hr hs1 hx64
  cases h0 : (FloatKind.f64.format.order x 0 == some .eq)
  · clear hrr
    have h0' : (FloatKind.f64.format.order x 0 != some .eq) = true := by simp [bne, h0]
    go_enter Tryz.func8, Tryz.ntmps8
    go_wp2
    go_ret
    exact ⟨rfl, rfl⟩
  · have hrr := hrr h0
    have h0' : (FloatKind.f64.format.order x 0 != some .eq) = false := by simp [bne, h0]
    go_enter Tryz.func8, Tryz.ntmps8
    go_wp2
    go_ret
    exact ⟨rfl, rfl⟩
set_option maxHeartbeats 800000 in
theorem wide9_fin (x y : Nat) (hx : x < 2 ^ 64) (hy : y < 2 ^ 64) (fx : isF .f64 x = true) (fy : isF .f64 y = true) (w : World) : Calls Tryz.prog 22 #[.complex .f64 x y, .complex .f64 x y] w fun e w' => e = .returned (.bool true) ∧ w = w' := by
  have HX := Lib.hid (float9_fin x hx fx)
  have HY := Lib.hid (float9_fin y hy fy)
  clear hx hy fx fy
  go_enter Tryz.func22, Tryz.ntmps22
  go_wp2_with (go_at_call 8; (first | (with_reducible refine (HX.out _).mono ?_) | (with_reducible refine (HY.out _).mono ?_)); rintro e w' ⟨rfl, rfl⟩)
  go_ret
  exact ⟨rfl, rfl⟩
set_option maxHeartbeats 800000 in
theorem slim9_num {x y : Nat} {s t : Bool} {m n : Nat} {i j : Int} (h : FloatKind.f32.format.read x = .number s m i) (g : FloatKind.f32.format.read y = .number t n j) (w : World) : Calls Tryz.prog 26 #[.complex .f32 x y, .complex .f32 x y] w fun e w' => e = .returned (.bool true) ∧ w = w' := by
  have hc := conv_cc 43 (by rw [Tryz.underlying43]; rfl) h g
  obtain ⟨h1, h2, h3⟩ := read_fin_f32 h
  obtain ⟨g1, g2, g3⟩ := read_fin_f32 g
  have HW := Lib.hid (wide9_fin (fw s m i) (fw t n j) (fw_lt _ _ _) (fw_lt _ _ _) (isF_fw s (Fit.of (by omega) (by omega) (by omega))) (isF_fw t (Fit.of (by omega) (by omega) (by omega))))
  obtain ⟨X, hX⟩ : ∃ X, fw s m i = X := ⟨_, rfl⟩
  obtain ⟨Y, hY⟩ : ∃ Y, fw t n j = Y := ⟨_, rfl⟩
  rw [hX, hY] at HW hc
  clear h g hX hY h1 h2 h3 g1 g2 g3
  go_enter Tryz.func26, Tryz.ntmps26
  go_wp2_with fail
  refine (HW.out _).mono ?_
  rintro e w1 ⟨rfl, rfl⟩
  go_wp2_with fail
  go_ret
  exact ⟨rfl, rfl⟩

/-- The root of the square of a small whole number. -/
theorem root_square {k : Nat} (hk : k < 90000001) : floatBits .mul .f64 (floatOfInt .f64 (k : Int)) (floatOfInt .f64 (k : Int)) = some (fw false (k * k) 0) ∧ rtF (fw false (k * k) 0) = (floatOfInt .f64 (k : Int), 0) ∧ isF .f64 (floatOfInt .f64 (k : Int)) = true ∧ fw false (k * k) 0 < 2 ^ 64 := by
  have hk53 : k < 2 ^ 53 := by omega
  have hkk : k * k < 2 ^ 53 := by
    have h1 : k * k ≤ 90000000 * 90000000 := Nat.mul_le_mul (by omega) (by omega)
    omega
  have hF : Fit k 0 := Fit.of hk53 (by omega) (by omega)
  have hG : Fit (k * k) 0 := Fit.of hkk (by omega) (by omega)
  have e1 : floatOfInt .f64 (k : Int) = fw false k 0 := by
    rw [ofInt_fw, Int.natAbs_natCast, show decide ((k : Int) < 0) = false from decide_eq_false (by omega)]
  rw [e1]
  refine ⟨?_, ?_, isF_fw false hF, fw_lt _ _ _⟩
  · have := mul_fw false false hF hF
    exact this
  · rw [rtF_yes (isF_fw false hG) (by rw [lt0_fw false hG]; rfl)]
    congr 1
    by_cases h0 : k = 0
    · subst h0
      unfold sq
      rw [Nat.zero_mul, sqrt_zero]
      rfl
    · have hkk0 : k * k ≠ 0 := Nat.mul_ne_zero h0 h0
      obtain ⟨c, r, e, g1, g2, g3, _⟩ := sqrt_fw hG hkk0
      have h4 : sq (fw false (k * k) 0) = fw false (stk (k * k * 2 ^ c) r) (e - 1) := by unfold sq; rw [g1]; rfl
      obtain ⟨t, ht⟩ : ∃ t : Nat, c = 2 * t := ⟨c / 2, by omega⟩
      subst ht
      have hr : r = k * 2 ^ t := by
        have e2 := sq_pow k t
        rw [← e2] at g3
        have a1 := sq_lt (Nat.lt_of_le_of_lt (Nat.le_refl _) g3.2)
        have a2 : ¬ k * 2 ^ t < r := fun hl => by
          have := Nat.mul_lt_mul_of_lt_of_le hl (Nat.le_of_lt hl) (by omega)
          have := g3.1
          omega
        omega
      rw [h4, hr, stk_eq (sq_pow k t), show 2 * (k * 2 ^ t) = k * 2 ^ (t + 1) by rw [Nat.pow_succ, Nat.mul_comm 2, Nat.mul_assoc]]
      have h5 := fw_shift false k 0 (t + 1)
      rw [show (0 : Int) - ((t + 1 : Nat) : Int) = e - 1 by omega] at h5
      exact h5
/-- Words of at least 0 in their order. -/
theorem nn_lt {x y : Nat} (hx : NN x) (hy : NN y) : (FloatKind.f64.format.order x y == some .lt) = decide (x < y) ∧ (FloatKind.f64.format.order x y == some .gt) = decide (y < x) := by
  have h1 : FloatKind.f64.format.order x y = some (if x < y then .lt else if x = y then .eq else .gt) := by
    have := order_word (r := x) (t := y) hx hy
    rw [word_f, word_f] at this
    exact this
  rw [h1]
  by_cases a : x < y
  · rw [if_pos a, decide_eq_true a, decide_eq_false (by omega)]; exact ⟨rfl, rfl⟩
  · rw [if_neg a, decide_eq_false a]
    by_cases b : x = y
    · rw [if_pos b, decide_eq_false (by omega)]; exact ⟨rfl, rfl⟩
    · rw [if_neg b, decide_eq_true (by omega)]; exact ⟨rfl, rfl⟩
/-- The modulus, the larger part and the size. -/
theorem mod_between {x y : Nat} (hx : x < 2 ^ 64) (hy : y < 2 ^ 64) (fx : isF .f64 x = true) (fy : isF .f64 y = true) (hM : isF .f64 (moN x y) = true) :
    (FloatKind.f64.format.order (moN x y) (max (ab x) (ab y)) == some .lt) = false ∧ ∃ c : Int, sizeR x y = (if c = 0 then cf .add .f64 (ab x) (ab y) else 0, c) ∧ (c = 0 → (FloatKind.f64.format.order (moN x y) (cf .add .f64 (ab x) (ab y)) == some .gt) = false) := by
  obtain ⟨s, m, i, ex, hF, _⟩ := fin_fw hx fx
  obtain ⟨s', n, j, ey, hG, _⟩ := fin_fw hy fy
  have eA : ab x = fw false m i := by rw [ex]; exact abs_fw s m i
  have eB : ab y = fw false n j := by rw [ey]; exact abs_fw s' n j
  have nA : NN (ab x) := by rw [eA]; exact nn_fw _ _
  have nB : NN (ab y) := by rw [eB]; exact nn_fw _ _
  have fA : isF .f64 (ab x) = true := by rw [eA]; exact isF_fw false hF
  have fB : isF .f64 (ab y) = true := by rw [eB]; exact isF_fw false hG
  have mA : mg (ab x) = mg x := mg_abs hx fx
  have mB : mg (ab y) = mg y := mg_abs hy fy
  have nM : NN (moN x y) := nn_fw _ _
  have eM : moN x y = rungOf (stk ((mg x * mg x + mg y * mg y) * 2 ^ 108) (rootN ((mg x * mg x + mg y * mg y) * 2 ^ 108))) (-1129) := fw_f _ _
  have lA : ab x ≤ moN x y := by
    rw [nn_units nA fA, mA, eM]
    have h1 := rtI_ge (N := mg x * mg x + mg y * mg y) (A := mg x) (by omega)
    exact Nat.le_min.2 ⟨Nat.le_trans (Nat.min_le_left _ _) h1, Nat.min_le_right _ _⟩
  have lB : ab y ≤ moN x y := by
    rw [nn_units nB fB, mB, eM]
    have h1 := rtI_ge (N := mg x * mg x + mg y * mg y) (A := mg y) (by omega)
    exact Nat.le_min.2 ⟨Nat.le_trans (Nat.min_le_left _ _) h1, Nat.min_le_right _ _⟩
  have nX : NN (max (ab x) (ab y)) := by unfold NN at *; omega
  refine ⟨by rw [(nn_lt nM nX).1]; exact decide_eq_false (by omega), ?_⟩
  obtain ⟨S, a1, a2⟩ := add_nn nA nB fA fB
  have ecf : cf .add .f64 (ab x) (ab y) = S := by unfold cf; rw [a1]; rfl
  have hfc : finC x y = true := by unfold finC; rw [fx, fy]; rfl
  rw [ecf]
  cases hS : isF .f64 S
  · refine ⟨3, ?_, fun h => by omega⟩
    unfold sizeR fitR
    rw [if_pos hfc, ecf, if_neg (by rw [hS]; decide)]
    rfl
  · refine ⟨0, ?_, fun _ => ?_⟩
    · unfold sizeR fitR
      rw [if_pos hfc, ecf, if_pos hS]
      rfl
    · rw [(nn_lt nM a2).2]
      refine decide_eq_false ?_
      have h2 := add_units nA nB fA fB a1
      rw [mA, mB] at h2
      have h3 := rtI_le2 (N := mg x * mg x + mg y * mg y) (C := mg x + mg y) (by
        rw [Nat.add_mul, Nat.mul_add, Nat.mul_add]; omega)
      have h4 : moN x y ≤ S := by
        rw [eM, h2]
        exact Nat.le_min.2 ⟨Nat.le_trans (Nat.min_le_left _ _) h3, Nat.min_le_right _ _⟩
      omega
theorem rcR_parts {x y : Nat} (hx : x < 2 ^ 64) (hy : y < 2 ^ 64) : (rcR x y).1 < 2 ^ 64 ∧ (rcR x y).2.1 < 2 ^ 64 ∧ isF .f64 (rcR x y).1 = true ∧ isF .f64 (rcR x y).2.1 = true ∧ (FloatKind.f64.format.order (rcR x y).1 0 == some .lt) = false := by
  have h00 : (FloatKind.f64.format.order 0 0 == some .lt) = false := by decide +kernel
  unfold rcR
  split
  · rename_i hf
    obtain ⟨fx, fy⟩ := both_yes (show (isF .f64 x && isF .f64 y) = true from hf)
    split
    · exact ⟨by decide, by decide, isF_0, isF_0, h00⟩
    · split
      · rename_i ho
        have ho' := ho
        unfold rcOk at ho'
        simp only [Bool.and_eq_true, Bool.not_eq_true', decide_eq_false_iff_not] at ho'
        obtain ⟨⟨⟨o1, o2⟩, o3⟩, o4⟩ := ho'
        obtain ⟨A, B, S, h, t, u, c⟩ := chain hx hy fx fy o1
        rw [c.eS] at o2
        rw [c.eT] at o3
        have ft := (c.fin o2).2
        obtain ⟨q, _, nq, e3⟩ := c.q0 o3
        have hfr := fin_re_im x y
        rw [c.eT, ft, o4] at hfr
        obtain ⟨f1, f2⟩ := both_yes (show (isF .f64 (rcRe x y) && isF .f64 (rcIm x y)) = true from hfr)
        have nre : NN (rcRe x y) := by
          unfold rcRe
          rw [c.eT, e3]
          split
          · exact nq
          · exact c.nt
        have nin : NN (rcIn x y) := by
          unfold rcIn
          rw [c.eT, e3]
          split
          · exact c.nt
          · exact nq
        refine ⟨nre.lt, ?_, f1, f2, ?_⟩
        · unfold rcIm
          split
          · exact neg_lt nin.lt
          · exact nin.lt
        · rw [(nn_lt nre (show NN 0 by unfold NN; omega)).1]
          exact decide_eq_false (by omega)
      · exact ⟨by decide, by decide, isF_0, isF_0, h00⟩
  · exact ⟨by decide, by decide, isF_0, isF_0, h00⟩
end Go.Proofs.YtgppagmejhgmaaaGreatDoor
