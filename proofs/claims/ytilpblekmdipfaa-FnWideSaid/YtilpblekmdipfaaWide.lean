/-
  The walk of laws.FnWide: for every code it returns true and writes nothing that was there. No conditions.
-/
import Derived.Test.YtilpblekmdipfaaSg
import Derived.Test.YtilpblekmdipfaaFm
namespace Go.Proofs.Ytilpblekmdipfaa
open Go Go.RowKit

theorem Code8.later {B : Nat} {a : Option Addr} {len : Nat} {w W : World} (h : Code8 B a len w) (hb : Below B w W) (hB : B ≤ W.heap.size) : Code8 W.heap.size a len W := by
  intro i hi
  obtain ⟨c, o, u, ha, hc, hu, hcell⟩ := h i hi
  exact ⟨c, o, u, ha, by omega, hu, by rw [hb.cell (p := ⟨c, o + i, none⟩) hc]; exact hcell⟩
theorem _root_.Go.RowKit.Below.trans' {B : Nat} {a b c : World} (h : Below B b c) (k : Below B a b) : Below B a c := k.trans h
theorem TwoC.mono {B B' : Nat} (hB : B ≤ B') {w : World} {e : Ending} {w' : World} (h : TwoC B' w e w') : TwoC B w e w' := by
  obtain ⟨x, y, z, u, h1, h2, he, hb⟩ := h
  exact ⟨x, y, z, u, h1, h2, he, hb.mono hB⟩

set_option maxHeartbeats 400000 in
theorem drawMul (a : Option Addr) (len cap : Nat) (w : World) (hlen : len ≤ 9223372036854775807) (hcode : Code8 w.heap.size a len w) :
    Calls Try.prog 7 #[.slice a len cap] w (TwoC w.heap.size w) := by
  have H := fun (W : World) (h : Code8 W.heap.size a len W) => two_any a len cap W hlen h
  have HC := Lib.hid hcode
  have HH := Lib.hid H
  clear hcode H hlen
  go_enter Try.func7, Try.ntmps7
  go_wp2_with (go_at_call 54; refine (HH.out _ HC.out).mono ?_; rintro e w' ⟨x, y, z, u, h1, h2, rfl, hb⟩)
  go_ret2
  exact ⟨x, y, z, u, h1, h2, rfl, hb⟩
set_option maxHeartbeats 400000 in
theorem drawDiv (a : Option Addr) (len cap : Nat) (w : World) (hlen : len ≤ 9223372036854775807) (hcode : Code8 w.heap.size a len w) :
    Calls Try.prog 17 #[.slice a len cap] w (TwoC w.heap.size w) := by
  have H := fun (W : World) (h : Code8 W.heap.size a len W) => two_any a len cap W hlen h
  have HC := Lib.hid hcode
  have HH := Lib.hid H
  clear hcode H hlen
  go_enter Try.func17, Try.ntmps17
  go_wp2_with (go_at_call 54; refine (HH.out _ HC.out).mono ?_; rintro e w' ⟨x, y, z, u, h1, h2, rfl, hb⟩)
  go_ret2
  exact ⟨x, y, z, u, h1, h2, rfl, hb⟩

theorem sIsFin (a b : Nat) (w : World) : Calls Try.prog 16 #[.complex .f64 a b] w (Ret (.bool (finC a b)) w) := sIsFinite_any a b w

/-- What the law asks, in one word. -/
def LawDone (w : World) (e : Ending) (w' : World) : Prop := e = .returned (.bool true) ∧ Below w.heap.size w w'

set_option maxRecDepth 100000 in
set_option maxHeartbeats 1000000 in
theorem wide_walk (a : Option Addr) (len cap : Nat) (w : World) (hlen : len ≤ 9223372036854775807) (hcode : Code8 w.heap.size a len w) :
    Calls Try.prog 3 #[.slice a len cap] w (LawDone w) := by
  by_cases hbig : 4096 < (len : Int)
  · clear hcode hlen
    go_enter Try.func3, Try.ntmps3
    go_wp2_with (go_at_call 6; refine (big_yes _ _ _ hbig _).mono ?_; rintro e w' ⟨rfl, rfl⟩)
    go_ret
    exact ⟨rfl, Below.refl _ _⟩
  have HL := Lib.hid hlen
  have HC := Lib.hid hcode
  have hsm : (len : Int) ≤ 4096 := by omega
  clear hlen hcode hbig
  obtain ⟨B, hB⟩ : ∃ B, B = w.heap.size := ⟨_, rfl⟩
  have HB := Lib.hid hB
  unfold LawDone
  rw [← hB] at HC ⊢
  clear hB
  go_enter Try.func3, Try.ntmps3
  go_wp2_with (first | (go_at_call 6; refine (big_any _ _ _ hsm _).mono ?_; rintro e w' ⟨rfl, rfl⟩) | fail)
  have h0 := drawMul a len cap w HL.out (by rw [← HB.out]; exact HC.out)
  rw [← HB.out] at h0
  refine h0.mono ?_
  clear h0
  rintro e w1 ⟨x, y, z, u, _, _, rfl, hb1⟩
  have B1 := Lib.hid hb1
  clear hb1
  obtain ⟨s1, s2, sc, hs⟩ : ∃ s1 s2 sc, addR x y z u = (s1, s2, sc) := ⟨_, _, _, rfl⟩
  obtain ⟨p1, p2, pc, hp⟩ : ∃ s1 s2 sc, mulR x y z u = (s1, s2, sc) := ⟨_, _, _, rfl⟩
  obtain ⟨m1, m2, mc, hm⟩ : ∃ s1 s2 sc, subR x y z u = (s1, s2, sc) := ⟨_, _, _, rfl⟩
  have A1 := Lib.hid fun W => (show Calls Try.prog 8 #[.complex .f64 x y, .complex .f64 z u] W (Ret (pairV (s1, s2, sc)) W) from hs ▸ iAdd x y z u W)
  have A2 := Lib.hid fun W => (show Calls Try.prog 9 #[.complex .f64 x y, .complex .f64 z u] W (Ret (pairV (s1, s2, sc)) W) from hs ▸ sAdd x y z u W)
  have A3 := Lib.hid fun W => (show Calls Try.prog 8 #[.complex .f64 z u, .complex .f64 x y] W (Ret (pairV (s1, s2, sc)) W) from hs ▸ addR_comm z u x y ▸ iAdd z u x y W)
  have A4 := Lib.hid fun W => (show Calls Try.prog 8 #[.complex .f64 x y, .complex .f64 (Op.negFloat .f64 z) (Op.negFloat .f64 u)] W (Ret (pairV (m1, m2, mc)) W) from hm ▸ subR_neg x y z u ▸ iAdd x y _ _ W)
  have M1 := Lib.hid fun W => (show Calls Try.prog 10 #[.complex .f64 x y, .complex .f64 z u] W (Ret (pairV (p1, p2, pc)) W) from hp ▸ iMul x y z u W)
  have M2 := Lib.hid fun W => (show Calls Try.prog 11 #[.complex .f64 x y, .complex .f64 z u] W (Ret (pairV (p1, p2, pc)) W) from hp ▸ sMul x y z u W)
  have M3 := Lib.hid fun W => (show Calls Try.prog 10 #[.complex .f64 z u, .complex .f64 x y] W (Ret (pairV (p1, p2, pc)) W) from hp ▸ mulR_comm z u x y ▸ iMul z u x y W)
  have D1 := Lib.hid fun W => (show Calls Try.prog 12 #[.complex .f64 x y, .complex .f64 z u] W (Ret (pairV (m1, m2, mc)) W) from hm ▸ iSub x y z u W)
  have D2 := Lib.hid fun W => (show Calls Try.prog 13 #[.complex .f64 x y, .complex .f64 z u] W (Ret (pairV (m1, m2, mc)) W) from hm ▸ sSub x y z u W)
  have fs := addR_fin x y z u
  have fp := mulR_fin x y z u
  have fm := subR_fin x y z u
  rw [hs] at fs
  rw [hp] at fp
  rw [hm] at fm
  have S1 := Lib.hid fun W => same5_same s1 s2 fs W
  have S2 := Lib.hid fun W => same5_same p1 p2 fp W
  have S3 := Lib.hid fun W => same5_same m1 m2 fm W
  have om1 := order_self (isF_not_isN (finC_split fm).1)
  have om2 := order_self (isF_not_isN (finC_split fm).2)
  clear fs fp fm hs hp hm
  go_wp2_with (first | (go_at_call 8; (first | (with_reducible refine (A1.out _).mono ?_) | (with_reducible refine (A3.out _).mono ?_) | (with_reducible refine (A4.out _).mono ?_)); rintro e w' ⟨_, rfl, rfl⟩) | (go_at_call 9; (first | (with_reducible refine (A2.out _).mono ?_)); rintro e w' ⟨_, rfl, rfl⟩) | (go_at_call 10; (first | (with_reducible refine (M1.out _).mono ?_) | (with_reducible refine (M3.out _).mono ?_)); rintro e w' ⟨_, rfl, rfl⟩) | (go_at_call 11; (first | (with_reducible refine (M2.out _).mono ?_)); rintro e w' ⟨_, rfl, rfl⟩) | (go_at_call 12; (first | (with_reducible refine (D1.out _).mono ?_)); rintro e w' ⟨_, rfl, rfl⟩) | (go_at_call 13; (first | (with_reducible refine (D2.out _).mono ?_)); rintro e w' ⟨_, rfl, rfl⟩) | (go_at_call 14; (first | (with_reducible refine (S1.out _).mono ?_) | (with_reducible refine (S2.out _).mono ?_) | (with_reducible refine (S3.out _).mono ?_)); rintro e w' ⟨_, rfl, rfl⟩) | (go_at_call 15; refine (iFin _ _ _).mono ?_; rintro e w' ⟨rfl, rfl⟩) | (go_at_call 16; refine (sIsFin _ _ _).mono ?_; rintro e w' ⟨_, rfl, rfl⟩))
  all_goals
    clear A1 A2 A3 A4 M1 M2 M3 D1 D2 S1 S2 S3 om1 om2
    refine (drawDiv a len cap _ HL.out (HC.out.later (Joins.below_draws B _ _ |>.trans' B1.out) (by have := B1.out.size; rw [HB.out]; exact this))).mono ?_
    rintro e w2 ⟨x', y', z', u', _, _, rfl, hb2⟩
    have B2 := Lib.hid hb2
    clear hb2
    obtain ⟨q1, q2, qc, hq⟩ : ∃ s1 s2 sc, quoR x' y' z' u' = (s1, s2, sc) := ⟨_, _, _, rfl⟩
    obtain ⟨t1, t2, tc, ht⟩ : ∃ s1 s2 sc, quoR x' y' x' y' = (s1, s2, sc) := ⟨_, _, _, rfl⟩
    have Q1 := Lib.hid fun W => (show Calls Try.prog 18 #[.complex .f64 x' y', .complex .f64 z' u'] W (Ret (pairV (q1, q2, qc)) W) from hq ▸ iQuo x' y' z' u' W)
    have Q2 := Lib.hid fun W => (show Calls Try.prog 19 #[.complex .f64 x' y', .complex .f64 z' u'] W (Ret (pairV (q1, q2, qc)) W) from hq ▸ sQuo x' y' z' u' W)
    have Q3 := Lib.hid fun W => (show Calls Try.prog 18 #[.complex .f64 x' y', .complex .f64 x' y'] W (Ret (pairV (t1, t2, tc)) W) from ht ▸ iQuo x' y' x' y' W)
    have fq := quoR_fin x' y' z' u'
    rw [hq] at fq
    have S1 := Lib.hid fun W => same5_same q1 q2 fq W
    have hself := quo_self x' y'
    rw [ht] at hself
    have HS := Lib.hid hself
    clear fq hq ht hself
    rcases HS.out with h1 | h1
    · have h2 : (tc != 0) = true := by simpa using h1
      clear h1 HS
      go_wp2_with (first | (go_at_call 18; (first | (with_reducible refine (Q1.out _).mono ?_) | (with_reducible refine (Q3.out _).mono ?_)); rintro e w' ⟨_, rfl, rfl⟩) | (go_at_call 19; (first | (with_reducible refine (Q2.out _).mono ?_)); rintro e w' ⟨_, rfl, rfl⟩) | (go_at_call 14; (first | (with_reducible refine (S1.out _).mono ?_)); rintro e w' ⟨_, rfl, rfl⟩))
      all_goals
        go_ret
        exact ⟨rfl, B1.out.trans ((Joins.below_draws B _ _).trans ((B2.out.mono (by have := B1.out.size; rw [HB.out]; exact this)).trans (Joins.below_draws B _ _)))⟩
    · simp only at h1
      subst h1
      have h2 : (FloatKind.f64.format.order 4607182418800017408 4607182418800017408 == some .eq) = true := by decide +kernel
      clear HS
      go_wp2_with (first | (go_at_call 18; (first | (with_reducible refine (Q1.out _).mono ?_) | (with_reducible refine (Q3.out _).mono ?_)); rintro e w' ⟨_, rfl, rfl⟩) | (go_at_call 19; (first | (with_reducible refine (Q2.out _).mono ?_)); rintro e w' ⟨_, rfl, rfl⟩) | (go_at_call 14; (first | (with_reducible refine (S1.out _).mono ?_)); rintro e w' ⟨_, rfl, rfl⟩))
      all_goals
        go_ret
        exact ⟨rfl, B1.out.trans ((Joins.below_draws B _ _).trans ((B2.out.mono (by have := B1.out.size; rw [HB.out]; exact this)).trans (Joins.below_draws B _ _)))⟩
end Go.Proofs.Ytilpblekmdipfaa
