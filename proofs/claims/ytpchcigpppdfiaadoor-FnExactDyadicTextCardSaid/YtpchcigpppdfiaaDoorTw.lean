/-
  Contracts: WholeText, of the program and of the model. Conditions: the limbs can be read, the listed table of powers of 10.
-/
import Derived.Test.YtpchcigpppdfiaaDoorTv
import Derived.Test.YtpchcigpppdfiaaDoorUd
namespace Go.Proofs.YtpchcigpppdfiaaDoor
set_option linter.unusedVariables false
open Go Go.RowKit

theorem Pows.at_ {B : Nat} {w W : World} (h : Pows B w) (hb : Below B w W) (hB : B ≤ W.heap.size) : Pows W.heap.size W := fun w' hb' => h w' (hb.trans (hb'.mono hB))

set_option maxHeartbeats 2000000 in
theorem iWText (s : Int) (a : Option Addr) (m c : Nat) (w : World) (B : Nat) (hB : B ≤ w.heap.size) (hx : Ints w B a (lim m)) (hl : (lim m).length ≤ 200) (hp : Pows w.heap.size w) :
    Calls Tryd.prog 37 #[.agg #[.int .i64 s, .slice a (lim m).length c]] w (RetB (.string (btx (wtx s m))) w) := by
  obtain ⟨W0, hW0⟩ : ∃ W0 : World, w.alloc (.cells #[.int .i64 s, .slice a (lim m).length c] 26) = W0 := ⟨_, rfl⟩
  obtain ⟨p1, p3, p4⟩ := one_box w 26 #[.int .i64 s, .slice a (lim m).length c]
  rw [hW0] at p1 p3 p4
  have HW0 := Lib.hid hW0
  have P3 := Lib.hid p3
  have P4 := Lib.hid p4
  obtain ⟨k1, k2, k3, k4⟩ := p1.two
  have HS := Lib.hid (iSize s a (lim m).length c W0)
  have HT := Lib.hid (show ∀ W, Below W0.heap.size W0 W → Calls Tryd.prog 77 #[.slice a (lim m).length c] W (RetB (.string (btx (decT m))) W) from fun W hW =>
    iMagText a m c W ((hx.below ((p3.mono hB).trans (hW.mono (by omega)))).more (by have := hW.size; omega)) hl (hp.at_ (p3.trans (hW.mono (by omega))) (by have := hW.size; omega)))
  have hsz : (btx (decT m)).size = nd m := by rw [btx_size, decT_length]
  have hnd := nd_lim hl
  have hno : ¬ (9223372036854775807 < 1 + nd m) := by omega
  have hcat := btx_cons 45 (decT m)
  clear p1 p3 p4 hx hW0 hB hl hp hnd
  by_cases hs : s < 0
  · rw [show wtx s m = 45 :: decT m from by unfold wtx; rw [if_pos hs]]
    go_enter Tryd.func37, Tryd.ntmps37
    go_wp2_with fail
    rw [HW0.out]
    go_wp2_with fail
    refine HS.out.mono ?_
    rintro e w2 ⟨rfl, hb2⟩
    go_wp2_with fail
    refine (HT.out _ hb2).mono ?_
    rintro e w3 ⟨rfl, hb3⟩
    have HEND := Lib.hid (P3.out.trans ((hb2.trans (hb3.mono hb2.size)).mono (by have := P4.out; omega)))
    clear hb2 hb3
    go_wp2_with fail
    go_ret
    exact ⟨rfl, HEND.out⟩
  · rw [show wtx s m = decT m from by unfold wtx; rw [if_neg hs]]
    have hs' : decide (s < 0) = false := decide_eq_false hs
    go_enter Tryd.func37, Tryd.ntmps37
    go_wp2_with fail
    rw [HW0.out]
    go_wp2_with fail
    refine HS.out.mono ?_
    rintro e w2 ⟨rfl, hb2⟩
    go_wp2_with fail
    refine (HT.out _ hb2).mono ?_
    rintro e w3 ⟨rfl, hb3⟩
    have HEND := Lib.hid (P3.out.trans ((hb2.trans (hb3.mono hb2.size)).mono (by have := P4.out; omega)))
    clear hb2 hb3
    go_wp2_with fail
    go_ret
    exact ⟨rfl, HEND.out⟩

noncomputable def txtR (s : Int) (xs : List Int) : ByteArray × Int := @ite _ (IsWh s xs) (Classical.propDecidable _) (btx (wtx s (val (xs.map Int.toNat))), 0) ({ data := #[] }, 1)
theorem txtR_yes {s : Int} {xs : List Int} (h : IsWh s xs) : txtR s xs = (btx (wtx s (val (xs.map Int.toNat))), 0) := by unfold txtR; rw [if_pos h]
theorem txtR_no {s : Int} {xs : List Int} (h : ¬ IsWh s xs) : txtR s xs = ({ data := #[] }, 1) := by unfold txtR; rw [if_neg h]

set_option maxHeartbeats 2000000 in
theorem iWholeText (s : Int) (a : Option Addr) (xs : List Int) (c1 : Nat) (w : World) (B : Nat) (hB : B ≤ w.heap.size) (hx : Ints w B a xs) (hl : xs.length ≤ 9223372036854775807) (hp : Pows w.heap.size w) :
    Calls Tryd.prog 9 #[.agg #[.int .i64 s, .slice a xs.length c1]] w (RetB (.tuple #[.string (txtR s xs).1, .int .i64 (txtR s xs).2]) w) := by
  obtain ⟨W0, hW0⟩ : ∃ W0 : World, w.alloc (.cells #[.int .i64 s, .slice a xs.length c1] 26) = W0 := ⟨_, rfl⟩
  obtain ⟨p1, p3, p4⟩ := one_box w 26 #[.int .i64 s, .slice a xs.length c1]
  rw [hW0] at p1 p3 p4
  have HW0 := Lib.hid hW0
  have P3 := Lib.hid p3
  have P4 := Lib.hid p4
  have SS := Lib.hid (show ∀ W, Below W0.heap.size W0 W → (W.cell? ⟨w.heap.size, 0, none⟩ = some (.int .i64 s) ∧ W.cell? ⟨w.heap.size, 1, none⟩ = some (.slice a xs.length c1)) from
    fun W hW => ⟨(p1.below hW).cell 0, (p1.below hW).cell 1⟩)
  have IX := Lib.hid (show ∀ W, Below W0.heap.size W0 W → Ints W B a xs ∧ B ≤ W.heap.size from fun W hW => ⟨hx.below ((p3.mono hB).trans (hW.mono (by omega))), by have := hW.size; omega⟩)
  have hT : Below W0.heap.size W0 W0 := Below.refl _ _
  have HEND := Lib.hid (show ∀ v W, Below W0.heap.size W0 W → RetB v w (.returned v) W from fun v W hW => ⟨rfl, P3.out.trans (hW.mono (by omega))⟩)
  have HI1 := Lib.hid (show ∀ W, Below W0.heap.size W0 W → Calls Tryd.prog 36 #[.agg #[.int .i64 s, .slice a xs.length c1]] W fun e w' => e = .returned (.bool (whB s xs)) ∧ Below W0.heap.size W0 w' from
    fun W hW => (iIsWhole s a xs c1 W B (IX.out W hW).2 hl (IX.out W hW).1).mono fun e w' ⟨he, hb⟩ => ⟨he, hW.trans (hb.mono hW.size)⟩)
  cases h1 : whB s xs
  · rw [txtR_no (fun h => by rw [whB_iff.2 h] at h1; cases h1)]
    rw [h1] at HI1
    clear p1 p3 p4 hx hW0 hB h1 hl IX hp
    go_enter Tryd.func9, Tryd.ntmps9
    go_wp2_with fail
    rw [HW0.out]
    refine (HI1.out _ hT).mono ?_
    rintro e w1 ⟨rfl, hb⟩
    obtain ⟨k1, k2⟩ := SS.out _ hb
    go_wp2_with fail
    go_ret2
    exact HEND.out _ _ hb
  · have e1 := Lib.hid (whB_iff.1 h1)
    rw [h1] at HI1
    clear h1
    rw [txtR_yes e1.out]
    obtain ⟨m, rfl, hm, sm⟩ := isWh_of e1.out
    rw [val_lim]
    have HP := Lib.hid (show ∀ W, Below W0.heap.size W0 W → Calls Tryd.prog 37 #[.agg #[.int .i64 s, .slice a (lim m).length c1]] W fun e w' => e = .returned (.string (btx (wtx s m))) ∧ Below W0.heap.size W0 w' from
      fun W hW => (iWText s a m c1 W B (IX.out W hW).2 (IX.out W hW).1 hm (hp.at_ (P3.out.trans (hW.mono (by omega))) (by have := hW.size; omega))).mono fun e w' ⟨he, hb⟩ => ⟨he, hW.trans (hb.mono hW.size)⟩)
    obtain ⟨q, hq⟩ : ∃ q, q = btx (wtx s m) := ⟨_, rfl⟩
    rw [← hq] at HP ⊢
    clear p1 p3 p4 hx hW0 hB hl IX sm hm e1 hq hp
    go_enter Tryd.func9, Tryd.ntmps9
    go_wp2_with fail
    rw [HW0.out]
    refine (HI1.out _ hT).mono ?_
    rintro e w1 ⟨rfl, hb⟩
    obtain ⟨k1, k2⟩ := SS.out _ hb
    go_wp2_with fail
    refine (HP.out _ hb).mono ?_
    rintro e w3 ⟨rfl, hb3⟩
    go_wp2_with fail
    go_ret2
    exact HEND.out _ _ hb3

set_option maxHeartbeats 2000000 in
theorem sWholeText (s : Int) (a : Option Addr) (xs : List Int) (c1 : Nat) (w : World) (B : Nat) (hB : B ≤ w.heap.size) (hx : Ints w B a xs) (hl : xs.length ≤ 9223372036854775807) :
    Calls Tryd.prog 10 #[.agg #[.int .i64 s, .slice a xs.length c1]] w (RetB (.tuple #[.string (txtR s xs).1, .int .i64 (txtR s xs).2]) w) := by
  obtain ⟨W0, hW0⟩ : ∃ W0 : World, w.alloc (.cells #[.int .i64 s, .slice a xs.length c1] 26) = W0 := ⟨_, rfl⟩
  obtain ⟨p1, p3, p4⟩ := one_box w 26 #[.int .i64 s, .slice a xs.length c1]
  rw [hW0] at p1 p3 p4
  have HW0 := Lib.hid hW0
  have P3 := Lib.hid p3
  have P4 := Lib.hid p4
  have SS := Lib.hid (show ∀ W, Below W0.heap.size W0 W → (W.cell? ⟨w.heap.size, 0, none⟩ = some (.int .i64 s) ∧ W.cell? ⟨w.heap.size, 1, none⟩ = some (.slice a xs.length c1)) from
    fun W hW => ⟨(p1.below hW).cell 0, (p1.below hW).cell 1⟩)
  have IX := Lib.hid (show ∀ W, Below W0.heap.size W0 W → Ints W B a xs ∧ B ≤ W.heap.size from fun W hW => ⟨hx.below ((p3.mono hB).trans (hW.mono (by omega))), by have := hW.size; omega⟩)
  have hT : Below W0.heap.size W0 W0 := Below.refl _ _
  have HEND := Lib.hid (show ∀ v W, Below W0.heap.size W0 W → RetB v w (.returned v) W from fun v W hW => ⟨rfl, P3.out.trans (hW.mono (by omega))⟩)
  have HI1 := Lib.hid (show ∀ W, Below W0.heap.size W0 W → Calls Tryd.prog 38 #[.agg #[.int .i64 s, .slice a xs.length c1]] W fun e w' => e = .returned (.bool (whB s xs)) ∧ Below W0.heap.size W0 w' from
    fun W hW => (sIs s a xs c1 W B (IX.out W hW).2 hl (IX.out W hW).1).mono fun e w' ⟨he, hb⟩ => ⟨he, hW.trans (hb.mono hW.size)⟩)
  cases h1 : whB s xs
  · rw [txtR_no (fun h => by rw [whB_iff.2 h] at h1; cases h1)]
    rw [h1] at HI1
    clear p1 p3 p4 hx hW0 hB h1 hl IX
    go_enter Tryd.func10, Tryd.ntmps10
    go_wp2_with fail
    rw [HW0.out]
    refine (HI1.out _ hT).mono ?_
    rintro e w1 ⟨rfl, hb⟩
    obtain ⟨k1, k2⟩ := SS.out _ hb
    go_wp2_with fail
    go_ret2
    exact HEND.out _ _ hb
  · have e1 := Lib.hid (whB_iff.1 h1)
    rw [h1] at HI1
    clear h1
    rw [txtR_yes e1.out]
    obtain ⟨m, rfl, hm, sm⟩ := isWh_of e1.out
    rw [val_lim]
    have HP := Lib.hid (show ∀ W, Below W0.heap.size W0 W → Calls Tryd.prog 39 #[.agg #[.int .i64 s, .slice a (lim m).length c1]] W fun e w' => e = .returned (.string (btx (wtx s m))) ∧ Below W0.heap.size W0 w' from
      fun W hW => (sText s a m c1 W B (IX.out W hW).2 (IX.out W hW).1 sm hm).mono fun e w' ⟨he, hb⟩ => ⟨he, hW.trans (hb.mono hW.size)⟩)
    obtain ⟨q, hq⟩ : ∃ q, q = btx (wtx s m) := ⟨_, rfl⟩
    rw [← hq] at HP ⊢
    clear p1 p3 p4 hx hW0 hB hl IX sm hm e1 hq
    go_enter Tryd.func10, Tryd.ntmps10
    go_wp2_with fail
    rw [HW0.out]
    refine (HI1.out _ hT).mono ?_
    rintro e w1 ⟨rfl, hb⟩
    obtain ⟨k1, k2⟩ := SS.out _ hb
    go_wp2_with fail
    refine (HP.out _ hb).mono ?_
    rintro e w3 ⟨rfl, hb3⟩
    go_wp2_with fail
    go_ret2
    exact HEND.out _ _ hb3
end Go.Proofs.YtpchcigpppdfiaaDoor
