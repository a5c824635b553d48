/-
  The walk of laws.FnWide: for every code it returns true and writes nothing that was there. No conditions.
-/
import Derived.Test.YtpchcigpppdfiaaSg
import Derived.Test.YtpchcigpppdfiaaFm
namespace Go.Proofs.Ytpchcigpppdfiaa
set_option linter.unusedVariables false
open Go Go.RowKit

theorem Code8.later {B : Nat} {a : Option Addr} {len : Nat} {w W : World} (h : Code8 B a len w) (hb : Below B w W) (hB : B ≤ W.heap.size) : Code8 W.heap.size a len W := by
  intro i hi
  obtain ⟨c, o, u, ha, hc, hu, hcell⟩ := h i hi
  exact ⟨c, o, u, ha, by omega, hu, by rw [hb.cell (p := ⟨c, o + i, none⟩) hc]; exact hcell⟩
theorem _root_.Go.RowKit.Below.trans' {B : Nat} {a b c : World} (h : Below B b c) (k : Below B a b) : Below B a c := k.trans h
theorem TwoC.mono {B B' : Nat} (hB : B ≤ B') {w : World} {e : Ending} {w' : World} (h : TwoC B' w e w') : TwoC B w e w' := by
  obtain ⟨x, y, z, u, h1, h2, he, hb⟩ := h
  exact ⟨x, y, z, u, h1, h2, he, hb.mono hB⟩

set_option maxHeartbeats 400000 in
theorem drawMul (a : Option Addr) (len cap : Nat) (w : World) (hlen : len ≤ 9223372036854775807) (hcode : Code8 w.heap.size a len w) :
    Calls Try.prog 12 #[.slice a len cap] w (TwoC w.heap.size w) := by
  have H := fun (W : World) (h : Code8 W.heap.size a len W) => two_any a len cap W hlen h
  have HC := Lib.hid hcode
  have HH := Lib.hid H
  clear hcode H hlen
  go_enter Try.func12, Try.ntmps12
  go_wp2_with (go_at_call 54; refine (HH.out _ HC.out).mono ?_; rintro e w' ⟨x, y, z, u, h1, h2, rfl, hb⟩)
  go_ret2
  exact ⟨x, y, z, u, h1, h2, rfl, hb⟩
/-- What the law asks, in one word. -/
def LawDone (w : World) (e : Ending) (w' : World) : Prop := e = .returned (.bool true) ∧ Below w.heap.size w w'

end Go.Proofs.Ytpchcigpppdfiaa
