/-
  Contracts of the model's whole numbers: sums, opposites, differences. Conditions: the limbs can be read.
-/
import Derived.Test.YtpchcigpppdfiabTc
namespace Go.Proofs.Ytpchcigpppdfiab
set_option linter.unusedVariables false
open Go Go.RowKit

theorem sMakeL (s : Int) (a : Option Addr) (n : Nat) (c : Nat) (w : World) (B : Nat) (hB : B ≤ w.heap.size) (hx : Ints w B a (lim n)) (hc : (lim n).length ≤ c) (hl : (lim n).length ≤ 8388608) :
    Calls Try.prog 130 #[.int .i64 s, .slice a (lim n).length c] w (RetN (sgnOf s n) n w) := by
  rw [lim_length] at hc hl ⊢
  have := sMake s a (dig n) c w B hB hx (small_dig n) hc hl
  rwa [val_dig] at this

end Go.Proofs.Ytpchcigpppdfiab
