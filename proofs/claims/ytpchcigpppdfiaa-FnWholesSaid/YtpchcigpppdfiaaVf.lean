/-
  Contracts: shifts of magnitudes. Conditions: the limbs can be read.
-/
import Derived.Test.YtpchcigpppdfiaaVa
import Derived.Test.YtpchcigpppdfiaaOc
import Derived.Test.YtpchcigpppdfiaaUl
import Derived.Test.YtpchcigpppdfiaaUe
namespace Go.Proofs.Ytpchcigpppdfiaa
set_option linter.unusedVariables false
open Go Go.RowKit

theorem i64_or_sh (c x r : Nat) (hc : c < 2 ^ r) (hb : c + x * 2 ^ r < 9223372036854775808) : bits .or .i64 (c : Int) ((x * 2 ^ r : Nat) : Int) = ((c + x * 2 ^ r : Nat) : Int) := by
  rw [i64_or_nat c (x * 2 ^ r) (by omega) (by omega)]
  have := Nat.shiftLeft_add_eq_or_of_lt hc x
  rw [Nat.shiftLeft_eq, Nat.or_comm] at this
  rw [← this, Nat.add_comm]

theorem up_bounds {c y t P : Nat} (h1 : c < P) (h2 : t < 16777216 * P) (h3 : P ≤ 8388608) (h4 : t = c + y) : c ≤ 9223372036854775807 ∧ y ≤ 9223372036854775807 ∧ t ≤ 9223372036854775807 := by omega
theorem wrap64_nat {z : Int} {y : Nat} (e : z = (y : Int)) (h : y ≤ 9223372036854775807) : wrap64 z = (y : Int) := by subst e; unfold wrap64; omega
theorem wrapI64_nat {z : Int} {y : Nat} (e : z = (y : Int)) (h : y ≤ 9223372036854775807) : IntKind.i64.wrap z = (y : Int) := by subst e; rw [IntKind.wrap_i64]; omega

end Go.Proofs.Ytpchcigpppdfiaa
