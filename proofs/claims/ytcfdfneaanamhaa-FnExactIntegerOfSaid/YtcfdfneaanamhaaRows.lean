/-
  No cell of these rows narrows 'for every input' (looked for: loops, veiled, ifaces, maps, wideKeys, modest, calm, conditions, laid).
  DERIVED. THE GIVEN ROWS OF THIS SEAT. 14 by the template 'for every input the law returns true; each argument reads behind the call as it read before'; 0 by the template 'total and deterministic' (their statements: YtcfdfneaanamhaaTotals.lean).
  GIVEN WITH THE SEED: the statements are not yours to turn. If you find one false, say at which input.
  Laid BY PROGRAM, IN A SANDBOX (cutbox-rows.mjs): the forced cells as the released guide's own fill.sh prints them over the translation 752ac1071459354a… (all of the seat's roots in one cut). By AI agents, Wed Nov 11 2026. No macro, syntax, notation, axiom, sorry.
-/
import Derived.Test.YtcfdfneaanamhaaChecked
import GoSem.Claim
import GoSem.ClaimJoined
import GoSem.ClaimMapViews
import Derived.JoinedTies
import Derived.KernelRfl
namespace Go.Proofs.Ytcfdfneaanamhaa
/- THE CELL 'sum', in the pinned program and in every row, IS THE sha256 OF THE DUMP (.gsa) THAT YtcfdfneaanamhaaProg.lean LOADS. Nothing in Lean hashes anything: it is a label: what it is worth is what the hold of that sum in a sandbox is worth. -/
noncomputable def Try.pinned : Pinned := { name := "ytcfdfneaanamhaa", sum := "752ac1071459354af8e382f073f359be2cccefce8841d56466874118d4677d87", checked := Try.checked }
namespace Rows
def none {H : Type} : Left H := { results := [], args := [] }

/-- 'laws.FnWholes': WHATEVER THE INPUT: true; the input reads as it did. -/
def fnWholesSpec : ChangeSpec := { name := "fnWholes", fn := fun _ => fun
  | [d] => { results := [.lit (.bool true)], args := [d] }
  | _ => none }
def fnWholesRow : OpenClaim := { program := "ytcfdfneaanamhaa", sum := "752ac1071459354af8e382f073f359be2cccefce8841d56466874118d4677d87", func := "loop.example/g01156/laws.FnWholes", spec := "fnWholes", named := ["math/bits.divideError", "math/bits.overflowError"], apart := false }
def FnWholesSaid : Prop := fnWholesRow.holds Try.pinned (OpenSpec.ofChange fnWholesSpec)

/-- ITS FALSE NEIGHBOUR: 'it returns false'. Refute it at one input. -/
def fnWholesWrong : ChangeSpec := { name := "fnWholes", fn := fun _ => fun
  | [d] => { results := [.lit (.bool false)], args := [d] }
  | _ => none }
def FnWholesWrongFalsely : Prop := fnWholesRow.holds Try.pinned (OpenSpec.ofChange fnWholesWrong)

/-- 'laws.FnExactIsWhole': WHATEVER THE INPUT: true; the input reads as it did. -/
def fnExactIsWholeSpec : ChangeSpec := { name := "fnExactIsWhole", fn := fun _ => fun
  | [d] => { results := [.lit (.bool true)], args := [d] }
  | _ => none }
def fnExactIsWholeRow : OpenClaim := { program := "ytcfdfneaanamhaa", sum := "752ac1071459354af8e382f073f359be2cccefce8841d56466874118d4677d87", func := "loop.example/g01156/laws.FnExactIsWhole", spec := "fnExactIsWhole", apart := false }
def FnExactIsWholeSaid : Prop := fnExactIsWholeRow.holds Try.pinned (OpenSpec.ofChange fnExactIsWholeSpec)

/-- ITS FALSE NEIGHBOUR: 'it returns false'. Refute it at one input. -/
def fnExactIsWholeWrong : ChangeSpec := { name := "fnExactIsWhole", fn := fun _ => fun
  | [d] => { results := [.lit (.bool false)], args := [d] }
  | _ => none }
def FnExactIsWholeWrongFalsely : Prop := fnExactIsWholeRow.holds Try.pinned (OpenSpec.ofChange fnExactIsWholeWrong)

/-- 'laws.FnExactWholeOf': WHATEVER THE INPUT: true; the input reads as it did. -/
def fnExactWholeOfSpec : ChangeSpec := { name := "fnExactWholeOf", fn := fun _ => fun
  | [d] => { results := [.lit (.bool true)], args := [d] }
  | _ => none }
def fnExactWholeOfRow : OpenClaim := { program := "ytcfdfneaanamhaa", sum := "752ac1071459354af8e382f073f359be2cccefce8841d56466874118d4677d87", func := "loop.example/g01156/laws.FnExactWholeOf", spec := "fnExactWholeOf", apart := false }
def FnExactWholeOfSaid : Prop := fnExactWholeOfRow.holds Try.pinned (OpenSpec.ofChange fnExactWholeOfSpec)

/-- ITS FALSE NEIGHBOUR: 'it returns false'. Refute it at one input. -/
def fnExactWholeOfWrong : ChangeSpec := { name := "fnExactWholeOf", fn := fun _ => fun
  | [d] => { results := [.lit (.bool false)], args := [d] }
  | _ => none }
def FnExactWholeOfWrongFalsely : Prop := fnExactWholeOfRow.holds Try.pinned (OpenSpec.ofChange fnExactWholeOfWrong)

/-- 'laws.FnExactIntegerOf': WHATEVER THE INPUT: true; the input reads as it did. -/
def fnExactIntegerOfSpec : ChangeSpec := { name := "fnExactIntegerOf", fn := fun _ => fun
  | [d] => { results := [.lit (.bool true)], args := [d] }
  | _ => none }
def fnExactIntegerOfRow : OpenClaim := { program := "ytcfdfneaanamhaa", sum := "752ac1071459354af8e382f073f359be2cccefce8841d56466874118d4677d87", func := "loop.example/g01156/laws.FnExactIntegerOf", spec := "fnExactIntegerOf", apart := false }
def FnExactIntegerOfSaid : Prop := fnExactIntegerOfRow.holds Try.pinned (OpenSpec.ofChange fnExactIntegerOfSpec)

/-- ITS FALSE NEIGHBOUR: 'it returns false'. Refute it at one input. -/
def fnExactIntegerOfWrong : ChangeSpec := { name := "fnExactIntegerOf", fn := fun _ => fun
  | [d] => { results := [.lit (.bool false)], args := [d] }
  | _ => none }
def FnExactIntegerOfWrongFalsely : Prop := fnExactIntegerOfRow.holds Try.pinned (OpenSpec.ofChange fnExactIntegerOfWrong)

/-- 'laws.FnExactAddWholes': WHATEVER THE INPUT: true; the input reads as it did. -/
def fnExactAddWholesSpec : ChangeSpec := { name := "fnExactAddWholes", fn := fun _ => fun
  | [d1, d2] => { results := [.lit (.bool true)], args := [d1, d2] }
  | _ => none }
def fnExactAddWholesRow : OpenClaim := { program := "ytcfdfneaanamhaa", sum := "752ac1071459354af8e382f073f359be2cccefce8841d56466874118d4677d87", func := "loop.example/g01156/laws.FnExactAddWholes", spec := "fnExactAddWholes", apart := false }
def FnExactAddWholesSaid : Prop := fnExactAddWholesRow.holds Try.pinned (OpenSpec.ofChange fnExactAddWholesSpec)

/-- ITS FALSE NEIGHBOUR: 'it returns false'. Refute it at one input. -/
def fnExactAddWholesWrong : ChangeSpec := { name := "fnExactAddWholes", fn := fun _ => fun
  | [d1, d2] => { results := [.lit (.bool false)], args := [d1, d2] }
  | _ => none }
def FnExactAddWholesWrongFalsely : Prop := fnExactAddWholesRow.holds Try.pinned (OpenSpec.ofChange fnExactAddWholesWrong)

/-- 'laws.FnExactSubtractWholes': WHATEVER THE INPUT: true; the input reads as it did. -/
def fnExactSubtractWholesSpec : ChangeSpec := { name := "fnExactSubtractWholes", fn := fun _ => fun
  | [d1, d2] => { results := [.lit (.bool true)], args := [d1, d2] }
  | _ => none }
def fnExactSubtractWholesRow : OpenClaim := { program := "ytcfdfneaanamhaa", sum := "752ac1071459354af8e382f073f359be2cccefce8841d56466874118d4677d87", func := "loop.example/g01156/laws.FnExactSubtractWholes", spec := "fnExactSubtractWholes", apart := false }
def FnExactSubtractWholesSaid : Prop := fnExactSubtractWholesRow.holds Try.pinned (OpenSpec.ofChange fnExactSubtractWholesSpec)

/-- ITS FALSE NEIGHBOUR: 'it returns false'. Refute it at one input. -/
def fnExactSubtractWholesWrong : ChangeSpec := { name := "fnExactSubtractWholes", fn := fun _ => fun
  | [d1, d2] => { results := [.lit (.bool false)], args := [d1, d2] }
  | _ => none }
def FnExactSubtractWholesWrongFalsely : Prop := fnExactSubtractWholesRow.holds Try.pinned (OpenSpec.ofChange fnExactSubtractWholesWrong)

/-- 'laws.FnExactMultiplyWholes': WHATEVER THE INPUT: true; the input reads as it did. -/
def fnExactMultiplyWholesSpec : ChangeSpec := { name := "fnExactMultiplyWholes", fn := fun _ => fun
  | [d1, d2] => { results := [.lit (.bool true)], args := [d1, d2] }
  | _ => none }
def fnExactMultiplyWholesRow : OpenClaim := { program := "ytcfdfneaanamhaa", sum := "752ac1071459354af8e382f073f359be2cccefce8841d56466874118d4677d87", func := "loop.example/g01156/laws.FnExactMultiplyWholes", spec := "fnExactMultiplyWholes", apart := false }
def FnExactMultiplyWholesSaid : Prop := fnExactMultiplyWholesRow.holds Try.pinned (OpenSpec.ofChange fnExactMultiplyWholesSpec)

/-- ITS FALSE NEIGHBOUR: 'it returns false'. Refute it at one input. -/
def fnExactMultiplyWholesWrong : ChangeSpec := { name := "fnExactMultiplyWholes", fn := fun _ => fun
  | [d1, d2] => { results := [.lit (.bool false)], args := [d1, d2] }
  | _ => none }
def FnExactMultiplyWholesWrongFalsely : Prop := fnExactMultiplyWholesRow.holds Try.pinned (OpenSpec.ofChange fnExactMultiplyWholesWrong)

/-- 'laws.FnExactDivideWholes': WHATEVER THE INPUT: true; the input reads as it did. -/
def fnExactDivideWholesSpec : ChangeSpec := { name := "fnExactDivideWholes", fn := fun _ => fun
  | [d1, d2] => { results := [.lit (.bool true)], args := [d1, d2] }
  | _ => none }
def fnExactDivideWholesRow : OpenClaim := { program := "ytcfdfneaanamhaa", sum := "752ac1071459354af8e382f073f359be2cccefce8841d56466874118d4677d87", func := "loop.example/g01156/laws.FnExactDivideWholes", spec := "fnExactDivideWholes", named := ["math/bits.divideError", "math/bits.overflowError"], apart := false }
def FnExactDivideWholesSaid : Prop := fnExactDivideWholesRow.holds Try.pinned (OpenSpec.ofChange fnExactDivideWholesSpec)

/-- ITS FALSE NEIGHBOUR: 'it returns false'. Refute it at one input. -/
def fnExactDivideWholesWrong : ChangeSpec := { name := "fnExactDivideWholes", fn := fun _ => fun
  | [d1, d2] => { results := [.lit (.bool false)], args := [d1, d2] }
  | _ => none }
def FnExactDivideWholesWrongFalsely : Prop := fnExactDivideWholesRow.holds Try.pinned (OpenSpec.ofChange fnExactDivideWholesWrong)

/-- 'laws.FnExactCompareWholes': WHATEVER THE INPUT: true; the input reads as it did. -/
def fnExactCompareWholesSpec : ChangeSpec := { name := "fnExactCompareWholes", fn := fun _ => fun
  | [d1, d2] => { results := [.lit (.bool true)], args := [d1, d2] }
  | _ => none }
def fnExactCompareWholesRow : OpenClaim := { program := "ytcfdfneaanamhaa", sum := "752ac1071459354af8e382f073f359be2cccefce8841d56466874118d4677d87", func := "loop.example/g01156/laws.FnExactCompareWholes", spec := "fnExactCompareWholes", apart := false }
def FnExactCompareWholesSaid : Prop := fnExactCompareWholesRow.holds Try.pinned (OpenSpec.ofChange fnExactCompareWholesSpec)

/-- ITS FALSE NEIGHBOUR: 'it returns false'. Refute it at one input. -/
def fnExactCompareWholesWrong : ChangeSpec := { name := "fnExactCompareWholes", fn := fun _ => fun
  | [d1, d2] => { results := [.lit (.bool false)], args := [d1, d2] }
  | _ => none }
def FnExactCompareWholesWrongFalsely : Prop := fnExactCompareWholesRow.holds Try.pinned (OpenSpec.ofChange fnExactCompareWholesWrong)

/-- 'laws.FnExactLengthOfWhole': WHATEVER THE INPUT: true; the input reads as it did. -/
def fnExactLengthOfWholeSpec : ChangeSpec := { name := "fnExactLengthOfWhole", fn := fun _ => fun
  | [d] => { results := [.lit (.bool true)], args := [d] }
  | _ => none }
def fnExactLengthOfWholeRow : OpenClaim := { program := "ytcfdfneaanamhaa", sum := "752ac1071459354af8e382f073f359be2cccefce8841d56466874118d4677d87", func := "loop.example/g01156/laws.FnExactLengthOfWhole", spec := "fnExactLengthOfWhole", apart := false }
def FnExactLengthOfWholeSaid : Prop := fnExactLengthOfWholeRow.holds Try.pinned (OpenSpec.ofChange fnExactLengthOfWholeSpec)

/-- ITS FALSE NEIGHBOUR: 'it returns false'. Refute it at one input. -/
def fnExactLengthOfWholeWrong : ChangeSpec := { name := "fnExactLengthOfWhole", fn := fun _ => fun
  | [d] => { results := [.lit (.bool false)], args := [d] }
  | _ => none }
def FnExactLengthOfWholeWrongFalsely : Prop := fnExactLengthOfWholeRow.holds Try.pinned (OpenSpec.ofChange fnExactLengthOfWholeWrong)

/-- 'laws.FnExactPowerOfWhole': WHATEVER THE INPUT: true; the input reads as it did. -/
def fnExactPowerOfWholeSpec : ChangeSpec := { name := "fnExactPowerOfWhole", fn := fun _ => fun
  | [d1, d2] => { results := [.lit (.bool true)], args := [d1, d2] }
  | _ => none }
def fnExactPowerOfWholeRow : OpenClaim := { program := "ytcfdfneaanamhaa", sum := "752ac1071459354af8e382f073f359be2cccefce8841d56466874118d4677d87", func := "loop.example/g01156/laws.FnExactPowerOfWhole", spec := "fnExactPowerOfWhole", apart := false }
def FnExactPowerOfWholeSaid : Prop := fnExactPowerOfWholeRow.holds Try.pinned (OpenSpec.ofChange fnExactPowerOfWholeSpec)

/-- ITS FALSE NEIGHBOUR: 'it returns false'. Refute it at one input. -/
def fnExactPowerOfWholeWrong : ChangeSpec := { name := "fnExactPowerOfWhole", fn := fun _ => fun
  | [d1, d2] => { results := [.lit (.bool false)], args := [d1, d2] }
  | _ => none }
def FnExactPowerOfWholeWrongFalsely : Prop := fnExactPowerOfWholeRow.holds Try.pinned (OpenSpec.ofChange fnExactPowerOfWholeWrong)

/-- 'laws.FnExactRootOfWhole': WHATEVER THE INPUT: true; the input reads as it did. -/
def fnExactRootOfWholeSpec : ChangeSpec := { name := "fnExactRootOfWhole", fn := fun _ => fun
  | [d] => { results := [.lit (.bool true)], args := [d] }
  | _ => none }
def fnExactRootOfWholeRow : OpenClaim := { program := "ytcfdfneaanamhaa", sum := "752ac1071459354af8e382f073f359be2cccefce8841d56466874118d4677d87", func := "loop.example/g01156/laws.FnExactRootOfWhole", spec := "fnExactRootOfWhole", named := ["math/bits.divideError", "math/bits.overflowError"], apart := false }
def FnExactRootOfWholeSaid : Prop := fnExactRootOfWholeRow.holds Try.pinned (OpenSpec.ofChange fnExactRootOfWholeSpec)

/-- ITS FALSE NEIGHBOUR: 'it returns false'. Refute it at one input. -/
def fnExactRootOfWholeWrong : ChangeSpec := { name := "fnExactRootOfWhole", fn := fun _ => fun
  | [d] => { results := [.lit (.bool false)], args := [d] }
  | _ => none }
def FnExactRootOfWholeWrongFalsely : Prop := fnExactRootOfWholeRow.holds Try.pinned (OpenSpec.ofChange fnExactRootOfWholeWrong)

/-- 'laws.FnExactCommonOfWholes': WHATEVER THE INPUT: true; the input reads as it did. -/
def fnExactCommonOfWholesSpec : ChangeSpec := { name := "fnExactCommonOfWholes", fn := fun _ => fun
  | [d1, d2] => { results := [.lit (.bool true)], args := [d1, d2] }
  | _ => none }
def fnExactCommonOfWholesRow : OpenClaim := { program := "ytcfdfneaanamhaa", sum := "752ac1071459354af8e382f073f359be2cccefce8841d56466874118d4677d87", func := "loop.example/g01156/laws.FnExactCommonOfWholes", spec := "fnExactCommonOfWholes", named := ["math/bits.divideError", "math/bits.overflowError"], apart := false }
def FnExactCommonOfWholesSaid : Prop := fnExactCommonOfWholesRow.holds Try.pinned (OpenSpec.ofChange fnExactCommonOfWholesSpec)

/-- ITS FALSE NEIGHBOUR: 'it returns false'. Refute it at one input. -/
def fnExactCommonOfWholesWrong : ChangeSpec := { name := "fnExactCommonOfWholes", fn := fun _ => fun
  | [d1, d2] => { results := [.lit (.bool false)], args := [d1, d2] }
  | _ => none }
def FnExactCommonOfWholesWrongFalsely : Prop := fnExactCommonOfWholesRow.holds Try.pinned (OpenSpec.ofChange fnExactCommonOfWholesWrong)

/-- 'laws.FnExactParseWhole': WHATEVER THE INPUT: true; the input reads as it did. -/
def fnExactParseWholeSpec : ChangeSpec := { name := "fnExactParseWhole", fn := fun _ => fun
  | [d] => { results := [.lit (.bool true)], args := [d] }
  | _ => none }
def fnExactParseWholeRow : OpenClaim := { program := "ytcfdfneaanamhaa", sum := "752ac1071459354af8e382f073f359be2cccefce8841d56466874118d4677d87", func := "loop.example/g01156/laws.FnExactParseWhole", spec := "fnExactParseWhole", apart := false }
def FnExactParseWholeSaid : Prop := fnExactParseWholeRow.holds Try.pinned (OpenSpec.ofChange fnExactParseWholeSpec)

/-- ITS FALSE NEIGHBOUR: 'it returns false'. Refute it at one input. -/
def fnExactParseWholeWrong : ChangeSpec := { name := "fnExactParseWhole", fn := fun _ => fun
  | [d] => { results := [.lit (.bool false)], args := [d] }
  | _ => none }
def FnExactParseWholeWrongFalsely : Prop := fnExactParseWholeRow.holds Try.pinned (OpenSpec.ofChange fnExactParseWholeWrong)

/- THE SECOND FORM. 'bulk': how many values and letters a reading holds, each counted each time it is reached (what is shared counts as often as it is met; a slice's spare places count too). A statement '..UptoSaid' is the law's where the arguments, and the package variables that the reading takes, are together of bulk at most 1048576: NARROWER than '..Said'. Prove '..Said' where nothing that the law and all that it calls make is longer than what came in: it says more and counts as full. Else prove '..UptoSaid'. A law counts once. -/
mutual
def uptoBulk {H : Type} : DataW H → Nat
  | .lit (.string bytes) => bytes.length + 1
  | .lit _ => 1
  | .nil => 1
  | .ptr d => uptoBulk d + 1
  | .slice elems spare => uptoBulkAll elems + uptoBulkAll spare + 1
  | .agg parts => uptoBulkAll parts + 1
  | .iface _ d => uptoBulk d + 1
  | .map entries => uptoBulkEntries entries + 1
  | .held _ => 1
def uptoBulkAll {H : Type} : List (DataW H) → Nat
  | [] => 0
  | d :: r => uptoBulk d + uptoBulkAll r
def uptoBulkEntries {H : Type} : List (Lit × DataW H) → Nat
  | [] => 0
  | x :: r => uptoBulkEntry x + uptoBulkEntries r
def uptoBulkEntry {H : Type} : Lit × DataW H → Nat
  | (.string bytes, d) => bytes.length + uptoBulk d + 1
  | (_, d) => uptoBulk d + 1
 end
def uptoSmall : (H : Type) → List (DataW H) → Bool := fun _ ds => decide (uptoBulkAll ds ≤ 1048576)
def OpenSpec.upto (s : _root_.Go.ChangeSpec) : _root_.Go.OpenSpec := { _root_.Go.OpenSpec.ofChange s with cond := some uptoSmall }

/-- 'laws.FnWholes', WHERE WHAT IT READS IS OF BULK AT MOST 1048576: true; the input reads as it did. -/
def fnWholesUptoRow : OpenClaim := { program := "ytcfdfneaanamhaa", sum := "752ac1071459354af8e382f073f359be2cccefce8841d56466874118d4677d87", func := "loop.example/g01156/laws.FnWholes", spec := "fnWholes", named := ["math/bits.divideError", "math/bits.overflowError"], apart := false, narrowed := true }
def FnWholesUptoSaid : Prop := fnWholesUptoRow.holds Try.pinned (OpenSpec.upto fnWholesSpec)

/-- 'laws.FnExactIsWhole', WHERE WHAT IT READS IS OF BULK AT MOST 1048576: true; the input reads as it did. -/
def fnExactIsWholeUptoRow : OpenClaim := { program := "ytcfdfneaanamhaa", sum := "752ac1071459354af8e382f073f359be2cccefce8841d56466874118d4677d87", func := "loop.example/g01156/laws.FnExactIsWhole", spec := "fnExactIsWhole", apart := false, narrowed := true }
def FnExactIsWholeUptoSaid : Prop := fnExactIsWholeUptoRow.holds Try.pinned (OpenSpec.upto fnExactIsWholeSpec)

/-- 'laws.FnExactWholeOf', WHERE WHAT IT READS IS OF BULK AT MOST 1048576: true; the input reads as it did. -/
def fnExactWholeOfUptoRow : OpenClaim := { program := "ytcfdfneaanamhaa", sum := "752ac1071459354af8e382f073f359be2cccefce8841d56466874118d4677d87", func := "loop.example/g01156/laws.FnExactWholeOf", spec := "fnExactWholeOf", apart := false, narrowed := true }
def FnExactWholeOfUptoSaid : Prop := fnExactWholeOfUptoRow.holds Try.pinned (OpenSpec.upto fnExactWholeOfSpec)

/-- 'laws.FnExactIntegerOf', WHERE WHAT IT READS IS OF BULK AT MOST 1048576: true; the input reads as it did. -/
def fnExactIntegerOfUptoRow : OpenClaim := { program := "ytcfdfneaanamhaa", sum := "752ac1071459354af8e382f073f359be2cccefce8841d56466874118d4677d87", func := "loop.example/g01156/laws.FnExactIntegerOf", spec := "fnExactIntegerOf", apart := false, narrowed := true }
def FnExactIntegerOfUptoSaid : Prop := fnExactIntegerOfUptoRow.holds Try.pinned (OpenSpec.upto fnExactIntegerOfSpec)

/-- 'laws.FnExactAddWholes', WHERE WHAT IT READS IS OF BULK AT MOST 1048576: true; the input reads as it did. -/
def fnExactAddWholesUptoRow : OpenClaim := { program := "ytcfdfneaanamhaa", sum := "752ac1071459354af8e382f073f359be2cccefce8841d56466874118d4677d87", func := "loop.example/g01156/laws.FnExactAddWholes", spec := "fnExactAddWholes", apart := false, narrowed := true }
def FnExactAddWholesUptoSaid : Prop := fnExactAddWholesUptoRow.holds Try.pinned (OpenSpec.upto fnExactAddWholesSpec)

/-- 'laws.FnExactSubtractWholes', WHERE WHAT IT READS IS OF BULK AT MOST 1048576: true; the input reads as it did. -/
def fnExactSubtractWholesUptoRow : OpenClaim := { program := "ytcfdfneaanamhaa", sum := "752ac1071459354af8e382f073f359be2cccefce8841d56466874118d4677d87", func := "loop.example/g01156/laws.FnExactSubtractWholes", spec := "fnExactSubtractWholes", apart := false, narrowed := true }
def FnExactSubtractWholesUptoSaid : Prop := fnExactSubtractWholesUptoRow.holds Try.pinned (OpenSpec.upto fnExactSubtractWholesSpec)

/-- 'laws.FnExactMultiplyWholes', WHERE WHAT IT READS IS OF BULK AT MOST 1048576: true; the input reads as it did. -/
def fnExactMultiplyWholesUptoRow : OpenClaim := { program := "ytcfdfneaanamhaa", sum := "752ac1071459354af8e382f073f359be2cccefce8841d56466874118d4677d87", func := "loop.example/g01156/laws.FnExactMultiplyWholes", spec := "fnExactMultiplyWholes", apart := false, narrowed := true }
def FnExactMultiplyWholesUptoSaid : Prop := fnExactMultiplyWholesUptoRow.holds Try.pinned (OpenSpec.upto fnExactMultiplyWholesSpec)

/-- 'laws.FnExactDivideWholes', WHERE WHAT IT READS IS OF BULK AT MOST 1048576: true; the input reads as it did. -/
def fnExactDivideWholesUptoRow : OpenClaim := { program := "ytcfdfneaanamhaa", sum := "752ac1071459354af8e382f073f359be2cccefce8841d56466874118d4677d87", func := "loop.example/g01156/laws.FnExactDivideWholes", spec := "fnExactDivideWholes", named := ["math/bits.divideError", "math/bits.overflowError"], apart := false, narrowed := true }
def FnExactDivideWholesUptoSaid : Prop := fnExactDivideWholesUptoRow.holds Try.pinned (OpenSpec.upto fnExactDivideWholesSpec)

/-- 'laws.FnExactCompareWholes', WHERE WHAT IT READS IS OF BULK AT MOST 1048576: true; the input reads as it did. -/
def fnExactCompareWholesUptoRow : OpenClaim := { program := "ytcfdfneaanamhaa", sum := "752ac1071459354af8e382f073f359be2cccefce8841d56466874118d4677d87", func := "loop.example/g01156/laws.FnExactCompareWholes", spec := "fnExactCompareWholes", apart := false, narrowed := true }
def FnExactCompareWholesUptoSaid : Prop := fnExactCompareWholesUptoRow.holds Try.pinned (OpenSpec.upto fnExactCompareWholesSpec)

/-- 'laws.FnExactLengthOfWhole', WHERE WHAT IT READS IS OF BULK AT MOST 1048576: true; the input reads as it did. -/
def fnExactLengthOfWholeUptoRow : OpenClaim := { program := "ytcfdfneaanamhaa", sum := "752ac1071459354af8e382f073f359be2cccefce8841d56466874118d4677d87", func := "loop.example/g01156/laws.FnExactLengthOfWhole", spec := "fnExactLengthOfWhole", apart := false, narrowed := true }
def FnExactLengthOfWholeUptoSaid : Prop := fnExactLengthOfWholeUptoRow.holds Try.pinned (OpenSpec.upto fnExactLengthOfWholeSpec)

/-- 'laws.FnExactPowerOfWhole', WHERE WHAT IT READS IS OF BULK AT MOST 1048576: true; the input reads as it did. -/
def fnExactPowerOfWholeUptoRow : OpenClaim := { program := "ytcfdfneaanamhaa", sum := "752ac1071459354af8e382f073f359be2cccefce8841d56466874118d4677d87", func := "loop.example/g01156/laws.FnExactPowerOfWhole", spec := "fnExactPowerOfWhole", apart := false, narrowed := true }
def FnExactPowerOfWholeUptoSaid : Prop := fnExactPowerOfWholeUptoRow.holds Try.pinned (OpenSpec.upto fnExactPowerOfWholeSpec)

/-- 'laws.FnExactRootOfWhole', WHERE WHAT IT READS IS OF BULK AT MOST 1048576: true; the input reads as it did. -/
def fnExactRootOfWholeUptoRow : OpenClaim := { program := "ytcfdfneaanamhaa", sum := "752ac1071459354af8e382f073f359be2cccefce8841d56466874118d4677d87", func := "loop.example/g01156/laws.FnExactRootOfWhole", spec := "fnExactRootOfWhole", named := ["math/bits.divideError", "math/bits.overflowError"], apart := false, narrowed := true }
def FnExactRootOfWholeUptoSaid : Prop := fnExactRootOfWholeUptoRow.holds Try.pinned (OpenSpec.upto fnExactRootOfWholeSpec)

/-- 'laws.FnExactCommonOfWholes', WHERE WHAT IT READS IS OF BULK AT MOST 1048576: true; the input reads as it did. -/
def fnExactCommonOfWholesUptoRow : OpenClaim := { program := "ytcfdfneaanamhaa", sum := "752ac1071459354af8e382f073f359be2cccefce8841d56466874118d4677d87", func := "loop.example/g01156/laws.FnExactCommonOfWholes", spec := "fnExactCommonOfWholes", named := ["math/bits.divideError", "math/bits.overflowError"], apart := false, narrowed := true }
def FnExactCommonOfWholesUptoSaid : Prop := fnExactCommonOfWholesUptoRow.holds Try.pinned (OpenSpec.upto fnExactCommonOfWholesSpec)

/-- 'laws.FnExactParseWhole', WHERE WHAT IT READS IS OF BULK AT MOST 1048576: true; the input reads as it did. -/
def fnExactParseWholeUptoRow : OpenClaim := { program := "ytcfdfneaanamhaa", sum := "752ac1071459354af8e382f073f359be2cccefce8841d56466874118d4677d87", func := "loop.example/g01156/laws.FnExactParseWhole", spec := "fnExactParseWhole", apart := false, narrowed := true }
def FnExactParseWholeUptoSaid : Prop := fnExactParseWholeUptoRow.holds Try.pinned (OpenSpec.upto fnExactParseWholeSpec)

end Rows
end Go.Proofs.Ytcfdfneaanamhaa
