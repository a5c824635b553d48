/-
  No cell of these rows narrows 'for every input' (looked for: loops, veiled, ifaces, maps, wideKeys, modest, calm, conditions, laid).
  DERIVED. THE GIVEN ROWS OF THIS SEAT. 4 by the template 'for every input the law returns true; each argument reads behind the call as it read before'; 0 by the template 'total and deterministic' (their statements: YtnnbfoemmgddeaaTotals.lean).
  GIVEN WITH THE SEED: the statements are not yours to turn. If you find one false, say at which input.
  Laid BY PROGRAM, IN A SANDBOX (cutbox-rows.mjs): the forced cells as the released guide's own fill.sh prints them over the translation fbdd8e5bb134a7c2… (all of the seat's roots in one cut). By AI agents, Wed Nov 11 2026. No macro, syntax, notation, axiom, sorry.
-/
import Derived.Test.YtnnbfoemmgddeaaChecked
import GoSem.Claim
import GoSem.ClaimJoined
import GoSem.ClaimMapViews
import Derived.JoinedTies
import Derived.KernelRfl
namespace Go.Proofs.Ytnnbfoemmgddeaa
/- THE CELL 'sum', in the pinned program and in every row, IS THE sha256 OF THE DUMP (.gsa) THAT YtnnbfoemmgddeaaProg.lean LOADS. Nothing in Lean hashes anything: it is a label: what it is worth is what the hold of that sum in a sandbox is worth. -/
noncomputable def Try.pinned : Pinned := { name := "ytnnbfoemmgddeaa", sum := "fbdd8e5bb134a7c2cd11f7bb94a97220a9943cc5451de2f4d1b4bc2dcdedd3f8", checked := Try.checked }
namespace Rows
def none {H : Type} : Left H := { results := [], args := [] }

/-- 'laws.FnDivision': WHATEVER THE INPUT: true; the input reads as it did. -/
def fnDivisionSpec : ChangeSpec := { name := "fnDivision", fn := fun _ => fun
  | [d] => { results := [.lit (.bool true)], args := [d] }
  | _ => none }
def fnDivisionRow : OpenClaim := { program := "ytnnbfoemmgddeaa", sum := "fbdd8e5bb134a7c2cd11f7bb94a97220a9943cc5451de2f4d1b4bc2dcdedd3f8", func := "loop.example/g01156/laws.FnDivision", spec := "fnDivision", inPlace := ["math.Float64bits", "math.Float64frombits"], unfollowed := true, recurses := true, apart := false }
def FnDivisionSaid : Prop := fnDivisionRow.holds Try.pinned (OpenSpec.ofChange fnDivisionSpec)

/-- ITS FALSE NEIGHBOUR: 'it returns false'. Refute it at one input. -/
def fnDivisionWrong : ChangeSpec := { name := "fnDivision", fn := fun _ => fun
  | [d] => { results := [.lit (.bool false)], args := [d] }
  | _ => none }
def FnDivisionWrongFalsely : Prop := fnDivisionRow.holds Try.pinned (OpenSpec.ofChange fnDivisionWrong)

/-- 'laws.FnParts': WHATEVER THE INPUT: true; the input reads as it did. -/
def fnPartsSpec : ChangeSpec := { name := "fnParts", fn := fun _ => fun
  | [d] => { results := [.lit (.bool true)], args := [d] }
  | _ => none }
def fnPartsRow : OpenClaim := { program := "ytnnbfoemmgddeaa", sum := "fbdd8e5bb134a7c2cd11f7bb94a97220a9943cc5451de2f4d1b4bc2dcdedd3f8", func := "loop.example/g01156/laws.FnParts", spec := "fnParts", inPlace := ["math.Float64bits", "math.Float64frombits"], apart := false }
def FnPartsSaid : Prop := fnPartsRow.holds Try.pinned (OpenSpec.ofChange fnPartsSpec)

/-- ITS FALSE NEIGHBOUR: 'it returns false'. Refute it at one input. -/
def fnPartsWrong : ChangeSpec := { name := "fnParts", fn := fun _ => fun
  | [d] => { results := [.lit (.bool false)], args := [d] }
  | _ => none }
def FnPartsWrongFalsely : Prop := fnPartsRow.holds Try.pinned (OpenSpec.ofChange fnPartsWrong)

/-- 'laws.FnCircleBounds': WHATEVER THE INPUT: true; the input reads as it did. -/
def fnCircleBoundsSpec : ChangeSpec := { name := "fnCircleBounds", fn := fun _ => fun
  | [d] => { results := [.lit (.bool true)], args := [d] }
  | _ => none }
def fnCircleBoundsRow : OpenClaim := { program := "ytnnbfoemmgddeaa", sum := "fbdd8e5bb134a7c2cd11f7bb94a97220a9943cc5451de2f4d1b4bc2dcdedd3f8", func := "loop.example/g01156/laws.FnCircleBounds", spec := "fnCircleBounds", inPlace := ["math.Float64bits", "math.Float64frombits"], unfollowed := true, recurses := true, apart := false }
def FnCircleBoundsSaid : Prop := fnCircleBoundsRow.holds Try.pinned (OpenSpec.ofChange fnCircleBoundsSpec)

/-- ITS FALSE NEIGHBOUR: 'it returns false'. Refute it at one input. -/
def fnCircleBoundsWrong : ChangeSpec := { name := "fnCircleBounds", fn := fun _ => fun
  | [d] => { results := [.lit (.bool false)], args := [d] }
  | _ => none }
def FnCircleBoundsWrongFalsely : Prop := fnCircleBoundsRow.holds Try.pinned (OpenSpec.ofChange fnCircleBoundsWrong)

/-- 'laws.FnExactCommonOfWholes': WHATEVER THE INPUT: true; the input reads as it did. -/
def fnExactCommonOfWholesSpec : ChangeSpec := { name := "fnExactCommonOfWholes", fn := fun _ => fun
  | [d1, d2] => { results := [.lit (.bool true)], args := [d1, d2] }
  | _ => none }
def fnExactCommonOfWholesRow : OpenClaim := { program := "ytnnbfoemmgddeaa", sum := "fbdd8e5bb134a7c2cd11f7bb94a97220a9943cc5451de2f4d1b4bc2dcdedd3f8", func := "loop.example/g01156/laws.FnExactCommonOfWholes", spec := "fnExactCommonOfWholes", named := ["math/bits.divideError", "math/bits.overflowError"], apart := false }
def FnExactCommonOfWholesSaid : Prop := fnExactCommonOfWholesRow.holds Try.pinned (OpenSpec.ofChange fnExactCommonOfWholesSpec)

/-- ITS FALSE NEIGHBOUR: 'it returns false'. Refute it at one input. -/
def fnExactCommonOfWholesWrong : ChangeSpec := { name := "fnExactCommonOfWholes", fn := fun _ => fun
  | [d1, d2] => { results := [.lit (.bool false)], args := [d1, d2] }
  | _ => none }
def FnExactCommonOfWholesWrongFalsely : Prop := fnExactCommonOfWholesRow.holds Try.pinned (OpenSpec.ofChange fnExactCommonOfWholesWrong)

/- THE SECOND FORM. 'bulk': how many values and letters a reading holds, each counted each time it is reached (what is shared counts as often as it is met; a slice's spare places count too). A statement '..UptoSaid' is the law's where the arguments, and the package variables that the reading takes, are together of bulk at most 1048576: NARROWER than '..Said'. Prove '..Said' where nothing that the law and all that it calls make is longer than what came in: it says more and counts as full. Else prove '..UptoSaid'. A law counts once. -/
mutual
def uptoBulk {H : Type} : DataW H → Nat
  | .lit (.string bytes) => bytes.length + 1
  | .lit _ => 1
  | .nil => 1
  | .ptr d => uptoBulk d + 1
  | .slice elems spare => uptoBulkAll elems + uptoBulkAll spare + 1
  | .agg parts => uptoBulkAll parts + 1
  | .iface _ d => uptoBulk d + 1
  | .map entries => uptoBulkEntries entries + 1
  | .held _ => 1
def uptoBulkAll {H : Type} : List (DataW H) → Nat
  | [] => 0
  | d :: r => uptoBulk d + uptoBulkAll r
def uptoBulkEntries {H : Type} : List (Lit × DataW H) → Nat
  | [] => 0
  | x :: r => uptoBulkEntry x + uptoBulkEntries r
def uptoBulkEntry {H : Type} : Lit × DataW H → Nat
  | (.string bytes, d) => bytes.length + uptoBulk d + 1
  | (_, d) => uptoBulk d + 1
 end
def uptoSmall : (H : Type) → List (DataW H) → Bool := fun _ ds => decide (uptoBulkAll ds ≤ 1048576)
def OpenSpec.upto (s : _root_.Go.ChangeSpec) : _root_.Go.OpenSpec := { _root_.Go.OpenSpec.ofChange s with cond := some uptoSmall }

/-- 'laws.FnDivision', WHERE WHAT IT READS IS OF BULK AT MOST 1048576: true; the input reads as it did. -/
def fnDivisionUptoRow : OpenClaim := { program := "ytnnbfoemmgddeaa", sum := "fbdd8e5bb134a7c2cd11f7bb94a97220a9943cc5451de2f4d1b4bc2dcdedd3f8", func := "loop.example/g01156/laws.FnDivision", spec := "fnDivision", inPlace := ["math.Float64bits", "math.Float64frombits"], unfollowed := true, recurses := true, apart := false, narrowed := true }
def FnDivisionUptoSaid : Prop := fnDivisionUptoRow.holds Try.pinned (OpenSpec.upto fnDivisionSpec)

/-- 'laws.FnParts', WHERE WHAT IT READS IS OF BULK AT MOST 1048576: true; the input reads as it did. -/
def fnPartsUptoRow : OpenClaim := { program := "ytnnbfoemmgddeaa", sum := "fbdd8e5bb134a7c2cd11f7bb94a97220a9943cc5451de2f4d1b4bc2dcdedd3f8", func := "loop.example/g01156/laws.FnParts", spec := "fnParts", inPlace := ["math.Float64bits", "math.Float64frombits"], apart := false, narrowed := true }
def FnPartsUptoSaid : Prop := fnPartsUptoRow.holds Try.pinned (OpenSpec.upto fnPartsSpec)

/-- 'laws.FnCircleBounds', WHERE WHAT IT READS IS OF BULK AT MOST 1048576: true; the input reads as it did. -/
def fnCircleBoundsUptoRow : OpenClaim := { program := "ytnnbfoemmgddeaa", sum := "fbdd8e5bb134a7c2cd11f7bb94a97220a9943cc5451de2f4d1b4bc2dcdedd3f8", func := "loop.example/g01156/laws.FnCircleBounds", spec := "fnCircleBounds", inPlace := ["math.Float64bits", "math.Float64frombits"], unfollowed := true, recurses := true, apart := false, narrowed := true }
def FnCircleBoundsUptoSaid : Prop := fnCircleBoundsUptoRow.holds Try.pinned (OpenSpec.upto fnCircleBoundsSpec)

/-- 'laws.FnExactCommonOfWholes', WHERE WHAT IT READS IS OF BULK AT MOST 1048576: true; the input reads as it did. -/
def fnExactCommonOfWholesUptoRow : OpenClaim := { program := "ytnnbfoemmgddeaa", sum := "fbdd8e5bb134a7c2cd11f7bb94a97220a9943cc5451de2f4d1b4bc2dcdedd3f8", func := "loop.example/g01156/laws.FnExactCommonOfWholes", spec := "fnExactCommonOfWholes", named := ["math/bits.divideError", "math/bits.overflowError"], apart := false, narrowed := true }
def FnExactCommonOfWholesUptoSaid : Prop := fnExactCommonOfWholesUptoRow.holds Try.pinned (OpenSpec.upto fnExactCommonOfWholesSpec)

end Rows
end Go.Proofs.Ytnnbfoemmgddeaa
