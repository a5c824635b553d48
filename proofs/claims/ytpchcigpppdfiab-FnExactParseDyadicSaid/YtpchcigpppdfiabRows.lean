/-
  No cell of these rows narrows 'for every input' (looked for: loops, veiled, ifaces, maps, wideKeys, modest, calm, conditions, laid).
  DERIVED. THE GIVEN ROWS OF THIS SEAT. 4 by the template 'for every input the law returns true; each argument reads behind the call as it read before'; 0 by the template 'total and deterministic' (their statements: YtpchcigpppdfiabTotals.lean).
  GIVEN WITH THE SEED: the statements are not yours to turn. If you find one false, say at which input.
  Laid BY PROGRAM, IN A SANDBOX (cutbox-rows.mjs): the forced cells as the released guide's own fill.sh prints them over the translation 49e4be64c8d01dd8… (all of the seat's roots in one cut). By AI agents, Wed Nov 11 2026. No macro, syntax, notation, axiom, sorry.
-/
import Derived.Test.YtpchcigpppdfiabChecked
import GoSem.Claim
import GoSem.ClaimJoined
import GoSem.ClaimMapViews
import Derived.JoinedTies
import Derived.KernelRfl
namespace Go.Proofs.Ytpchcigpppdfiab
/- THE CELL 'sum', in the pinned program and in every row, IS THE sha256 OF THE DUMP (.gsa) THAT YtpchcigpppdfiabProg.lean LOADS. Nothing in Lean hashes anything: it is a label: what it is worth is what the hold of that sum in a sandbox is worth. -/
noncomputable def Try.pinned : Pinned := { name := "ytpchcigpppdfiab", sum := "49e4be64c8d01dd8964210fd040c5db4ea40bc566abce6225807556b4319fb14", checked := Try.checked }
namespace Rows
def none {H : Type} : Left H := { results := [], args := [] }

/-- 'laws.FnExactParseDyadic': WHATEVER THE INPUT: true; the input reads as it did. -/
def fnExactParseDyadicSpec : ChangeSpec := { name := "fnExactParseDyadic", fn := fun _ => fun
  | [d] => { results := [.lit (.bool true)], args := [d] }
  | _ => none }
def fnExactParseDyadicRow : OpenClaim := { program := "ytpchcigpppdfiab", sum := "49e4be64c8d01dd8964210fd040c5db4ea40bc566abce6225807556b4319fb14", func := "loop.example/g01156/laws.FnExactParseDyadic", spec := "fnExactParseDyadic", inPlace := ["internal/bytealg.IndexByteString", "internal/bytealg.IndexString"], named := ["internal/bytealg.MaxLen"], apart := false }
def FnExactParseDyadicSaid : Prop := fnExactParseDyadicRow.holds Try.pinned (OpenSpec.ofChange fnExactParseDyadicSpec)

/-- ITS FALSE NEIGHBOUR: 'it returns false'. Refute it at one input. -/
def fnExactParseDyadicWrong : ChangeSpec := { name := "fnExactParseDyadic", fn := fun _ => fun
  | [d] => { results := [.lit (.bool false)], args := [d] }
  | _ => none }
def FnExactParseDyadicWrongFalsely : Prop := fnExactParseDyadicRow.holds Try.pinned (OpenSpec.ofChange fnExactParseDyadicWrong)

/-- 'laws.FnCircleBounds': WHATEVER THE INPUT: true; the input reads as it did. -/
def fnCircleBoundsSpec : ChangeSpec := { name := "fnCircleBounds", fn := fun _ => fun
  | [d] => { results := [.lit (.bool true)], args := [d] }
  | _ => none }
def fnCircleBoundsRow : OpenClaim := { program := "ytpchcigpppdfiab", sum := "49e4be64c8d01dd8964210fd040c5db4ea40bc566abce6225807556b4319fb14", func := "loop.example/g01156/laws.FnCircleBounds", spec := "fnCircleBounds", inPlace := ["math.Float64bits", "math.Float64frombits"], unfollowed := true, recurses := true, apart := false }
def FnCircleBoundsSaid : Prop := fnCircleBoundsRow.holds Try.pinned (OpenSpec.ofChange fnCircleBoundsSpec)

/-- ITS FALSE NEIGHBOUR: 'it returns false'. Refute it at one input. -/
def fnCircleBoundsWrong : ChangeSpec := { name := "fnCircleBounds", fn := fun _ => fun
  | [d] => { results := [.lit (.bool false)], args := [d] }
  | _ => none }
def FnCircleBoundsWrongFalsely : Prop := fnCircleBoundsRow.holds Try.pinned (OpenSpec.ofChange fnCircleBoundsWrong)

/-- 'laws.FnCirclePoints': WHATEVER THE INPUT: true; the input reads as it did. -/
def fnCirclePointsSpec : ChangeSpec := { name := "fnCirclePoints", fn := fun _ => fun
  | [d] => { results := [.lit (.bool true)], args := [d] }
  | _ => none }
def fnCirclePointsRow : OpenClaim := { program := "ytpchcigpppdfiab", sum := "49e4be64c8d01dd8964210fd040c5db4ea40bc566abce6225807556b4319fb14", func := "loop.example/g01156/laws.FnCirclePoints", spec := "fnCirclePoints", inPlace := ["math.Float64bits", "math.Float64frombits"], apart := false }
def FnCirclePointsSaid : Prop := fnCirclePointsRow.holds Try.pinned (OpenSpec.ofChange fnCirclePointsSpec)

/-- ITS FALSE NEIGHBOUR: 'it returns false'. Refute it at one input. -/
def fnCirclePointsWrong : ChangeSpec := { name := "fnCirclePoints", fn := fun _ => fun
  | [d] => { results := [.lit (.bool false)], args := [d] }
  | _ => none }
def FnCirclePointsWrongFalsely : Prop := fnCirclePointsRow.holds Try.pinned (OpenSpec.ofChange fnCirclePointsWrong)

/-- 'laws.FnExactTurnedPower': WHATEVER THE INPUT: true; the input reads as it did. -/
def fnExactTurnedPowerSpec : ChangeSpec := { name := "fnExactTurnedPower", fn := fun _ => fun
  | [d] => { results := [.lit (.bool true)], args := [d] }
  | _ => none }
def fnExactTurnedPowerRow : OpenClaim := { program := "ytpchcigpppdfiab", sum := "49e4be64c8d01dd8964210fd040c5db4ea40bc566abce6225807556b4319fb14", func := "loop.example/g01156/laws.FnExactTurnedPower", spec := "fnExactTurnedPower", apart := false }
def FnExactTurnedPowerSaid : Prop := fnExactTurnedPowerRow.holds Try.pinned (OpenSpec.ofChange fnExactTurnedPowerSpec)

/-- ITS FALSE NEIGHBOUR: 'it returns false'. Refute it at one input. -/
def fnExactTurnedPowerWrong : ChangeSpec := { name := "fnExactTurnedPower", fn := fun _ => fun
  | [d] => { results := [.lit (.bool false)], args := [d] }
  | _ => none }
def FnExactTurnedPowerWrongFalsely : Prop := fnExactTurnedPowerRow.holds Try.pinned (OpenSpec.ofChange fnExactTurnedPowerWrong)

/- THE SECOND FORM. 'bulk': how many values and letters a reading holds, each counted each time it is reached (what is shared counts as often as it is met; a slice's spare places count too). A statement '..UptoSaid' is the law's where the arguments, and the package variables that the reading takes, are together of bulk at most 1048576: NARROWER than '..Said'. Prove '..Said' where nothing that the law and all that it calls make is longer than what came in: it says more and counts as full. Else prove '..UptoSaid'. A law counts once. -/
mutual
def uptoBulk {H : Type} : DataW H → Nat
  | .lit (.string bytes) => bytes.length + 1
  | .lit _ => 1
  | .nil => 1
  | .ptr d => uptoBulk d + 1
  | .slice elems spare => uptoBulkAll elems + uptoBulkAll spare + 1
  | .agg parts => uptoBulkAll parts + 1
  | .iface _ d => uptoBulk d + 1
  | .map entries => uptoBulkEntries entries + 1
  | .held _ => 1
def uptoBulkAll {H : Type} : List (DataW H) → Nat
  | [] => 0
  | d :: r => uptoBulk d + uptoBulkAll r
def uptoBulkEntries {H : Type} : List (Lit × DataW H) → Nat
  | [] => 0
  | x :: r => uptoBulkEntry x + uptoBulkEntries r
def uptoBulkEntry {H : Type} : Lit × DataW H → Nat
  | (.string bytes, d) => bytes.length + uptoBulk d + 1
  | (_, d) => uptoBulk d + 1
 end
def uptoSmall : (H : Type) → List (DataW H) → Bool := fun _ ds => decide (uptoBulkAll ds ≤ 1048576)
def OpenSpec.upto (s : _root_.Go.ChangeSpec) : _root_.Go.OpenSpec := { _root_.Go.OpenSpec.ofChange s with cond := some uptoSmall }

/-- 'laws.FnExactParseDyadic', WHERE WHAT IT READS IS OF BULK AT MOST 1048576: true; the input reads as it did. -/
def fnExactParseDyadicUptoRow : OpenClaim := { program := "ytpchcigpppdfiab", sum := "49e4be64c8d01dd8964210fd040c5db4ea40bc566abce6225807556b4319fb14", func := "loop.example/g01156/laws.FnExactParseDyadic", spec := "fnExactParseDyadic", inPlace := ["internal/bytealg.IndexByteString", "internal/bytealg.IndexString"], named := ["internal/bytealg.MaxLen"], apart := false, narrowed := true }
def FnExactParseDyadicUptoSaid : Prop := fnExactParseDyadicUptoRow.holds Try.pinned (OpenSpec.upto fnExactParseDyadicSpec)

/-- 'laws.FnCircleBounds', WHERE WHAT IT READS IS OF BULK AT MOST 1048576: true; the input reads as it did. -/
def fnCircleBoundsUptoRow : OpenClaim := { program := "ytpchcigpppdfiab", sum := "49e4be64c8d01dd8964210fd040c5db4ea40bc566abce6225807556b4319fb14", func := "loop.example/g01156/laws.FnCircleBounds", spec := "fnCircleBounds", inPlace := ["math.Float64bits", "math.Float64frombits"], unfollowed := true, recurses := true, apart := false, narrowed := true }
def FnCircleBoundsUptoSaid : Prop := fnCircleBoundsUptoRow.holds Try.pinned (OpenSpec.upto fnCircleBoundsSpec)

/-- 'laws.FnCirclePoints', WHERE WHAT IT READS IS OF BULK AT MOST 1048576: true; the input reads as it did. -/
def fnCirclePointsUptoRow : OpenClaim := { program := "ytpchcigpppdfiab", sum := "49e4be64c8d01dd8964210fd040c5db4ea40bc566abce6225807556b4319fb14", func := "loop.example/g01156/laws.FnCirclePoints", spec := "fnCirclePoints", inPlace := ["math.Float64bits", "math.Float64frombits"], apart := false, narrowed := true }
def FnCirclePointsUptoSaid : Prop := fnCirclePointsUptoRow.holds Try.pinned (OpenSpec.upto fnCirclePointsSpec)

/-- 'laws.FnExactTurnedPower', WHERE WHAT IT READS IS OF BULK AT MOST 1048576: true; the input reads as it did. -/
def fnExactTurnedPowerUptoRow : OpenClaim := { program := "ytpchcigpppdfiab", sum := "49e4be64c8d01dd8964210fd040c5db4ea40bc566abce6225807556b4319fb14", func := "loop.example/g01156/laws.FnExactTurnedPower", spec := "fnExactTurnedPower", apart := false, narrowed := true }
def FnExactTurnedPowerUptoSaid : Prop := fnExactTurnedPowerUptoRow.holds Try.pinned (OpenSpec.upto fnExactTurnedPowerSpec)

end Rows
end Go.Proofs.Ytpchcigpppdfiab
