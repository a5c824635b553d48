/-
  No cell of these rows narrows 'for every input' (looked for: loops, veiled, ifaces, maps, wideKeys, modest, calm, conditions, laid).
  DERIVED. THE GIVEN ROWS OF THIS SEAT. 4 by the template 'for every input the law returns true; each argument reads behind the call as it read before'; 0 by the template 'total and deterministic' (their statements: YtebkpaonmeokgaaTotals.lean).
  GIVEN WITH THE SEED: the statements are not yours to turn. If you find one false, say at which input.
  Laid BY PROGRAM, IN A SANDBOX (cutbox-rows.mjs): the forced cells as the released guide's own fill.sh prints them over the translation e3da648ace15f19d… (all of the seat's roots in one cut). By AI agents, Wed Nov 11 2026. No macro, syntax, notation, axiom, sorry.
-/
import Derived.Test.YtebkpaonmeokgaaChecked
import GoSem.Claim
import GoSem.ClaimJoined
import GoSem.ClaimMapViews
import Derived.JoinedTies
import Derived.KernelRfl
namespace Go.Proofs.Ytebkpaonmeokgaa
/- THE CELL 'sum', in the pinned program and in every row, IS THE sha256 OF THE DUMP (.gsa) THAT YtebkpaonmeokgaaProg.lean LOADS. Nothing in Lean hashes anything: it is a label: what it is worth is what the hold of that sum in a sandbox is worth. -/
noncomputable def Try.pinned : Pinned := { name := "ytebkpaonmeokgaa", sum := "e3da648ace15f19dbc3a29c018bf55697a7864c33ecd85bbda858514ff60e731", checked := Try.checked }
namespace Rows
def none {H : Type} : Left H := { results := [], args := [] }

/-- 'laws.FnWholes': WHATEVER THE INPUT: true; the input reads as it did. -/
def fnWholesSpec : ChangeSpec := { name := "fnWholes", fn := fun _ => fun
  | [d] => { results := [.lit (.bool true)], args := [d] }
  | _ => none }
def fnWholesRow : OpenClaim := { program := "ytebkpaonmeokgaa", sum := "e3da648ace15f19dbc3a29c018bf55697a7864c33ecd85bbda858514ff60e731", func := "loop.example/g01156/laws.FnWholes", spec := "fnWholes", named := ["math/bits.divideError", "math/bits.overflowError"], apart := false }
def FnWholesSaid : Prop := fnWholesRow.holds Try.pinned (OpenSpec.ofChange fnWholesSpec)

/-- ITS FALSE NEIGHBOUR: 'it returns false'. Refute it at one input. -/
def fnWholesWrong : ChangeSpec := { name := "fnWholes", fn := fun _ => fun
  | [d] => { results := [.lit (.bool false)], args := [d] }
  | _ => none }
def FnWholesWrongFalsely : Prop := fnWholesRow.holds Try.pinned (OpenSpec.ofChange fnWholesWrong)

/-- 'laws.FnExactDivideWholes': WHATEVER THE INPUT: true; the input reads as it did. -/
def fnExactDivideWholesSpec : ChangeSpec := { name := "fnExactDivideWholes", fn := fun _ => fun
  | [d1, d2] => { results := [.lit (.bool true)], args := [d1, d2] }
  | _ => none }
def fnExactDivideWholesRow : OpenClaim := { program := "ytebkpaonmeokgaa", sum := "e3da648ace15f19dbc3a29c018bf55697a7864c33ecd85bbda858514ff60e731", func := "loop.example/g01156/laws.FnExactDivideWholes", spec := "fnExactDivideWholes", named := ["math/bits.divideError", "math/bits.overflowError"], apart := false }
def FnExactDivideWholesSaid : Prop := fnExactDivideWholesRow.holds Try.pinned (OpenSpec.ofChange fnExactDivideWholesSpec)

/-- ITS FALSE NEIGHBOUR: 'it returns false'. Refute it at one input. -/
def fnExactDivideWholesWrong : ChangeSpec := { name := "fnExactDivideWholes", fn := fun _ => fun
  | [d1, d2] => { results := [.lit (.bool false)], args := [d1, d2] }
  | _ => none }
def FnExactDivideWholesWrongFalsely : Prop := fnExactDivideWholesRow.holds Try.pinned (OpenSpec.ofChange fnExactDivideWholesWrong)

/-- 'laws.FnExactParseWhole': WHATEVER THE INPUT: true; the input reads as it did. -/
def fnExactParseWholeSpec : ChangeSpec := { name := "fnExactParseWhole", fn := fun _ => fun
  | [d] => { results := [.lit (.bool true)], args := [d] }
  | _ => none }
def fnExactParseWholeRow : OpenClaim := { program := "ytebkpaonmeokgaa", sum := "e3da648ace15f19dbc3a29c018bf55697a7864c33ecd85bbda858514ff60e731", func := "loop.example/g01156/laws.FnExactParseWhole", spec := "fnExactParseWhole", apart := false }
def FnExactParseWholeSaid : Prop := fnExactParseWholeRow.holds Try.pinned (OpenSpec.ofChange fnExactParseWholeSpec)

/-- ITS FALSE NEIGHBOUR: 'it returns false'. Refute it at one input. -/
def fnExactParseWholeWrong : ChangeSpec := { name := "fnExactParseWhole", fn := fun _ => fun
  | [d] => { results := [.lit (.bool false)], args := [d] }
  | _ => none }
def FnExactParseWholeWrongFalsely : Prop := fnExactParseWholeRow.holds Try.pinned (OpenSpec.ofChange fnExactParseWholeWrong)

/-- 'laws.FnExactParseDyadic': WHATEVER THE INPUT: true; the input reads as it did. -/
def fnExactParseDyadicSpec : ChangeSpec := { name := "fnExactParseDyadic", fn := fun _ => fun
  | [d] => { results := [.lit (.bool true)], args := [d] }
  | _ => none }
def fnExactParseDyadicRow : OpenClaim := { program := "ytebkpaonmeokgaa", sum := "e3da648ace15f19dbc3a29c018bf55697a7864c33ecd85bbda858514ff60e731", func := "loop.example/g01156/laws.FnExactParseDyadic", spec := "fnExactParseDyadic", inPlace := ["internal/bytealg.IndexByteString", "internal/bytealg.IndexString"], named := ["internal/bytealg.MaxLen"], apart := false }
def FnExactParseDyadicSaid : Prop := fnExactParseDyadicRow.holds Try.pinned (OpenSpec.ofChange fnExactParseDyadicSpec)

/-- ITS FALSE NEIGHBOUR: 'it returns false'. Refute it at one input. -/
def fnExactParseDyadicWrong : ChangeSpec := { name := "fnExactParseDyadic", fn := fun _ => fun
  | [d] => { results := [.lit (.bool false)], args := [d] }
  | _ => none }
def FnExactParseDyadicWrongFalsely : Prop := fnExactParseDyadicRow.holds Try.pinned (OpenSpec.ofChange fnExactParseDyadicWrong)

/- THE SECOND FORM. 'bulk': how many values and letters a reading holds, each counted each time it is reached (what is shared counts as often as it is met; a slice's spare places count too). A statement '..UptoSaid' is the law's where the arguments, and the package variables that the reading takes, are together of bulk at most 1048576: NARROWER than '..Said'. Prove '..Said' where nothing that the law and all that it calls make is longer than what came in: it says more and counts as full. Else prove '..UptoSaid'. A law counts once. -/
mutual
def uptoBulk {H : Type} : DataW H → Nat
  | .lit (.string bytes) => bytes.length + 1
  | .lit _ => 1
  | .nil => 1
  | .ptr d => uptoBulk d + 1
  | .slice elems spare => uptoBulkAll elems + uptoBulkAll spare + 1
  | .agg parts => uptoBulkAll parts + 1
  | .iface _ d => uptoBulk d + 1
  | .map entries => uptoBulkEntries entries + 1
  | .held _ => 1
def uptoBulkAll {H : Type} : List (DataW H) → Nat
  | [] => 0
  | d :: r => uptoBulk d + uptoBulkAll r
def uptoBulkEntries {H : Type} : List (Lit × DataW H) → Nat
  | [] => 0
  | x :: r => uptoBulkEntry x + uptoBulkEntries r
def uptoBulkEntry {H : Type} : Lit × DataW H → Nat
  | (.string bytes, d) => bytes.length + uptoBulk d + 1
  | (_, d) => uptoBulk d + 1
 end
def uptoSmall : (H : Type) → List (DataW H) → Bool := fun _ ds => decide (uptoBulkAll ds ≤ 1048576)
def OpenSpec.upto (s : _root_.Go.ChangeSpec) : _root_.Go.OpenSpec := { _root_.Go.OpenSpec.ofChange s with cond := some uptoSmall }

/-- 'laws.FnWholes', WHERE WHAT IT READS IS OF BULK AT MOST 1048576: true; the input reads as it did. -/
def fnWholesUptoRow : OpenClaim := { program := "ytebkpaonmeokgaa", sum := "e3da648ace15f19dbc3a29c018bf55697a7864c33ecd85bbda858514ff60e731", func := "loop.example/g01156/laws.FnWholes", spec := "fnWholes", named := ["math/bits.divideError", "math/bits.overflowError"], apart := false, narrowed := true }
def FnWholesUptoSaid : Prop := fnWholesUptoRow.holds Try.pinned (OpenSpec.upto fnWholesSpec)

/-- 'laws.FnExactDivideWholes', WHERE WHAT IT READS IS OF BULK AT MOST 1048576: true; the input reads as it did. -/
def fnExactDivideWholesUptoRow : OpenClaim := { program := "ytebkpaonmeokgaa", sum := "e3da648ace15f19dbc3a29c018bf55697a7864c33ecd85bbda858514ff60e731", func := "loop.example/g01156/laws.FnExactDivideWholes", spec := "fnExactDivideWholes", named := ["math/bits.divideError", "math/bits.overflowError"], apart := false, narrowed := true }
def FnExactDivideWholesUptoSaid : Prop := fnExactDivideWholesUptoRow.holds Try.pinned (OpenSpec.upto fnExactDivideWholesSpec)

/-- 'laws.FnExactParseWhole', WHERE WHAT IT READS IS OF BULK AT MOST 1048576: true; the input reads as it did. -/
def fnExactParseWholeUptoRow : OpenClaim := { program := "ytebkpaonmeokgaa", sum := "e3da648ace15f19dbc3a29c018bf55697a7864c33ecd85bbda858514ff60e731", func := "loop.example/g01156/laws.FnExactParseWhole", spec := "fnExactParseWhole", apart := false, narrowed := true }
def FnExactParseWholeUptoSaid : Prop := fnExactParseWholeUptoRow.holds Try.pinned (OpenSpec.upto fnExactParseWholeSpec)

/-- 'laws.FnExactParseDyadic', WHERE WHAT IT READS IS OF BULK AT MOST 1048576: true; the input reads as it did. -/
def fnExactParseDyadicUptoRow : OpenClaim := { program := "ytebkpaonmeokgaa", sum := "e3da648ace15f19dbc3a29c018bf55697a7864c33ecd85bbda858514ff60e731", func := "loop.example/g01156/laws.FnExactParseDyadic", spec := "fnExactParseDyadic", inPlace := ["internal/bytealg.IndexByteString", "internal/bytealg.IndexString"], named := ["internal/bytealg.MaxLen"], apart := false, narrowed := true }
def FnExactParseDyadicUptoSaid : Prop := fnExactParseDyadicUptoRow.holds Try.pinned (OpenSpec.upto fnExactParseDyadicSpec)

end Rows
end Go.Proofs.Ytebkpaonmeokgaa
