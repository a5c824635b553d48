/-
  NARROWER THAN 'FOR EVERY INPUT', by the rows' own cells (each row's printed sentence says how): FnWholeRoots: laid · FnWholeTexts: laid · FnFloats: laid · FnExactShiftWhole: laid · FnExactTwosIn: laid · FnExactWholeText: laid · FnExactMakeDyadic: laid · FnExactDyadicOf: laid · FnExactDyadicOfNarrow: laid · FnExactFloatOf: laid · FnExactFloatOfNarrow: laid.
  DERIVED. THE GIVEN ROWS OF THIS SEAT. 11 by the template 'for every input the law returns true; each argument reads behind the call as it read before'; 0 by the template 'total and deterministic' (their statements: YtjbicokkihjmjaaDoorTotals.lean).
  GIVEN WITH THE SEED: the statements are not yours to turn. If you find one false, say at which input.
  Laid BY PROGRAM, IN A SANDBOX (cutbox-rows.mjs): the forced cells as the released guide's own fill.sh prints them over the translation 1ac2df8048e86e43… (all of the seat's roots in one cut). By AI agents, Wed Nov 11 2026. No macro, syntax, notation, axiom, sorry.
-/
import Derived.Test.YtjbicokkihjmjaaDoorChecked
import GoSem.Claim
import GoSem.ClaimJoined
import GoSem.ClaimMapViews
import Derived.JoinedTies
import Derived.KernelRfl
namespace Go.Proofs.YtjbicokkihjmjaaDoor
/- THE CELL 'sum', in the pinned program and in every row, IS THE sha256 OF THE DUMP (.gsa) THAT YtjbicokkihjmjaaDoorProg.lean LOADS. Nothing in Lean hashes anything: it is a label: what it is worth is what the hold of that sum in a sandbox is worth. -/
noncomputable def Tryd.pinned : Pinned := { name := "ytjbicokkihjmjaadoor", sum := "1ac2df8048e86e432da962937d348567dbc13e62e2727155660495c89736b69e", checked := Tryd.checked }
namespace Rows
def none {H : Type} : Left H := { results := [], args := [] }

/- WHAT THE LISTED PACKAGE-LEVEL VARIABLES READ AS WHEN THE CALL BEGINS. Each datum BY PROGRAM (the guide's laid-datum.mjs) off the statement by which the dump's own 'gosem.cut.vars' lays the variable. In a bare row this is a premise. The card (YtjbicokkihjmjaaDoorCards.lean) ties it to the program's text. -/
def laid_math_bits_deBruijn64tab {H : Type} : DataW H := .agg [.lit (.int .u8 0), .lit (.int .u8 1), .lit (.int .u8 56), .lit (.int .u8 2), .lit (.int .u8 57), .lit (.int .u8 49), .lit (.int .u8 28), .lit (.int .u8 3), .lit (.int .u8 61), .lit (.int .u8 58), .lit (.int .u8 42), .lit (.int .u8 50), .lit (.int .u8 38), .lit (.int .u8 29), .lit (.int .u8 17), .lit (.int .u8 4), .lit (.int .u8 62), .lit (.int .u8 47), .lit (.int .u8 59), .lit (.int .u8 36), .lit (.int .u8 45), .lit (.int .u8 43), .lit (.int .u8 51), .lit (.int .u8 22), .lit (.int .u8 53), .lit (.int .u8 39), .lit (.int .u8 33), .lit (.int .u8 30), .lit (.int .u8 24), .lit (.int .u8 18), .lit (.int .u8 12), .lit (.int .u8 5), .lit (.int .u8 63), .lit (.int .u8 55), .lit (.int .u8 48), .lit (.int .u8 27), .lit (.int .u8 60), .lit (.int .u8 41), .lit (.int .u8 37), .lit (.int .u8 16), .lit (.int .u8 46), .lit (.int .u8 35), .lit (.int .u8 44), .lit (.int .u8 21), .lit (.int .u8 52), .lit (.int .u8 32), .lit (.int .u8 23), .lit (.int .u8 11), .lit (.int .u8 54), .lit (.int .u8 26), .lit (.int .u8 40), .lit (.int .u8 15), .lit (.int .u8 34), .lit (.int .u8 20), .lit (.int .u8 31), .lit (.int .u8 10), .lit (.int .u8 25), .lit (.int .u8 14), .lit (.int .u8 19), .lit (.int .u8 9), .lit (.int .u8 13), .lit (.int .u8 8), .lit (.int .u8 7), .lit (.int .u8 6)]
def laid_math_bits_deBruijn32tab {H : Type} : DataW H := .agg [.lit (.int .u8 0), .lit (.int .u8 1), .lit (.int .u8 28), .lit (.int .u8 2), .lit (.int .u8 29), .lit (.int .u8 14), .lit (.int .u8 24), .lit (.int .u8 3), .lit (.int .u8 30), .lit (.int .u8 22), .lit (.int .u8 20), .lit (.int .u8 15), .lit (.int .u8 25), .lit (.int .u8 17), .lit (.int .u8 4), .lit (.int .u8 8), .lit (.int .u8 31), .lit (.int .u8 27), .lit (.int .u8 13), .lit (.int .u8 23), .lit (.int .u8 21), .lit (.int .u8 19), .lit (.int .u8 16), .lit (.int .u8 7), .lit (.int .u8 26), .lit (.int .u8 12), .lit (.int .u8 18), .lit (.int .u8 6), .lit (.int .u8 11), .lit (.int .u8 5), .lit (.int .u8 10), .lit (.int .u8 9)]
def laid_internal_strconv_uint64pow10 {H : Type} : DataW H := .agg [.lit (.int .u64 1), .lit (.int .u64 10), .lit (.int .u64 100), .lit (.int .u64 1000), .lit (.int .u64 10000), .lit (.int .u64 100000), .lit (.int .u64 1000000), .lit (.int .u64 10000000), .lit (.int .u64 100000000), .lit (.int .u64 1000000000), .lit (.int .u64 10000000000), .lit (.int .u64 100000000000), .lit (.int .u64 1000000000000), .lit (.int .u64 10000000000000), .lit (.int .u64 100000000000000), .lit (.int .u64 1000000000000000), .lit (.int .u64 10000000000000000), .lit (.int .u64 100000000000000000), .lit (.int .u64 1000000000000000000), .lit (.int .u64 10000000000000000000)]

/-- 'laws.FnWholeRoots': WHATEVER THE INPUT: true; the input reads as it did. -/
def fnWholeRootsSpec : ChangeSpec := { name := "fnWholeRoots", fn := fun _ => fun
  | [d] => { results := [.lit (.bool true)], args := [d] }
  | _ => none }
def fnWholeRootsRow : OpenClaim := { program := "ytjbicokkihjmjaadoor", sum := "1ac2df8048e86e432da962937d348567dbc13e62e2727155660495c89736b69e", func := "loop.example/g01156/laws.FnWholeRoots", spec := "fnWholeRoots", named := ["math/bits.divideError", "math/bits.overflowError", "math/bits.deBruijn64tab"], apart := false, laid := [("math/bits.deBruijn64tab", laid_math_bits_deBruijn64tab)] }
def FnWholeRootsSaid : Prop := fnWholeRootsRow.holds Tryd.pinned (OpenSpec.ofChange fnWholeRootsSpec)

/-- ITS FALSE NEIGHBOUR: 'it returns false'. Refute it at one input. -/
def fnWholeRootsWrong : ChangeSpec := { name := "fnWholeRoots", fn := fun _ => fun
  | [d] => { results := [.lit (.bool false)], args := [d] }
  | _ => none }
def FnWholeRootsWrongFalsely : Prop := fnWholeRootsRow.holds Tryd.pinned (OpenSpec.ofChange fnWholeRootsWrong)

/-- 'laws.FnWholeTexts': WHATEVER THE INPUT: true; the input reads as it did. -/
def fnWholeTextsSpec : ChangeSpec := { name := "fnWholeTexts", fn := fun _ => fun
  | [d] => { results := [.lit (.bool true)], args := [d] }
  | _ => none }
def fnWholeTextsRow : OpenClaim := { program := "ytjbicokkihjmjaadoor", sum := "1ac2df8048e86e432da962937d348567dbc13e62e2727155660495c89736b69e", func := "loop.example/g01156/laws.FnWholeTexts", spec := "fnWholeTexts", inPlace := ["internal/abi.NoEscape", "internal/bytealg.MakeNoZero"], recurses := true, named := ["internal/strconv.uint64pow10", "math/bits.deBruijn32tab", "math/bits.deBruijn64tab"], apart := false, laid := [("math/bits.deBruijn32tab", laid_math_bits_deBruijn32tab), ("math/bits.deBruijn64tab", laid_math_bits_deBruijn64tab), ("internal/strconv.uint64pow10", laid_internal_strconv_uint64pow10)] }
def FnWholeTextsSaid : Prop := fnWholeTextsRow.holds Tryd.pinned (OpenSpec.ofChange fnWholeTextsSpec)

/-- ITS FALSE NEIGHBOUR: 'it returns false'. Refute it at one input. -/
def fnWholeTextsWrong : ChangeSpec := { name := "fnWholeTexts", fn := fun _ => fun
  | [d] => { results := [.lit (.bool false)], args := [d] }
  | _ => none }
def FnWholeTextsWrongFalsely : Prop := fnWholeTextsRow.holds Tryd.pinned (OpenSpec.ofChange fnWholeTextsWrong)

/-- 'laws.FnFloats': WHATEVER THE INPUT: true; the input reads as it did. -/
def fnFloatsSpec : ChangeSpec := { name := "fnFloats", fn := fun _ => fun
  | [d] => { results := [.lit (.bool true)], args := [d] }
  | _ => none }
def fnFloatsRow : OpenClaim := { program := "ytjbicokkihjmjaadoor", sum := "1ac2df8048e86e432da962937d348567dbc13e62e2727155660495c89736b69e", func := "loop.example/g01156/laws.FnFloats", spec := "fnFloats", inPlace := ["math.Float64bits", "math.Float64frombits"], unfollowed := true, recurses := true, named := ["math/bits.deBruijn64tab"], apart := false, laid := [("math/bits.deBruijn64tab", laid_math_bits_deBruijn64tab)] }
def FnFloatsSaid : Prop := fnFloatsRow.holds Tryd.pinned (OpenSpec.ofChange fnFloatsSpec)

/-- ITS FALSE NEIGHBOUR: 'it returns false'. Refute it at one input. -/
def fnFloatsWrong : ChangeSpec := { name := "fnFloats", fn := fun _ => fun
  | [d] => { results := [.lit (.bool false)], args := [d] }
  | _ => none }
def FnFloatsWrongFalsely : Prop := fnFloatsRow.holds Tryd.pinned (OpenSpec.ofChange fnFloatsWrong)

/-- 'laws.FnExactShiftWhole': WHATEVER THE INPUT: true; the input reads as it did. -/
def fnExactShiftWholeSpec : ChangeSpec := { name := "fnExactShiftWhole", fn := fun _ => fun
  | [d1, d2] => { results := [.lit (.bool true)], args := [d1, d2] }
  | _ => none }
def fnExactShiftWholeRow : OpenClaim := { program := "ytjbicokkihjmjaadoor", sum := "1ac2df8048e86e432da962937d348567dbc13e62e2727155660495c89736b69e", func := "loop.example/g01156/laws.FnExactShiftWhole", spec := "fnExactShiftWhole", named := ["math/bits.deBruijn64tab"], apart := false, laid := [("math/bits.deBruijn64tab", laid_math_bits_deBruijn64tab)] }
def FnExactShiftWholeSaid : Prop := fnExactShiftWholeRow.holds Tryd.pinned (OpenSpec.ofChange fnExactShiftWholeSpec)

/-- ITS FALSE NEIGHBOUR: 'it returns false'. Refute it at one input. -/
def fnExactShiftWholeWrong : ChangeSpec := { name := "fnExactShiftWhole", fn := fun _ => fun
  | [d1, d2] => { results := [.lit (.bool false)], args := [d1, d2] }
  | _ => none }
def FnExactShiftWholeWrongFalsely : Prop := fnExactShiftWholeRow.holds Tryd.pinned (OpenSpec.ofChange fnExactShiftWholeWrong)

/-- 'laws.FnExactTwosIn': WHATEVER THE INPUT: true; the input reads as it did. -/
def fnExactTwosInSpec : ChangeSpec := { name := "fnExactTwosIn", fn := fun _ => fun
  | [d] => { results := [.lit (.bool true)], args := [d] }
  | _ => none }
def fnExactTwosInRow : OpenClaim := { program := "ytjbicokkihjmjaadoor", sum := "1ac2df8048e86e432da962937d348567dbc13e62e2727155660495c89736b69e", func := "loop.example/g01156/laws.FnExactTwosIn", spec := "fnExactTwosIn", named := ["math/bits.deBruijn64tab"], apart := false, laid := [("math/bits.deBruijn64tab", laid_math_bits_deBruijn64tab)] }
def FnExactTwosInSaid : Prop := fnExactTwosInRow.holds Tryd.pinned (OpenSpec.ofChange fnExactTwosInSpec)

/-- ITS FALSE NEIGHBOUR: 'it returns false'. Refute it at one input. -/
def fnExactTwosInWrong : ChangeSpec := { name := "fnExactTwosIn", fn := fun _ => fun
  | [d] => { results := [.lit (.bool false)], args := [d] }
  | _ => none }
def FnExactTwosInWrongFalsely : Prop := fnExactTwosInRow.holds Tryd.pinned (OpenSpec.ofChange fnExactTwosInWrong)

/-- 'laws.FnExactWholeText': WHATEVER THE INPUT: true; the input reads as it did. -/
def fnExactWholeTextSpec : ChangeSpec := { name := "fnExactWholeText", fn := fun _ => fun
  | [d] => { results := [.lit (.bool true)], args := [d] }
  | _ => none }
def fnExactWholeTextRow : OpenClaim := { program := "ytjbicokkihjmjaadoor", sum := "1ac2df8048e86e432da962937d348567dbc13e62e2727155660495c89736b69e", func := "loop.example/g01156/laws.FnExactWholeText", spec := "fnExactWholeText", inPlace := ["internal/abi.NoEscape", "internal/bytealg.MakeNoZero"], recurses := true, named := ["internal/strconv.uint64pow10", "math/bits.deBruijn32tab", "math/bits.deBruijn64tab"], apart := false, laid := [("math/bits.deBruijn32tab", laid_math_bits_deBruijn32tab), ("math/bits.deBruijn64tab", laid_math_bits_deBruijn64tab), ("internal/strconv.uint64pow10", laid_internal_strconv_uint64pow10)] }
def FnExactWholeTextSaid : Prop := fnExactWholeTextRow.holds Tryd.pinned (OpenSpec.ofChange fnExactWholeTextSpec)

/-- ITS FALSE NEIGHBOUR: 'it returns false'. Refute it at one input. -/
def fnExactWholeTextWrong : ChangeSpec := { name := "fnExactWholeText", fn := fun _ => fun
  | [d] => { results := [.lit (.bool false)], args := [d] }
  | _ => none }
def FnExactWholeTextWrongFalsely : Prop := fnExactWholeTextRow.holds Tryd.pinned (OpenSpec.ofChange fnExactWholeTextWrong)

/-- 'laws.FnExactMakeDyadic': WHATEVER THE INPUT: true; the input reads as it did. -/
def fnExactMakeDyadicSpec : ChangeSpec := { name := "fnExactMakeDyadic", fn := fun _ => fun
  | [d1, d2] => { results := [.lit (.bool true)], args := [d1, d2] }
  | _ => none }
def fnExactMakeDyadicRow : OpenClaim := { program := "ytjbicokkihjmjaadoor", sum := "1ac2df8048e86e432da962937d348567dbc13e62e2727155660495c89736b69e", func := "loop.example/g01156/laws.FnExactMakeDyadic", spec := "fnExactMakeDyadic", named := ["math/bits.deBruijn64tab"], apart := false, laid := [("math/bits.deBruijn64tab", laid_math_bits_deBruijn64tab)] }
def FnExactMakeDyadicSaid : Prop := fnExactMakeDyadicRow.holds Tryd.pinned (OpenSpec.ofChange fnExactMakeDyadicSpec)

/-- ITS FALSE NEIGHBOUR: 'it returns false'. Refute it at one input. -/
def fnExactMakeDyadicWrong : ChangeSpec := { name := "fnExactMakeDyadic", fn := fun _ => fun
  | [d1, d2] => { results := [.lit (.bool false)], args := [d1, d2] }
  | _ => none }
def FnExactMakeDyadicWrongFalsely : Prop := fnExactMakeDyadicRow.holds Tryd.pinned (OpenSpec.ofChange fnExactMakeDyadicWrong)

/-- 'laws.FnExactDyadicOf': WHATEVER THE INPUT: true; the input reads as it did. -/
def fnExactDyadicOfSpec : ChangeSpec := { name := "fnExactDyadicOf", fn := fun _ => fun
  | [d] => { results := [.lit (.bool true)], args := [d] }
  | _ => none }
def fnExactDyadicOfRow : OpenClaim := { program := "ytjbicokkihjmjaadoor", sum := "1ac2df8048e86e432da962937d348567dbc13e62e2727155660495c89736b69e", func := "loop.example/g01156/laws.FnExactDyadicOf", spec := "fnExactDyadicOf", inPlace := ["math.Float64bits", "math.Float64frombits"], unfollowed := true, recurses := true, named := ["math/bits.deBruijn64tab"], apart := false, laid := [("math/bits.deBruijn64tab", laid_math_bits_deBruijn64tab)] }
def FnExactDyadicOfSaid : Prop := fnExactDyadicOfRow.holds Tryd.pinned (OpenSpec.ofChange fnExactDyadicOfSpec)

/-- ITS FALSE NEIGHBOUR: 'it returns false'. Refute it at one input. -/
def fnExactDyadicOfWrong : ChangeSpec := { name := "fnExactDyadicOf", fn := fun _ => fun
  | [d] => { results := [.lit (.bool false)], args := [d] }
  | _ => none }
def FnExactDyadicOfWrongFalsely : Prop := fnExactDyadicOfRow.holds Tryd.pinned (OpenSpec.ofChange fnExactDyadicOfWrong)

/-- 'laws.FnExactDyadicOfNarrow': WHATEVER THE INPUT: true; the input reads as it did. -/
def fnExactDyadicOfNarrowSpec : ChangeSpec := { name := "fnExactDyadicOfNarrow", fn := fun _ => fun
  | [d] => { results := [.lit (.bool true)], args := [d] }
  | _ => none }
def fnExactDyadicOfNarrowRow : OpenClaim := { program := "ytjbicokkihjmjaadoor", sum := "1ac2df8048e86e432da962937d348567dbc13e62e2727155660495c89736b69e", func := "loop.example/g01156/laws.FnExactDyadicOfNarrow", spec := "fnExactDyadicOfNarrow", inPlace := ["math.Float64bits", "math.Float64frombits"], unfollowed := true, recurses := true, named := ["math/bits.deBruijn64tab"], apart := false, laid := [("math/bits.deBruijn64tab", laid_math_bits_deBruijn64tab)] }
def FnExactDyadicOfNarrowSaid : Prop := fnExactDyadicOfNarrowRow.holds Tryd.pinned (OpenSpec.ofChange fnExactDyadicOfNarrowSpec)

/-- ITS FALSE NEIGHBOUR: 'it returns false'. Refute it at one input. -/
def fnExactDyadicOfNarrowWrong : ChangeSpec := { name := "fnExactDyadicOfNarrow", fn := fun _ => fun
  | [d] => { results := [.lit (.bool false)], args := [d] }
  | _ => none }
def FnExactDyadicOfNarrowWrongFalsely : Prop := fnExactDyadicOfNarrowRow.holds Tryd.pinned (OpenSpec.ofChange fnExactDyadicOfNarrowWrong)

/-- 'laws.FnExactFloatOf': WHATEVER THE INPUT: true; the input reads as it did. -/
def fnExactFloatOfSpec : ChangeSpec := { name := "fnExactFloatOf", fn := fun _ => fun
  | [d] => { results := [.lit (.bool true)], args := [d] }
  | _ => none }
def fnExactFloatOfRow : OpenClaim := { program := "ytjbicokkihjmjaadoor", sum := "1ac2df8048e86e432da962937d348567dbc13e62e2727155660495c89736b69e", func := "loop.example/g01156/laws.FnExactFloatOf", spec := "fnExactFloatOf", inPlace := ["math.Float64bits", "math.Float64frombits"], named := ["math/bits.deBruijn64tab"], apart := false, laid := [("math/bits.deBruijn64tab", laid_math_bits_deBruijn64tab)] }
def FnExactFloatOfSaid : Prop := fnExactFloatOfRow.holds Tryd.pinned (OpenSpec.ofChange fnExactFloatOfSpec)

/-- ITS FALSE NEIGHBOUR: 'it returns false'. Refute it at one input. -/
def fnExactFloatOfWrong : ChangeSpec := { name := "fnExactFloatOf", fn := fun _ => fun
  | [d] => { results := [.lit (.bool false)], args := [d] }
  | _ => none }
def FnExactFloatOfWrongFalsely : Prop := fnExactFloatOfRow.holds Tryd.pinned (OpenSpec.ofChange fnExactFloatOfWrong)

/-- 'laws.FnExactFloatOfNarrow': WHATEVER THE INPUT: true; the input reads as it did. -/
def fnExactFloatOfNarrowSpec : ChangeSpec := { name := "fnExactFloatOfNarrow", fn := fun _ => fun
  | [d] => { results := [.lit (.bool true)], args := [d] }
  | _ => none }
def fnExactFloatOfNarrowRow : OpenClaim := { program := "ytjbicokkihjmjaadoor", sum := "1ac2df8048e86e432da962937d348567dbc13e62e2727155660495c89736b69e", func := "loop.example/g01156/laws.FnExactFloatOfNarrow", spec := "fnExactFloatOfNarrow", inPlace := ["math.Float64bits", "math.Float64frombits"], named := ["math/bits.deBruijn64tab"], apart := false, laid := [("math/bits.deBruijn64tab", laid_math_bits_deBruijn64tab)] }
def FnExactFloatOfNarrowSaid : Prop := fnExactFloatOfNarrowRow.holds Tryd.pinned (OpenSpec.ofChange fnExactFloatOfNarrowSpec)

/-- ITS FALSE NEIGHBOUR: 'it returns false'. Refute it at one input. -/
def fnExactFloatOfNarrowWrong : ChangeSpec := { name := "fnExactFloatOfNarrow", fn := fun _ => fun
  | [d] => { results := [.lit (.bool false)], args := [d] }
  | _ => none }
def FnExactFloatOfNarrowWrongFalsely : Prop := fnExactFloatOfNarrowRow.holds Tryd.pinned (OpenSpec.ofChange fnExactFloatOfNarrowWrong)

/- THE SECOND FORM. 'bulk': how many values and letters a reading holds, each counted each time it is reached (what is shared counts as often as it is met; a slice's spare places count too). A statement '..UptoSaid' is the law's where the arguments, and the package variables that the reading takes, are together of bulk at most 1048576: NARROWER than '..Said'. Prove '..Said' where nothing that the law and all that it calls make is longer than what came in: it says more and counts as full. Else prove '..UptoSaid'. A law counts once. -/
mutual
def uptoBulk {H : Type} : DataW H → Nat
  | .lit (.string bytes) => bytes.length + 1
  | .lit _ => 1
  | .nil => 1
  | .ptr d => uptoBulk d + 1
  | .slice elems spare => uptoBulkAll elems + uptoBulkAll spare + 1
  | .agg parts => uptoBulkAll parts + 1
  | .iface _ d => uptoBulk d + 1
  | .map entries => uptoBulkEntries entries + 1
  | .held _ => 1
def uptoBulkAll {H : Type} : List (DataW H) → Nat
  | [] => 0
  | d :: r => uptoBulk d + uptoBulkAll r
def uptoBulkEntries {H : Type} : List (Lit × DataW H) → Nat
  | [] => 0
  | x :: r => uptoBulkEntry x + uptoBulkEntries r
def uptoBulkEntry {H : Type} : Lit × DataW H → Nat
  | (.string bytes, d) => bytes.length + uptoBulk d + 1
  | (_, d) => uptoBulk d + 1
 end
def uptoSmall : (H : Type) → List (DataW H) → Bool := fun _ ds => decide (uptoBulkAll ds ≤ 1048576)
def OpenSpec.upto (s : _root_.Go.ChangeSpec) : _root_.Go.OpenSpec := { _root_.Go.OpenSpec.ofChange s with cond := some uptoSmall }

/-- 'laws.FnWholeRoots', WHERE WHAT IT READS IS OF BULK AT MOST 1048576: true; the input reads as it did. -/
def fnWholeRootsUptoRow : OpenClaim := { program := "ytjbicokkihjmjaadoor", sum := "1ac2df8048e86e432da962937d348567dbc13e62e2727155660495c89736b69e", func := "loop.example/g01156/laws.FnWholeRoots", spec := "fnWholeRoots", named := ["math/bits.divideError", "math/bits.overflowError", "math/bits.deBruijn64tab"], apart := false, laid := [("math/bits.deBruijn64tab", laid_math_bits_deBruijn64tab)], narrowed := true }
def FnWholeRootsUptoSaid : Prop := fnWholeRootsUptoRow.holds Tryd.pinned (OpenSpec.upto fnWholeRootsSpec)

/-- 'laws.FnWholeTexts', WHERE WHAT IT READS IS OF BULK AT MOST 1048576: true; the input reads as it did. -/
def fnWholeTextsUptoRow : OpenClaim := { program := "ytjbicokkihjmjaadoor", sum := "1ac2df8048e86e432da962937d348567dbc13e62e2727155660495c89736b69e", func := "loop.example/g01156/laws.FnWholeTexts", spec := "fnWholeTexts", inPlace := ["internal/abi.NoEscape", "internal/bytealg.MakeNoZero"], recurses := true, named := ["internal/strconv.uint64pow10", "math/bits.deBruijn32tab", "math/bits.deBruijn64tab"], apart := false, laid := [("math/bits.deBruijn32tab", laid_math_bits_deBruijn32tab), ("math/bits.deBruijn64tab", laid_math_bits_deBruijn64tab), ("internal/strconv.uint64pow10", laid_internal_strconv_uint64pow10)], narrowed := true }
def FnWholeTextsUptoSaid : Prop := fnWholeTextsUptoRow.holds Tryd.pinned (OpenSpec.upto fnWholeTextsSpec)

/-- 'laws.FnFloats', WHERE WHAT IT READS IS OF BULK AT MOST 1048576: true; the input reads as it did. -/
def fnFloatsUptoRow : OpenClaim := { program := "ytjbicokkihjmjaadoor", sum := "1ac2df8048e86e432da962937d348567dbc13e62e2727155660495c89736b69e", func := "loop.example/g01156/laws.FnFloats", spec := "fnFloats", inPlace := ["math.Float64bits", "math.Float64frombits"], unfollowed := true, recurses := true, named := ["math/bits.deBruijn64tab"], apart := false, laid := [("math/bits.deBruijn64tab", laid_math_bits_deBruijn64tab)], narrowed := true }
def FnFloatsUptoSaid : Prop := fnFloatsUptoRow.holds Tryd.pinned (OpenSpec.upto fnFloatsSpec)

/-- 'laws.FnExactShiftWhole', WHERE WHAT IT READS IS OF BULK AT MOST 1048576: true; the input reads as it did. -/
def fnExactShiftWholeUptoRow : OpenClaim := { program := "ytjbicokkihjmjaadoor", sum := "1ac2df8048e86e432da962937d348567dbc13e62e2727155660495c89736b69e", func := "loop.example/g01156/laws.FnExactShiftWhole", spec := "fnExactShiftWhole", named := ["math/bits.deBruijn64tab"], apart := false, laid := [("math/bits.deBruijn64tab", laid_math_bits_deBruijn64tab)], narrowed := true }
def FnExactShiftWholeUptoSaid : Prop := fnExactShiftWholeUptoRow.holds Tryd.pinned (OpenSpec.upto fnExactShiftWholeSpec)

/-- 'laws.FnExactTwosIn', WHERE WHAT IT READS IS OF BULK AT MOST 1048576: true; the input reads as it did. -/
def fnExactTwosInUptoRow : OpenClaim := { program := "ytjbicokkihjmjaadoor", sum := "1ac2df8048e86e432da962937d348567dbc13e62e2727155660495c89736b69e", func := "loop.example/g01156/laws.FnExactTwosIn", spec := "fnExactTwosIn", named := ["math/bits.deBruijn64tab"], apart := false, laid := [("math/bits.deBruijn64tab", laid_math_bits_deBruijn64tab)], narrowed := true }
def FnExactTwosInUptoSaid : Prop := fnExactTwosInUptoRow.holds Tryd.pinned (OpenSpec.upto fnExactTwosInSpec)

/-- 'laws.FnExactWholeText', WHERE WHAT IT READS IS OF BULK AT MOST 1048576: true; the input reads as it did. -/
def fnExactWholeTextUptoRow : OpenClaim := { program := "ytjbicokkihjmjaadoor", sum := "1ac2df8048e86e432da962937d348567dbc13e62e2727155660495c89736b69e", func := "loop.example/g01156/laws.FnExactWholeText", spec := "fnExactWholeText", inPlace := ["internal/abi.NoEscape", "internal/bytealg.MakeNoZero"], recurses := true, named := ["internal/strconv.uint64pow10", "math/bits.deBruijn32tab", "math/bits.deBruijn64tab"], apart := false, laid := [("math/bits.deBruijn32tab", laid_math_bits_deBruijn32tab), ("math/bits.deBruijn64tab", laid_math_bits_deBruijn64tab), ("internal/strconv.uint64pow10", laid_internal_strconv_uint64pow10)], narrowed := true }
def FnExactWholeTextUptoSaid : Prop := fnExactWholeTextUptoRow.holds Tryd.pinned (OpenSpec.upto fnExactWholeTextSpec)

/-- 'laws.FnExactMakeDyadic', WHERE WHAT IT READS IS OF BULK AT MOST 1048576: true; the input reads as it did. -/
def fnExactMakeDyadicUptoRow : OpenClaim := { program := "ytjbicokkihjmjaadoor", sum := "1ac2df8048e86e432da962937d348567dbc13e62e2727155660495c89736b69e", func := "loop.example/g01156/laws.FnExactMakeDyadic", spec := "fnExactMakeDyadic", named := ["math/bits.deBruijn64tab"], apart := false, laid := [("math/bits.deBruijn64tab", laid_math_bits_deBruijn64tab)], narrowed := true }
def FnExactMakeDyadicUptoSaid : Prop := fnExactMakeDyadicUptoRow.holds Tryd.pinned (OpenSpec.upto fnExactMakeDyadicSpec)

/-- 'laws.FnExactDyadicOf', WHERE WHAT IT READS IS OF BULK AT MOST 1048576: true; the input reads as it did. -/
def fnExactDyadicOfUptoRow : OpenClaim := { program := "ytjbicokkihjmjaadoor", sum := "1ac2df8048e86e432da962937d348567dbc13e62e2727155660495c89736b69e", func := "loop.example/g01156/laws.FnExactDyadicOf", spec := "fnExactDyadicOf", inPlace := ["math.Float64bits", "math.Float64frombits"], unfollowed := true, recurses := true, named := ["math/bits.deBruijn64tab"], apart := false, laid := [("math/bits.deBruijn64tab", laid_math_bits_deBruijn64tab)], narrowed := true }
def FnExactDyadicOfUptoSaid : Prop := fnExactDyadicOfUptoRow.holds Tryd.pinned (OpenSpec.upto fnExactDyadicOfSpec)

/-- 'laws.FnExactDyadicOfNarrow', WHERE WHAT IT READS IS OF BULK AT MOST 1048576: true; the input reads as it did. -/
def fnExactDyadicOfNarrowUptoRow : OpenClaim := { program := "ytjbicokkihjmjaadoor", sum := "1ac2df8048e86e432da962937d348567dbc13e62e2727155660495c89736b69e", func := "loop.example/g01156/laws.FnExactDyadicOfNarrow", spec := "fnExactDyadicOfNarrow", inPlace := ["math.Float64bits", "math.Float64frombits"], unfollowed := true, recurses := true, named := ["math/bits.deBruijn64tab"], apart := false, laid := [("math/bits.deBruijn64tab", laid_math_bits_deBruijn64tab)], narrowed := true }
def FnExactDyadicOfNarrowUptoSaid : Prop := fnExactDyadicOfNarrowUptoRow.holds Tryd.pinned (OpenSpec.upto fnExactDyadicOfNarrowSpec)

/-- 'laws.FnExactFloatOf', WHERE WHAT IT READS IS OF BULK AT MOST 1048576: true; the input reads as it did. -/
def fnExactFloatOfUptoRow : OpenClaim := { program := "ytjbicokkihjmjaadoor", sum := "1ac2df8048e86e432da962937d348567dbc13e62e2727155660495c89736b69e", func := "loop.example/g01156/laws.FnExactFloatOf", spec := "fnExactFloatOf", inPlace := ["math.Float64bits", "math.Float64frombits"], named := ["math/bits.deBruijn64tab"], apart := false, laid := [("math/bits.deBruijn64tab", laid_math_bits_deBruijn64tab)], narrowed := true }
def FnExactFloatOfUptoSaid : Prop := fnExactFloatOfUptoRow.holds Tryd.pinned (OpenSpec.upto fnExactFloatOfSpec)

/-- 'laws.FnExactFloatOfNarrow', WHERE WHAT IT READS IS OF BULK AT MOST 1048576: true; the input reads as it did. -/
def fnExactFloatOfNarrowUptoRow : OpenClaim := { program := "ytjbicokkihjmjaadoor", sum := "1ac2df8048e86e432da962937d348567dbc13e62e2727155660495c89736b69e", func := "loop.example/g01156/laws.FnExactFloatOfNarrow", spec := "fnExactFloatOfNarrow", inPlace := ["math.Float64bits", "math.Float64frombits"], named := ["math/bits.deBruijn64tab"], apart := false, laid := [("math/bits.deBruijn64tab", laid_math_bits_deBruijn64tab)], narrowed := true }
def FnExactFloatOfNarrowUptoSaid : Prop := fnExactFloatOfNarrowUptoRow.holds Tryd.pinned (OpenSpec.upto fnExactFloatOfNarrowSpec)

end Rows
end Go.Proofs.YtjbicokkihjmjaaDoor
