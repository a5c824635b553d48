/-
  DERIVED. GIVEN WITH THE SEED: THE CARDS: each row of YtnnbfoemmgddeaaDoorRows.lean that lists a variable, with what it lists TIED to the program's text (the seventh form; the later family's looks); each row that meets fmt, with fmt's text TOLD by the authors' own Lean function (tested against real Go, not proved from fmt's source: count such statements apart). THE CARD IS WHAT COUNTS. Prove the row's statement (the work); the ties are given (YtnnbfoemmgddeaaDoorTie.lean); close each card by the builder's one call (the guide's Derived/Test/ToyasCard.lean, 'card_holds'). Laid BY PROGRAM, IN A SANDBOX (cutbox-door.mjs). By AI agents, Wed Nov 11 2026. No macro, syntax, notation, axiom, sorry.
-/
import Derived.Test.YtnnbfoemmgddeaaDoorRows
import GoSem.ClaimSeven
namespace Go.Proofs.YtnnbfoemmgddeaaDoor
namespace Rows

/-- THE TIED CARD OF 'laws.FnFloats'. -/
def fnFloatsCard : Claim7 := { stood := { row := fnFloatsRow, standIns := [], harness := (true, "c36b46c1d28b1a6cae1c8d4566e87f229f7d3981d2dccbd9535c2f32c6697ed0"), looks := true }, kinds := [], alts := [], laidByText := true, laidKinds := [.data], laidTests := true, laidLooks := .later }
def FnFloatsCardSaid : Prop := Claim7.holds Tryd.pinned (.plain (OpenSpec.ofChange fnFloatsSpec)) fnFloatsCard

/-- THE SECOND FORM's CARD OF 'laws.FnFloats'. -/
def fnFloatsUptoCard : Claim7 := { stood := { row := fnFloatsUptoRow, standIns := [], harness := (true, "c36b46c1d28b1a6cae1c8d4566e87f229f7d3981d2dccbd9535c2f32c6697ed0"), looks := true }, kinds := [], alts := [], laidByText := true, laidKinds := [.data], laidTests := true, laidLooks := .later }
def FnFloatsUptoCardSaid : Prop := Claim7.holds Tryd.pinned (.plain (OpenSpec.upto fnFloatsSpec)) fnFloatsUptoCard
end Rows
end Go.Proofs.YtnnbfoemmgddeaaDoor
