/-
  DERIVED. GIVEN WITH THE SEED: THE CARDS: each row of YtnnbfoemmgddeaaGreatDoorRows.lean that lists a variable, with what it lists TIED to the program's text (the seventh form; the later family's looks); each row that meets fmt, with fmt's text TOLD by the authors' own Lean function (tested against real Go, not proved from fmt's source: count such statements apart). THE CARD IS WHAT COUNTS. Prove the row's statement (the work); the ties are given (YtnnbfoemmgddeaaGreatDoorTie.lean); close each card by the builder's one call (the guide's Derived/Test/ToyasCard.lean, 'card_holds'). Laid BY PROGRAM, IN A SANDBOX (cutbox-door.mjs). By AI agents, Wed Nov 11 2026. No macro, syntax, notation, axiom, sorry.
-/
import Derived.Test.YtnnbfoemmgddeaaGreatDoorRows
import GoSem.ClaimSeven
namespace Go.Proofs.YtnnbfoemmgddeaaGreatDoor
namespace Rows

/-- THE TIED CARD OF 'laws.FnExactParts'. -/
def fnExactPartsCard : Claim7 := { stood := { row := fnExactPartsRow, standIns := [], harness := (true, "64a993466a3ae2fceb0c481827b63150b14e53b13a34e6d2071e3e9e24b0a726"), looks := true }, kinds := [], alts := [], laidByText := true, laidKinds := [.data], laidTests := true, laidLooks := .later }
def FnExactPartsCardSaid : Prop := Claim7.holds Tryz.pinned (.plain (OpenSpec.ofChange fnExactPartsSpec)) fnExactPartsCard

/-- THE TIED CARD OF 'laws.FnRootsOfNumbers'. -/
def fnRootsOfNumbersCard : Claim7 := { stood := { row := fnRootsOfNumbersRow, standIns := [], harness := (true, "64a993466a3ae2fceb0c481827b63150b14e53b13a34e6d2071e3e9e24b0a726"), looks := true }, kinds := [], alts := [], laidByText := true, laidKinds := [.data], laidTests := true, laidLooks := .later }
def FnRootsOfNumbersCardSaid : Prop := Claim7.holds Tryz.pinned (.plain (OpenSpec.ofChange fnRootsOfNumbersSpec)) fnRootsOfNumbersCard

/-- THE TIED CARD OF 'laws.FnWalks'. -/
def fnWalksCard : Claim7 := { stood := { row := fnWalksRow, standIns := [], harness := (true, "64a993466a3ae2fceb0c481827b63150b14e53b13a34e6d2071e3e9e24b0a726"), looks := true }, kinds := [], alts := [], laidByText := true, laidKinds := [.data], laidTests := true, laidLooks := .later }
def FnWalksCardSaid : Prop := Claim7.holds Tryz.pinned (.plain (OpenSpec.ofChange fnWalksSpec)) fnWalksCard

/-- THE TIED CARD OF 'laws.FnDeflations'. -/
def fnDeflationsCard : Claim7 := { stood := { row := fnDeflationsRow, standIns := [], harness := (true, "64a993466a3ae2fceb0c481827b63150b14e53b13a34e6d2071e3e9e24b0a726"), looks := true }, kinds := [], alts := [], laidByText := true, laidKinds := [.data], laidTests := true, laidLooks := .later }
def FnDeflationsCardSaid : Prop := Claim7.holds Tryz.pinned (.plain (OpenSpec.ofChange fnDeflationsSpec)) fnDeflationsCard

/-- THE SECOND FORM's CARD OF 'laws.FnExactParts'. -/
def fnExactPartsUptoCard : Claim7 := { stood := { row := fnExactPartsUptoRow, standIns := [], harness := (true, "64a993466a3ae2fceb0c481827b63150b14e53b13a34e6d2071e3e9e24b0a726"), looks := true }, kinds := [], alts := [], laidByText := true, laidKinds := [.data], laidTests := true, laidLooks := .later }
def FnExactPartsUptoCardSaid : Prop := Claim7.holds Tryz.pinned (.plain (OpenSpec.upto fnExactPartsSpec)) fnExactPartsUptoCard

/-- THE SECOND FORM's CARD OF 'laws.FnRootsOfNumbers'. -/
def fnRootsOfNumbersUptoCard : Claim7 := { stood := { row := fnRootsOfNumbersUptoRow, standIns := [], harness := (true, "64a993466a3ae2fceb0c481827b63150b14e53b13a34e6d2071e3e9e24b0a726"), looks := true }, kinds := [], alts := [], laidByText := true, laidKinds := [.data], laidTests := true, laidLooks := .later }
def FnRootsOfNumbersUptoCardSaid : Prop := Claim7.holds Tryz.pinned (.plain (OpenSpec.upto fnRootsOfNumbersSpec)) fnRootsOfNumbersUptoCard

/-- THE SECOND FORM's CARD OF 'laws.FnWalks'. -/
def fnWalksUptoCard : Claim7 := { stood := { row := fnWalksUptoRow, standIns := [], harness := (true, "64a993466a3ae2fceb0c481827b63150b14e53b13a34e6d2071e3e9e24b0a726"), looks := true }, kinds := [], alts := [], laidByText := true, laidKinds := [.data], laidTests := true, laidLooks := .later }
def FnWalksUptoCardSaid : Prop := Claim7.holds Tryz.pinned (.plain (OpenSpec.upto fnWalksSpec)) fnWalksUptoCard

/-- THE SECOND FORM's CARD OF 'laws.FnDeflations'. -/
def fnDeflationsUptoCard : Claim7 := { stood := { row := fnDeflationsUptoRow, standIns := [], harness := (true, "64a993466a3ae2fceb0c481827b63150b14e53b13a34e6d2071e3e9e24b0a726"), looks := true }, kinds := [], alts := [], laidByText := true, laidKinds := [.data], laidTests := true, laidLooks := .later }
def FnDeflationsUptoCardSaid : Prop := Claim7.holds Tryz.pinned (.plain (OpenSpec.upto fnDeflationsSpec)) fnDeflationsUptoCard
end Rows
end Go.Proofs.YtnnbfoemmgddeaaGreatDoor
