/-
  DERIVED. GIVEN WITH THE SEED: THE CARDS: each row of YtgppagmejhgmaaaGreatDoorRows.lean that lists a variable, with what it lists TIED to the program's text (the seventh form; the later family's looks); each row that meets fmt, with fmt's text TOLD by the authors' own Lean function (tested against real Go, not proved from fmt's source: count such statements apart). THE CARD IS WHAT COUNTS. Prove the row's statement (the work); the ties are given (YtgppagmejhgmaaaGreatDoorTie.lean); close each card by the builder's one call (the guide's Derived/Test/ToyasCard.lean, 'card_holds'). Laid BY PROGRAM, IN A SANDBOX (cutbox-door.mjs). By AI agents, Wed Nov 11 2026. No macro, syntax, notation, axiom, sorry.
-/
import Derived.Test.YtgppagmejhgmaaaGreatDoorRows
import GoSem.ClaimSeven
namespace Go.Proofs.YtgppagmejhgmaaaGreatDoor
namespace Rows

/-- THE TIED CARD OF 'laws.FnRootsOfNumbers'. -/
def fnRootsOfNumbersCard : Claim7 := { stood := { row := fnRootsOfNumbersRow, standIns := [], harness := (true, "4ed01ec1c7dc561db855d61eb25bc000645b2767e5c6f81921b49cb39b3028d4"), looks := true }, kinds := [], alts := [], laidByText := true, laidKinds := [.data], laidTests := true, laidLooks := .later }
def FnRootsOfNumbersCardSaid : Prop := Claim7.holds Tryz.pinned (.plain (OpenSpec.ofChange fnRootsOfNumbersSpec)) fnRootsOfNumbersCard

/-- THE SECOND FORM's CARD OF 'laws.FnRootsOfNumbers'. -/
def fnRootsOfNumbersUptoCard : Claim7 := { stood := { row := fnRootsOfNumbersUptoRow, standIns := [], harness := (true, "4ed01ec1c7dc561db855d61eb25bc000645b2767e5c6f81921b49cb39b3028d4"), looks := true }, kinds := [], alts := [], laidByText := true, laidKinds := [.data], laidTests := true, laidLooks := .later }
def FnRootsOfNumbersUptoCardSaid : Prop := Claim7.holds Tryz.pinned (.plain (OpenSpec.upto fnRootsOfNumbersSpec)) fnRootsOfNumbersUptoCard
end Rows
end Go.Proofs.YtgppagmejhgmaaaGreatDoor
