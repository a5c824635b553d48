/-
  DERIVED. GIVEN WITH THE SEED: THE CARDS: each row of YtiohacnkiikmcaaDoorRows.lean that lists a variable, with what it lists TIED to the program's text (the seventh form; the later family's looks); each row that meets fmt, with fmt's text TOLD by the authors' own Lean function (tested against real Go, not proved from fmt's source: count such statements apart). THE CARD IS WHAT COUNTS. Prove the row's statement (the work); the ties are given (YtiohacnkiikmcaaDoorTie.lean); close each card by the builder's one call (the guide's Derived/Test/ToyasCard.lean, 'card_holds'). Laid BY PROGRAM, IN A SANDBOX (cutbox-door.mjs). By AI agents, Wed Nov 11 2026. No macro, syntax, notation, axiom, sorry.
-/
import Derived.Test.YtiohacnkiikmcaaDoorRows
import GoSem.ClaimSeven
namespace Go.Proofs.YtiohacnkiikmcaaDoor
namespace Rows

/-- THE TIED CARD OF 'laws.FnExactCompareDyadics'. -/
def fnExactCompareDyadicsCard : Claim7 := { stood := { row := fnExactCompareDyadicsRow, standIns := [], harness := (true, "3075cd09375932adfd617461bd8805225d18b4a4d0eee21a9d9a8d393d642dbf"), looks := false }, kinds := [], alts := [], laidByText := true, laidKinds := [.data], laidTests := true, laidLooks := .later }
def FnExactCompareDyadicsCardSaid : Prop := Claim7.holds Tryd.pinned (.plain (OpenSpec.ofChange fnExactCompareDyadicsSpec)) fnExactCompareDyadicsCard

/-- THE TIED CARD OF 'laws.FnExactRootAbove'. -/
def fnExactRootAboveCard : Claim7 := { stood := { row := fnExactRootAboveRow, standIns := [], harness := (true, "3075cd09375932adfd617461bd8805225d18b4a4d0eee21a9d9a8d393d642dbf"), looks := false }, kinds := [], alts := [], laidByText := true, laidKinds := [.data], laidTests := true, laidLooks := .later }
def FnExactRootAboveCardSaid : Prop := Claim7.holds Tryd.pinned (.plain (OpenSpec.ofChange fnExactRootAboveSpec)) fnExactRootAboveCard

/-- THE SECOND FORM's CARD OF 'laws.FnExactCompareDyadics'. -/
def fnExactCompareDyadicsUptoCard : Claim7 := { stood := { row := fnExactCompareDyadicsUptoRow, standIns := [], harness := (true, "3075cd09375932adfd617461bd8805225d18b4a4d0eee21a9d9a8d393d642dbf"), looks := false }, kinds := [], alts := [], laidByText := true, laidKinds := [.data], laidTests := true, laidLooks := .later }
def FnExactCompareDyadicsUptoCardSaid : Prop := Claim7.holds Tryd.pinned (.plain (OpenSpec.upto fnExactCompareDyadicsSpec)) fnExactCompareDyadicsUptoCard

/-- THE SECOND FORM's CARD OF 'laws.FnExactRootAbove'. -/
def fnExactRootAboveUptoCard : Claim7 := { stood := { row := fnExactRootAboveUptoRow, standIns := [], harness := (true, "3075cd09375932adfd617461bd8805225d18b4a4d0eee21a9d9a8d393d642dbf"), looks := false }, kinds := [], alts := [], laidByText := true, laidKinds := [.data], laidTests := true, laidLooks := .later }
def FnExactRootAboveUptoCardSaid : Prop := Claim7.holds Tryd.pinned (.plain (OpenSpec.upto fnExactRootAboveSpec)) fnExactRootAboveUptoCard
end Rows
end Go.Proofs.YtiohacnkiikmcaaDoor
