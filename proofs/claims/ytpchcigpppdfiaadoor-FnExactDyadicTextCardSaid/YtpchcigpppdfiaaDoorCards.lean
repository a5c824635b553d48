/-
  DERIVED. GIVEN WITH THE SEED: THE CARDS: each row of YtpchcigpppdfiaaDoorRows.lean that lists a variable, with what it lists TIED to the program's text (the seventh form; the later family's looks); each row that meets fmt, with fmt's text TOLD by the authors' own Lean function (tested against real Go, not proved from fmt's source: count such statements apart). THE CARD IS WHAT COUNTS. Prove the row's statement (the work); the ties are given (YtpchcigpppdfiaaDoorTie.lean); close each card by the builder's one call (the guide's Derived/Test/ToyasCard.lean, 'card_holds'). Laid BY PROGRAM, IN A SANDBOX (cutbox-door.mjs). By AI agents, Wed Nov 11 2026. No macro, syntax, notation, axiom, sorry.
-/
import Derived.Test.YtpchcigpppdfiaaDoorRows
import GoSem.ClaimSeven
namespace Go.Proofs.YtpchcigpppdfiaaDoor
namespace Rows

/-- THE TIED CARD OF 'laws.FnWholeTexts'. -/
def fnWholeTextsCard : Claim7 := { stood := { row := fnWholeTextsRow, standIns := [], harness := (true, "05b8427f85cfa2cfb1f5536c08f04d3d3d9a36bd74a29fd451d155b1985845e2"), looks := false }, kinds := [], alts := [], laidByText := true, laidKinds := [.data, .data, .data], laidTests := true, laidLooks := .later }
def FnWholeTextsCardSaid : Prop := Claim7.holds Tryd.pinned (.plain (OpenSpec.ofChange fnWholeTextsSpec)) fnWholeTextsCard

/-- THE TIED CARD OF 'laws.FnExactWholeText'. -/
def fnExactWholeTextCard : Claim7 := { stood := { row := fnExactWholeTextRow, standIns := [], harness := (true, "05b8427f85cfa2cfb1f5536c08f04d3d3d9a36bd74a29fd451d155b1985845e2"), looks := false }, kinds := [], alts := [], laidByText := true, laidKinds := [.data, .data, .data], laidTests := true, laidLooks := .later }
def FnExactWholeTextCardSaid : Prop := Claim7.holds Tryd.pinned (.plain (OpenSpec.ofChange fnExactWholeTextSpec)) fnExactWholeTextCard

/-- THE TIED CARD OF 'laws.FnExactMultiplyExacts'. -/
def fnExactMultiplyExactsCard : Claim7 := { stood := { row := fnExactMultiplyExactsRow, standIns := [], harness := (true, "05b8427f85cfa2cfb1f5536c08f04d3d3d9a36bd74a29fd451d155b1985845e2"), looks := false }, kinds := [], alts := [], laidByText := true, laidKinds := [.data], laidTests := true, laidLooks := .later }
def FnExactMultiplyExactsCardSaid : Prop := Claim7.holds Tryd.pinned (.plain (OpenSpec.ofChange fnExactMultiplyExactsSpec)) fnExactMultiplyExactsCard

/-- THE TIED CARD OF 'laws.FnExactDyadicText'. -/
def fnExactDyadicTextCard : Claim7 := { stood := { row := fnExactDyadicTextRow, standIns := [], harness := (true, "05b8427f85cfa2cfb1f5536c08f04d3d3d9a36bd74a29fd451d155b1985845e2"), looks := false }, kinds := [], alts := [], laidByText := true, laidKinds := [.data, .data, .data], laidTests := true, laidLooks := .later }
def FnExactDyadicTextCardSaid : Prop := Claim7.holds Tryd.pinned (.plain (OpenSpec.ofChange fnExactDyadicTextSpec)) fnExactDyadicTextCard

/-- THE SECOND FORM's CARD OF 'laws.FnWholeTexts'. -/
def fnWholeTextsUptoCard : Claim7 := { stood := { row := fnWholeTextsUptoRow, standIns := [], harness := (true, "05b8427f85cfa2cfb1f5536c08f04d3d3d9a36bd74a29fd451d155b1985845e2"), looks := false }, kinds := [], alts := [], laidByText := true, laidKinds := [.data, .data, .data], laidTests := true, laidLooks := .later }
def FnWholeTextsUptoCardSaid : Prop := Claim7.holds Tryd.pinned (.plain (OpenSpec.upto fnWholeTextsSpec)) fnWholeTextsUptoCard

/-- THE SECOND FORM's CARD OF 'laws.FnExactWholeText'. -/
def fnExactWholeTextUptoCard : Claim7 := { stood := { row := fnExactWholeTextUptoRow, standIns := [], harness := (true, "05b8427f85cfa2cfb1f5536c08f04d3d3d9a36bd74a29fd451d155b1985845e2"), looks := false }, kinds := [], alts := [], laidByText := true, laidKinds := [.data, .data, .data], laidTests := true, laidLooks := .later }
def FnExactWholeTextUptoCardSaid : Prop := Claim7.holds Tryd.pinned (.plain (OpenSpec.upto fnExactWholeTextSpec)) fnExactWholeTextUptoCard

/-- THE SECOND FORM's CARD OF 'laws.FnExactMultiplyExacts'. -/
def fnExactMultiplyExactsUptoCard : Claim7 := { stood := { row := fnExactMultiplyExactsUptoRow, standIns := [], harness := (true, "05b8427f85cfa2cfb1f5536c08f04d3d3d9a36bd74a29fd451d155b1985845e2"), looks := false }, kinds := [], alts := [], laidByText := true, laidKinds := [.data], laidTests := true, laidLooks := .later }
def FnExactMultiplyExactsUptoCardSaid : Prop := Claim7.holds Tryd.pinned (.plain (OpenSpec.upto fnExactMultiplyExactsSpec)) fnExactMultiplyExactsUptoCard

/-- THE SECOND FORM's CARD OF 'laws.FnExactDyadicText'. -/
def fnExactDyadicTextUptoCard : Claim7 := { stood := { row := fnExactDyadicTextUptoRow, standIns := [], harness := (true, "05b8427f85cfa2cfb1f5536c08f04d3d3d9a36bd74a29fd451d155b1985845e2"), looks := false }, kinds := [], alts := [], laidByText := true, laidKinds := [.data, .data, .data], laidTests := true, laidLooks := .later }
def FnExactDyadicTextUptoCardSaid : Prop := Claim7.holds Tryd.pinned (.plain (OpenSpec.upto fnExactDyadicTextSpec)) fnExactDyadicTextUptoCard
end Rows
end Go.Proofs.YtpchcigpppdfiaaDoor
