/-
  DERIVED. GIVEN WITH THE SEED: THE CARDS: each row of YtjbicokkihjmjaaDoorRows.lean that lists a variable, with what it lists TIED to the program's text (the seventh form; the later family's looks); each row that meets fmt, with fmt's text TOLD by the authors' own Lean function (tested against real Go, not proved from fmt's source: count such statements apart). THE CARD IS WHAT COUNTS. Prove the row's statement (the work); the ties are given (YtjbicokkihjmjaaDoorTie.lean); close each card by the builder's one call (the guide's Derived/Test/ToyasCard.lean, 'card_holds'). Laid BY PROGRAM, IN A SANDBOX (cutbox-door.mjs). By AI agents, Wed Nov 11 2026. No macro, syntax, notation, axiom, sorry.
-/
import Derived.Test.YtjbicokkihjmjaaDoorRows
import GoSem.ClaimSeven
namespace Go.Proofs.YtjbicokkihjmjaaDoor
namespace Rows

/-- THE TIED CARD OF 'laws.FnWholeRoots'. -/
def fnWholeRootsCard : Claim7 := { stood := { row := fnWholeRootsRow, standIns := [], harness := (true, "3ce037b8cd9d7891d5b9e015653e01d1006313fad568481410d87d224463bcbe"), looks := true }, kinds := [], alts := [], laidByText := true, laidKinds := [.data], laidTests := true, laidLooks := .later }
def FnWholeRootsCardSaid : Prop := Claim7.holds Tryd.pinned (.plain (OpenSpec.ofChange fnWholeRootsSpec)) fnWholeRootsCard

/-- THE TIED CARD OF 'laws.FnWholeTexts'. -/
def fnWholeTextsCard : Claim7 := { stood := { row := fnWholeTextsRow, standIns := [], harness := (true, "3ce037b8cd9d7891d5b9e015653e01d1006313fad568481410d87d224463bcbe"), looks := true }, kinds := [], alts := [], laidByText := true, laidKinds := [.data, .data, .data], laidTests := true, laidLooks := .later }
def FnWholeTextsCardSaid : Prop := Claim7.holds Tryd.pinned (.plain (OpenSpec.ofChange fnWholeTextsSpec)) fnWholeTextsCard

/-- THE TIED CARD OF 'laws.FnFloats'. -/
def fnFloatsCard : Claim7 := { stood := { row := fnFloatsRow, standIns := [], harness := (true, "3ce037b8cd9d7891d5b9e015653e01d1006313fad568481410d87d224463bcbe"), looks := true }, kinds := [], alts := [], laidByText := true, laidKinds := [.data], laidTests := true, laidLooks := .later }
def FnFloatsCardSaid : Prop := Claim7.holds Tryd.pinned (.plain (OpenSpec.ofChange fnFloatsSpec)) fnFloatsCard

/-- THE TIED CARD OF 'laws.FnExactShiftWhole'. -/
def fnExactShiftWholeCard : Claim7 := { stood := { row := fnExactShiftWholeRow, standIns := [], harness := (true, "3ce037b8cd9d7891d5b9e015653e01d1006313fad568481410d87d224463bcbe"), looks := true }, kinds := [], alts := [], laidByText := true, laidKinds := [.data], laidTests := true, laidLooks := .later }
def FnExactShiftWholeCardSaid : Prop := Claim7.holds Tryd.pinned (.plain (OpenSpec.ofChange fnExactShiftWholeSpec)) fnExactShiftWholeCard

/-- THE TIED CARD OF 'laws.FnExactTwosIn'. -/
def fnExactTwosInCard : Claim7 := { stood := { row := fnExactTwosInRow, standIns := [], harness := (true, "3ce037b8cd9d7891d5b9e015653e01d1006313fad568481410d87d224463bcbe"), looks := true }, kinds := [], alts := [], laidByText := true, laidKinds := [.data], laidTests := true, laidLooks := .later }
def FnExactTwosInCardSaid : Prop := Claim7.holds Tryd.pinned (.plain (OpenSpec.ofChange fnExactTwosInSpec)) fnExactTwosInCard

/-- THE TIED CARD OF 'laws.FnExactWholeText'. -/
def fnExactWholeTextCard : Claim7 := { stood := { row := fnExactWholeTextRow, standIns := [], harness := (true, "3ce037b8cd9d7891d5b9e015653e01d1006313fad568481410d87d224463bcbe"), looks := true }, kinds := [], alts := [], laidByText := true, laidKinds := [.data, .data, .data], laidTests := true, laidLooks := .later }
def FnExactWholeTextCardSaid : Prop := Claim7.holds Tryd.pinned (.plain (OpenSpec.ofChange fnExactWholeTextSpec)) fnExactWholeTextCard

/-- THE TIED CARD OF 'laws.FnExactMakeDyadic'. -/
def fnExactMakeDyadicCard : Claim7 := { stood := { row := fnExactMakeDyadicRow, standIns := [], harness := (true, "3ce037b8cd9d7891d5b9e015653e01d1006313fad568481410d87d224463bcbe"), looks := true }, kinds := [], alts := [], laidByText := true, laidKinds := [.data], laidTests := true, laidLooks := .later }
def FnExactMakeDyadicCardSaid : Prop := Claim7.holds Tryd.pinned (.plain (OpenSpec.ofChange fnExactMakeDyadicSpec)) fnExactMakeDyadicCard

/-- THE TIED CARD OF 'laws.FnExactDyadicOf'. -/
def fnExactDyadicOfCard : Claim7 := { stood := { row := fnExactDyadicOfRow, standIns := [], harness := (true, "3ce037b8cd9d7891d5b9e015653e01d1006313fad568481410d87d224463bcbe"), looks := true }, kinds := [], alts := [], laidByText := true, laidKinds := [.data], laidTests := true, laidLooks := .later }
def FnExactDyadicOfCardSaid : Prop := Claim7.holds Tryd.pinned (.plain (OpenSpec.ofChange fnExactDyadicOfSpec)) fnExactDyadicOfCard

/-- THE TIED CARD OF 'laws.FnExactDyadicOfNarrow'. -/
def fnExactDyadicOfNarrowCard : Claim7 := { stood := { row := fnExactDyadicOfNarrowRow, standIns := [], harness := (true, "3ce037b8cd9d7891d5b9e015653e01d1006313fad568481410d87d224463bcbe"), looks := true }, kinds := [], alts := [], laidByText := true, laidKinds := [.data], laidTests := true, laidLooks := .later }
def FnExactDyadicOfNarrowCardSaid : Prop := Claim7.holds Tryd.pinned (.plain (OpenSpec.ofChange fnExactDyadicOfNarrowSpec)) fnExactDyadicOfNarrowCard

/-- THE TIED CARD OF 'laws.FnExactFloatOf'. -/
def fnExactFloatOfCard : Claim7 := { stood := { row := fnExactFloatOfRow, standIns := [], harness := (true, "3ce037b8cd9d7891d5b9e015653e01d1006313fad568481410d87d224463bcbe"), looks := true }, kinds := [], alts := [], laidByText := true, laidKinds := [.data], laidTests := true, laidLooks := .later }
def FnExactFloatOfCardSaid : Prop := Claim7.holds Tryd.pinned (.plain (OpenSpec.ofChange fnExactFloatOfSpec)) fnExactFloatOfCard

/-- THE TIED CARD OF 'laws.FnExactFloatOfNarrow'. -/
def fnExactFloatOfNarrowCard : Claim7 := { stood := { row := fnExactFloatOfNarrowRow, standIns := [], harness := (true, "3ce037b8cd9d7891d5b9e015653e01d1006313fad568481410d87d224463bcbe"), looks := true }, kinds := [], alts := [], laidByText := true, laidKinds := [.data], laidTests := true, laidLooks := .later }
def FnExactFloatOfNarrowCardSaid : Prop := Claim7.holds Tryd.pinned (.plain (OpenSpec.ofChange fnExactFloatOfNarrowSpec)) fnExactFloatOfNarrowCard

/-- THE SECOND FORM's CARD OF 'laws.FnWholeRoots'. -/
def fnWholeRootsUptoCard : Claim7 := { stood := { row := fnWholeRootsUptoRow, standIns := [], harness := (true, "3ce037b8cd9d7891d5b9e015653e01d1006313fad568481410d87d224463bcbe"), looks := true }, kinds := [], alts := [], laidByText := true, laidKinds := [.data], laidTests := true, laidLooks := .later }
def FnWholeRootsUptoCardSaid : Prop := Claim7.holds Tryd.pinned (.plain (OpenSpec.upto fnWholeRootsSpec)) fnWholeRootsUptoCard

/-- THE SECOND FORM's CARD OF 'laws.FnWholeTexts'. -/
def fnWholeTextsUptoCard : Claim7 := { stood := { row := fnWholeTextsUptoRow, standIns := [], harness := (true, "3ce037b8cd9d7891d5b9e015653e01d1006313fad568481410d87d224463bcbe"), looks := true }, kinds := [], alts := [], laidByText := true, laidKinds := [.data, .data, .data], laidTests := true, laidLooks := .later }
def FnWholeTextsUptoCardSaid : Prop := Claim7.holds Tryd.pinned (.plain (OpenSpec.upto fnWholeTextsSpec)) fnWholeTextsUptoCard

/-- THE SECOND FORM's CARD OF 'laws.FnFloats'. -/
def fnFloatsUptoCard : Claim7 := { stood := { row := fnFloatsUptoRow, standIns := [], harness := (true, "3ce037b8cd9d7891d5b9e015653e01d1006313fad568481410d87d224463bcbe"), looks := true }, kinds := [], alts := [], laidByText := true, laidKinds := [.data], laidTests := true, laidLooks := .later }
def FnFloatsUptoCardSaid : Prop := Claim7.holds Tryd.pinned (.plain (OpenSpec.upto fnFloatsSpec)) fnFloatsUptoCard

/-- THE SECOND FORM's CARD OF 'laws.FnExactShiftWhole'. -/
def fnExactShiftWholeUptoCard : Claim7 := { stood := { row := fnExactShiftWholeUptoRow, standIns := [], harness := (true, "3ce037b8cd9d7891d5b9e015653e01d1006313fad568481410d87d224463bcbe"), looks := true }, kinds := [], alts := [], laidByText := true, laidKinds := [.data], laidTests := true, laidLooks := .later }
def FnExactShiftWholeUptoCardSaid : Prop := Claim7.holds Tryd.pinned (.plain (OpenSpec.upto fnExactShiftWholeSpec)) fnExactShiftWholeUptoCard

/-- THE SECOND FORM's CARD OF 'laws.FnExactTwosIn'. -/
def fnExactTwosInUptoCard : Claim7 := { stood := { row := fnExactTwosInUptoRow, standIns := [], harness := (true, "3ce037b8cd9d7891d5b9e015653e01d1006313fad568481410d87d224463bcbe"), looks := true }, kinds := [], alts := [], laidByText := true, laidKinds := [.data], laidTests := true, laidLooks := .later }
def FnExactTwosInUptoCardSaid : Prop := Claim7.holds Tryd.pinned (.plain (OpenSpec.upto fnExactTwosInSpec)) fnExactTwosInUptoCard

/-- THE SECOND FORM's CARD OF 'laws.FnExactWholeText'. -/
def fnExactWholeTextUptoCard : Claim7 := { stood := { row := fnExactWholeTextUptoRow, standIns := [], harness := (true, "3ce037b8cd9d7891d5b9e015653e01d1006313fad568481410d87d224463bcbe"), looks := true }, kinds := [], alts := [], laidByText := true, laidKinds := [.data, .data, .data], laidTests := true, laidLooks := .later }
def FnExactWholeTextUptoCardSaid : Prop := Claim7.holds Tryd.pinned (.plain (OpenSpec.upto fnExactWholeTextSpec)) fnExactWholeTextUptoCard

/-- THE SECOND FORM's CARD OF 'laws.FnExactMakeDyadic'. -/
def fnExactMakeDyadicUptoCard : Claim7 := { stood := { row := fnExactMakeDyadicUptoRow, standIns := [], harness := (true, "3ce037b8cd9d7891d5b9e015653e01d1006313fad568481410d87d224463bcbe"), looks := true }, kinds := [], alts := [], laidByText := true, laidKinds := [.data], laidTests := true, laidLooks := .later }
def FnExactMakeDyadicUptoCardSaid : Prop := Claim7.holds Tryd.pinned (.plain (OpenSpec.upto fnExactMakeDyadicSpec)) fnExactMakeDyadicUptoCard

/-- THE SECOND FORM's CARD OF 'laws.FnExactDyadicOf'. -/
def fnExactDyadicOfUptoCard : Claim7 := { stood := { row := fnExactDyadicOfUptoRow, standIns := [], harness := (true, "3ce037b8cd9d7891d5b9e015653e01d1006313fad568481410d87d224463bcbe"), looks := true }, kinds := [], alts := [], laidByText := true, laidKinds := [.data], laidTests := true, laidLooks := .later }
def FnExactDyadicOfUptoCardSaid : Prop := Claim7.holds Tryd.pinned (.plain (OpenSpec.upto fnExactDyadicOfSpec)) fnExactDyadicOfUptoCard

/-- THE SECOND FORM's CARD OF 'laws.FnExactDyadicOfNarrow'. -/
def fnExactDyadicOfNarrowUptoCard : Claim7 := { stood := { row := fnExactDyadicOfNarrowUptoRow, standIns := [], harness := (true, "3ce037b8cd9d7891d5b9e015653e01d1006313fad568481410d87d224463bcbe"), looks := true }, kinds := [], alts := [], laidByText := true, laidKinds := [.data], laidTests := true, laidLooks := .later }
def FnExactDyadicOfNarrowUptoCardSaid : Prop := Claim7.holds Tryd.pinned (.plain (OpenSpec.upto fnExactDyadicOfNarrowSpec)) fnExactDyadicOfNarrowUptoCard

/-- THE SECOND FORM's CARD OF 'laws.FnExactFloatOf'. -/
def fnExactFloatOfUptoCard : Claim7 := { stood := { row := fnExactFloatOfUptoRow, standIns := [], harness := (true, "3ce037b8cd9d7891d5b9e015653e01d1006313fad568481410d87d224463bcbe"), looks := true }, kinds := [], alts := [], laidByText := true, laidKinds := [.data], laidTests := true, laidLooks := .later }
def FnExactFloatOfUptoCardSaid : Prop := Claim7.holds Tryd.pinned (.plain (OpenSpec.upto fnExactFloatOfSpec)) fnExactFloatOfUptoCard

/-- THE SECOND FORM's CARD OF 'laws.FnExactFloatOfNarrow'. -/
def fnExactFloatOfNarrowUptoCard : Claim7 := { stood := { row := fnExactFloatOfNarrowUptoRow, standIns := [], harness := (true, "3ce037b8cd9d7891d5b9e015653e01d1006313fad568481410d87d224463bcbe"), looks := true }, kinds := [], alts := [], laidByText := true, laidKinds := [.data], laidTests := true, laidLooks := .later }
def FnExactFloatOfNarrowUptoCardSaid : Prop := Claim7.holds Tryd.pinned (.plain (OpenSpec.upto fnExactFloatOfNarrowSpec)) fnExactFloatOfNarrowUptoCard
end Rows
end Go.Proofs.YtjbicokkihjmjaaDoor
