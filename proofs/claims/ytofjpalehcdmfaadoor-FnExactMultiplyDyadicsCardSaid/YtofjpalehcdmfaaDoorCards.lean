/-
  DERIVED. GIVEN WITH THE SEED: THE CARDS: each row of YtofjpalehcdmfaaDoorRows.lean that lists a variable, with what it lists TIED to the program's text (the seventh form; the later family's looks); each row that meets fmt, with fmt's text TOLD by the authors' own Lean function (tested against real Go, not proved from fmt's source: count such statements apart). THE CARD IS WHAT COUNTS. Prove the row's statement (the work); the ties are given (YtofjpalehcdmfaaDoorTie.lean); close each card by the builder's one call (the guide's Derived/Test/ToyasCard.lean, 'card_holds'). Laid BY PROGRAM, IN A SANDBOX (cutbox-door.mjs). By AI agents, Wed Nov 11 2026. No macro, syntax, notation, axiom, sorry.
-/
import Derived.Test.YtofjpalehcdmfaaDoorRows
import GoSem.ClaimSeven
namespace Go.Proofs.YtofjpalehcdmfaaDoor
namespace Rows

/-- THE TIED CARD OF 'laws.FnWholeRoots'. -/
def fnWholeRootsCard : Claim7 := { stood := { row := fnWholeRootsRow, standIns := [], harness := (true, "a782bf2ceca5799aec017ac236011fe0bf253bd1a3682639b2c0c9e725d76b0e"), looks := false }, kinds := [], alts := [], laidByText := true, laidKinds := [.data], laidTests := true, laidLooks := .later }
def FnWholeRootsCardSaid : Prop := Claim7.holds Tryd.pinned (.plain (OpenSpec.ofChange fnWholeRootsSpec)) fnWholeRootsCard

/-- THE TIED CARD OF 'laws.FnWholeTexts'. -/
def fnWholeTextsCard : Claim7 := { stood := { row := fnWholeTextsRow, standIns := [], harness := (true, "a782bf2ceca5799aec017ac236011fe0bf253bd1a3682639b2c0c9e725d76b0e"), looks := false }, kinds := [], alts := [], laidByText := true, laidKinds := [.data, .data, .data], laidTests := true, laidLooks := .later }
def FnWholeTextsCardSaid : Prop := Claim7.holds Tryd.pinned (.plain (OpenSpec.ofChange fnWholeTextsSpec)) fnWholeTextsCard

/-- THE TIED CARD OF 'laws.FnExactWholeText'. -/
def fnExactWholeTextCard : Claim7 := { stood := { row := fnExactWholeTextRow, standIns := [], harness := (true, "a782bf2ceca5799aec017ac236011fe0bf253bd1a3682639b2c0c9e725d76b0e"), looks := false }, kinds := [], alts := [], laidByText := true, laidKinds := [.data, .data, .data], laidTests := true, laidLooks := .later }
def FnExactWholeTextCardSaid : Prop := Claim7.holds Tryd.pinned (.plain (OpenSpec.ofChange fnExactWholeTextSpec)) fnExactWholeTextCard

/-- THE TIED CARD OF 'laws.FnExactMakeDyadic'. -/
def fnExactMakeDyadicCard : Claim7 := { stood := { row := fnExactMakeDyadicRow, standIns := [], harness := (true, "a782bf2ceca5799aec017ac236011fe0bf253bd1a3682639b2c0c9e725d76b0e"), looks := false }, kinds := [], alts := [], laidByText := true, laidKinds := [.data], laidTests := true, laidLooks := .later }
def FnExactMakeDyadicCardSaid : Prop := Claim7.holds Tryd.pinned (.plain (OpenSpec.ofChange fnExactMakeDyadicSpec)) fnExactMakeDyadicCard

/-- THE TIED CARD OF 'laws.FnExactAddDyadics'. -/
def fnExactAddDyadicsCard : Claim7 := { stood := { row := fnExactAddDyadicsRow, standIns := [], harness := (true, "a782bf2ceca5799aec017ac236011fe0bf253bd1a3682639b2c0c9e725d76b0e"), looks := false }, kinds := [], alts := [], laidByText := true, laidKinds := [.data], laidTests := true, laidLooks := .later }
def FnExactAddDyadicsCardSaid : Prop := Claim7.holds Tryd.pinned (.plain (OpenSpec.ofChange fnExactAddDyadicsSpec)) fnExactAddDyadicsCard

/-- THE TIED CARD OF 'laws.FnExactSubtractDyadics'. -/
def fnExactSubtractDyadicsCard : Claim7 := { stood := { row := fnExactSubtractDyadicsRow, standIns := [], harness := (true, "a782bf2ceca5799aec017ac236011fe0bf253bd1a3682639b2c0c9e725d76b0e"), looks := false }, kinds := [], alts := [], laidByText := true, laidKinds := [.data], laidTests := true, laidLooks := .later }
def FnExactSubtractDyadicsCardSaid : Prop := Claim7.holds Tryd.pinned (.plain (OpenSpec.ofChange fnExactSubtractDyadicsSpec)) fnExactSubtractDyadicsCard

/-- THE TIED CARD OF 'laws.FnExactMultiplyDyadics'. -/
def fnExactMultiplyDyadicsCard : Claim7 := { stood := { row := fnExactMultiplyDyadicsRow, standIns := [], harness := (true, "a782bf2ceca5799aec017ac236011fe0bf253bd1a3682639b2c0c9e725d76b0e"), looks := false }, kinds := [], alts := [], laidByText := true, laidKinds := [.data], laidTests := true, laidLooks := .later }
def FnExactMultiplyDyadicsCardSaid : Prop := Claim7.holds Tryd.pinned (.plain (OpenSpec.ofChange fnExactMultiplyDyadicsSpec)) fnExactMultiplyDyadicsCard

/-- THE TIED CARD OF 'laws.FnExactCompareDyadics'. -/
def fnExactCompareDyadicsCard : Claim7 := { stood := { row := fnExactCompareDyadicsRow, standIns := [], harness := (true, "a782bf2ceca5799aec017ac236011fe0bf253bd1a3682639b2c0c9e725d76b0e"), looks := false }, kinds := [], alts := [], laidByText := true, laidKinds := [.data], laidTests := true, laidLooks := .later }
def FnExactCompareDyadicsCardSaid : Prop := Claim7.holds Tryd.pinned (.plain (OpenSpec.ofChange fnExactCompareDyadicsSpec)) fnExactCompareDyadicsCard

/-- THE TIED CARD OF 'laws.FnExactScaleDyadic'. -/
def fnExactScaleDyadicCard : Claim7 := { stood := { row := fnExactScaleDyadicRow, standIns := [], harness := (true, "a782bf2ceca5799aec017ac236011fe0bf253bd1a3682639b2c0c9e725d76b0e"), looks := false }, kinds := [], alts := [], laidByText := true, laidKinds := [.data], laidTests := true, laidLooks := .later }
def FnExactScaleDyadicCardSaid : Prop := Claim7.holds Tryd.pinned (.plain (OpenSpec.ofChange fnExactScaleDyadicSpec)) fnExactScaleDyadicCard

/-- THE TIED CARD OF 'laws.FnExactFloorDyadic'. -/
def fnExactFloorDyadicCard : Claim7 := { stood := { row := fnExactFloorDyadicRow, standIns := [], harness := (true, "a782bf2ceca5799aec017ac236011fe0bf253bd1a3682639b2c0c9e725d76b0e"), looks := false }, kinds := [], alts := [], laidByText := true, laidKinds := [.data], laidTests := true, laidLooks := .later }
def FnExactFloorDyadicCardSaid : Prop := Claim7.holds Tryd.pinned (.plain (OpenSpec.ofChange fnExactFloorDyadicSpec)) fnExactFloorDyadicCard

/-- THE TIED CARD OF 'laws.FnExactCeilDyadic'. -/
def fnExactCeilDyadicCard : Claim7 := { stood := { row := fnExactCeilDyadicRow, standIns := [], harness := (true, "a782bf2ceca5799aec017ac236011fe0bf253bd1a3682639b2c0c9e725d76b0e"), looks := false }, kinds := [], alts := [], laidByText := true, laidKinds := [.data], laidTests := true, laidLooks := .later }
def FnExactCeilDyadicCardSaid : Prop := Claim7.holds Tryd.pinned (.plain (OpenSpec.ofChange fnExactCeilDyadicSpec)) fnExactCeilDyadicCard

/-- THE TIED CARD OF 'laws.FnExactDyadicText'. -/
def fnExactDyadicTextCard : Claim7 := { stood := { row := fnExactDyadicTextRow, standIns := [], harness := (true, "a782bf2ceca5799aec017ac236011fe0bf253bd1a3682639b2c0c9e725d76b0e"), looks := false }, kinds := [], alts := [], laidByText := true, laidKinds := [.data, .data, .data], laidTests := true, laidLooks := .later }
def FnExactDyadicTextCardSaid : Prop := Claim7.holds Tryd.pinned (.plain (OpenSpec.ofChange fnExactDyadicTextSpec)) fnExactDyadicTextCard

/-- THE SECOND FORM's CARD OF 'laws.FnWholeRoots'. -/
def fnWholeRootsUptoCard : Claim7 := { stood := { row := fnWholeRootsUptoRow, standIns := [], harness := (true, "a782bf2ceca5799aec017ac236011fe0bf253bd1a3682639b2c0c9e725d76b0e"), looks := false }, kinds := [], alts := [], laidByText := true, laidKinds := [.data], laidTests := true, laidLooks := .later }
def FnWholeRootsUptoCardSaid : Prop := Claim7.holds Tryd.pinned (.plain (OpenSpec.upto fnWholeRootsSpec)) fnWholeRootsUptoCard

/-- THE SECOND FORM's CARD OF 'laws.FnWholeTexts'. -/
def fnWholeTextsUptoCard : Claim7 := { stood := { row := fnWholeTextsUptoRow, standIns := [], harness := (true, "a782bf2ceca5799aec017ac236011fe0bf253bd1a3682639b2c0c9e725d76b0e"), looks := false }, kinds := [], alts := [], laidByText := true, laidKinds := [.data, .data, .data], laidTests := true, laidLooks := .later }
def FnWholeTextsUptoCardSaid : Prop := Claim7.holds Tryd.pinned (.plain (OpenSpec.upto fnWholeTextsSpec)) fnWholeTextsUptoCard

/-- THE SECOND FORM's CARD OF 'laws.FnExactWholeText'. -/
def fnExactWholeTextUptoCard : Claim7 := { stood := { row := fnExactWholeTextUptoRow, standIns := [], harness := (true, "a782bf2ceca5799aec017ac236011fe0bf253bd1a3682639b2c0c9e725d76b0e"), looks := false }, kinds := [], alts := [], laidByText := true, laidKinds := [.data, .data, .data], laidTests := true, laidLooks := .later }
def FnExactWholeTextUptoCardSaid : Prop := Claim7.holds Tryd.pinned (.plain (OpenSpec.upto fnExactWholeTextSpec)) fnExactWholeTextUptoCard

/-- THE SECOND FORM's CARD OF 'laws.FnExactMakeDyadic'. -/
def fnExactMakeDyadicUptoCard : Claim7 := { stood := { row := fnExactMakeDyadicUptoRow, standIns := [], harness := (true, "a782bf2ceca5799aec017ac236011fe0bf253bd1a3682639b2c0c9e725d76b0e"), looks := false }, kinds := [], alts := [], laidByText := true, laidKinds := [.data], laidTests := true, laidLooks := .later }
def FnExactMakeDyadicUptoCardSaid : Prop := Claim7.holds Tryd.pinned (.plain (OpenSpec.upto fnExactMakeDyadicSpec)) fnExactMakeDyadicUptoCard

/-- THE SECOND FORM's CARD OF 'laws.FnExactAddDyadics'. -/
def fnExactAddDyadicsUptoCard : Claim7 := { stood := { row := fnExactAddDyadicsUptoRow, standIns := [], harness := (true, "a782bf2ceca5799aec017ac236011fe0bf253bd1a3682639b2c0c9e725d76b0e"), looks := false }, kinds := [], alts := [], laidByText := true, laidKinds := [.data], laidTests := true, laidLooks := .later }
def FnExactAddDyadicsUptoCardSaid : Prop := Claim7.holds Tryd.pinned (.plain (OpenSpec.upto fnExactAddDyadicsSpec)) fnExactAddDyadicsUptoCard

/-- THE SECOND FORM's CARD OF 'laws.FnExactSubtractDyadics'. -/
def fnExactSubtractDyadicsUptoCard : Claim7 := { stood := { row := fnExactSubtractDyadicsUptoRow, standIns := [], harness := (true, "a782bf2ceca5799aec017ac236011fe0bf253bd1a3682639b2c0c9e725d76b0e"), looks := false }, kinds := [], alts := [], laidByText := true, laidKinds := [.data], laidTests := true, laidLooks := .later }
def FnExactSubtractDyadicsUptoCardSaid : Prop := Claim7.holds Tryd.pinned (.plain (OpenSpec.upto fnExactSubtractDyadicsSpec)) fnExactSubtractDyadicsUptoCard

/-- THE SECOND FORM's CARD OF 'laws.FnExactMultiplyDyadics'. -/
def fnExactMultiplyDyadicsUptoCard : Claim7 := { stood := { row := fnExactMultiplyDyadicsUptoRow, standIns := [], harness := (true, "a782bf2ceca5799aec017ac236011fe0bf253bd1a3682639b2c0c9e725d76b0e"), looks := false }, kinds := [], alts := [], laidByText := true, laidKinds := [.data], laidTests := true, laidLooks := .later }
def FnExactMultiplyDyadicsUptoCardSaid : Prop := Claim7.holds Tryd.pinned (.plain (OpenSpec.upto fnExactMultiplyDyadicsSpec)) fnExactMultiplyDyadicsUptoCard

/-- THE SECOND FORM's CARD OF 'laws.FnExactCompareDyadics'. -/
def fnExactCompareDyadicsUptoCard : Claim7 := { stood := { row := fnExactCompareDyadicsUptoRow, standIns := [], harness := (true, "a782bf2ceca5799aec017ac236011fe0bf253bd1a3682639b2c0c9e725d76b0e"), looks := false }, kinds := [], alts := [], laidByText := true, laidKinds := [.data], laidTests := true, laidLooks := .later }
def FnExactCompareDyadicsUptoCardSaid : Prop := Claim7.holds Tryd.pinned (.plain (OpenSpec.upto fnExactCompareDyadicsSpec)) fnExactCompareDyadicsUptoCard

/-- THE SECOND FORM's CARD OF 'laws.FnExactScaleDyadic'. -/
def fnExactScaleDyadicUptoCard : Claim7 := { stood := { row := fnExactScaleDyadicUptoRow, standIns := [], harness := (true, "a782bf2ceca5799aec017ac236011fe0bf253bd1a3682639b2c0c9e725d76b0e"), looks := false }, kinds := [], alts := [], laidByText := true, laidKinds := [.data], laidTests := true, laidLooks := .later }
def FnExactScaleDyadicUptoCardSaid : Prop := Claim7.holds Tryd.pinned (.plain (OpenSpec.upto fnExactScaleDyadicSpec)) fnExactScaleDyadicUptoCard

/-- THE SECOND FORM's CARD OF 'laws.FnExactFloorDyadic'. -/
def fnExactFloorDyadicUptoCard : Claim7 := { stood := { row := fnExactFloorDyadicUptoRow, standIns := [], harness := (true, "a782bf2ceca5799aec017ac236011fe0bf253bd1a3682639b2c0c9e725d76b0e"), looks := false }, kinds := [], alts := [], laidByText := true, laidKinds := [.data], laidTests := true, laidLooks := .later }
def FnExactFloorDyadicUptoCardSaid : Prop := Claim7.holds Tryd.pinned (.plain (OpenSpec.upto fnExactFloorDyadicSpec)) fnExactFloorDyadicUptoCard

/-- THE SECOND FORM's CARD OF 'laws.FnExactCeilDyadic'. -/
def fnExactCeilDyadicUptoCard : Claim7 := { stood := { row := fnExactCeilDyadicUptoRow, standIns := [], harness := (true, "a782bf2ceca5799aec017ac236011fe0bf253bd1a3682639b2c0c9e725d76b0e"), looks := false }, kinds := [], alts := [], laidByText := true, laidKinds := [.data], laidTests := true, laidLooks := .later }
def FnExactCeilDyadicUptoCardSaid : Prop := Claim7.holds Tryd.pinned (.plain (OpenSpec.upto fnExactCeilDyadicSpec)) fnExactCeilDyadicUptoCard

/-- THE SECOND FORM's CARD OF 'laws.FnExactDyadicText'. -/
def fnExactDyadicTextUptoCard : Claim7 := { stood := { row := fnExactDyadicTextUptoRow, standIns := [], harness := (true, "a782bf2ceca5799aec017ac236011fe0bf253bd1a3682639b2c0c9e725d76b0e"), looks := false }, kinds := [], alts := [], laidByText := true, laidKinds := [.data, .data, .data], laidTests := true, laidLooks := .later }
def FnExactDyadicTextUptoCardSaid : Prop := Claim7.holds Tryd.pinned (.plain (OpenSpec.upto fnExactDyadicTextSpec)) fnExactDyadicTextUptoCard
end Rows
end Go.Proofs.YtofjpalehcdmfaaDoor
