/-
  DERIVED. GIVEN WITH THE SEED: THE CARDS: each row of YtebkpaonmeokgaaDoorRows.lean that lists a variable, with what it lists TIED to the program's text (the seventh form; the later family's looks); each row that meets fmt, with fmt's text TOLD by the authors' own Lean function (tested against real Go, not proved from fmt's source: count such statements apart). THE CARD IS WHAT COUNTS. Prove the row's statement (the work); the ties are given (YtebkpaonmeokgaaDoorTie.lean); close each card by the builder's one call (the guide's Derived/Test/ToyasCard.lean, 'card_holds'). Laid BY PROGRAM, IN A SANDBOX (cutbox-door.mjs). By AI agents, Wed Nov 11 2026. No macro, syntax, notation, axiom, sorry.
-/
import Derived.Test.YtebkpaonmeokgaaDoorRows
import GoSem.ClaimSeven
namespace Go.Proofs.YtebkpaonmeokgaaDoor
namespace Rows

/-- THE TIED CARD OF 'laws.FnWholeRoots'. -/
def fnWholeRootsCard : Claim7 := { stood := { row := fnWholeRootsRow, standIns := [], harness := (true, "a3405f68aa229114ca28a6c2870d95c10f8f645dd2e6b35e649cf054f1ca8f32"), looks := false }, kinds := [], alts := [], laidByText := true, laidKinds := [.data], laidTests := true, laidLooks := .later }
def FnWholeRootsCardSaid : Prop := Claim7.holds Tryd.pinned (.plain (OpenSpec.ofChange fnWholeRootsSpec)) fnWholeRootsCard

/-- THE TIED CARD OF 'laws.FnWholeTexts'. -/
def fnWholeTextsCard : Claim7 := { stood := { row := fnWholeTextsRow, standIns := [], harness := (true, "a3405f68aa229114ca28a6c2870d95c10f8f645dd2e6b35e649cf054f1ca8f32"), looks := false }, kinds := [], alts := [], laidByText := true, laidKinds := [.data, .data, .data], laidTests := true, laidLooks := .later }
def FnWholeTextsCardSaid : Prop := Claim7.holds Tryd.pinned (.plain (OpenSpec.ofChange fnWholeTextsSpec)) fnWholeTextsCard

/-- THE TIED CARD OF 'laws.FnExactWholeText'. -/
def fnExactWholeTextCard : Claim7 := { stood := { row := fnExactWholeTextRow, standIns := [], harness := (true, "a3405f68aa229114ca28a6c2870d95c10f8f645dd2e6b35e649cf054f1ca8f32"), looks := false }, kinds := [], alts := [], laidByText := true, laidKinds := [.data, .data, .data], laidTests := true, laidLooks := .later }
def FnExactWholeTextCardSaid : Prop := Claim7.holds Tryd.pinned (.plain (OpenSpec.ofChange fnExactWholeTextSpec)) fnExactWholeTextCard

/-- THE TIED CARD OF 'laws.FnExactRootAbove'. -/
def fnExactRootAboveCard : Claim7 := { stood := { row := fnExactRootAboveRow, standIns := [], harness := (true, "a3405f68aa229114ca28a6c2870d95c10f8f645dd2e6b35e649cf054f1ca8f32"), looks := false }, kinds := [], alts := [], laidByText := true, laidKinds := [.data], laidTests := true, laidLooks := .later }
def FnExactRootAboveCardSaid : Prop := Claim7.holds Tryd.pinned (.plain (OpenSpec.ofChange fnExactRootAboveSpec)) fnExactRootAboveCard

/-- THE TIED CARD OF 'laws.FnExactAddExacts'. -/
def fnExactAddExactsCard : Claim7 := { stood := { row := fnExactAddExactsRow, standIns := [], harness := (true, "a3405f68aa229114ca28a6c2870d95c10f8f645dd2e6b35e649cf054f1ca8f32"), looks := false }, kinds := [], alts := [], laidByText := true, laidKinds := [.data], laidTests := true, laidLooks := .later }
def FnExactAddExactsCardSaid : Prop := Claim7.holds Tryd.pinned (.plain (OpenSpec.ofChange fnExactAddExactsSpec)) fnExactAddExactsCard

/-- THE TIED CARD OF 'laws.FnExactMultiplyExacts'. -/
def fnExactMultiplyExactsCard : Claim7 := { stood := { row := fnExactMultiplyExactsRow, standIns := [], harness := (true, "a3405f68aa229114ca28a6c2870d95c10f8f645dd2e6b35e649cf054f1ca8f32"), looks := false }, kinds := [], alts := [], laidByText := true, laidKinds := [.data], laidTests := true, laidLooks := .later }
def FnExactMultiplyExactsCardSaid : Prop := Claim7.holds Tryd.pinned (.plain (OpenSpec.ofChange fnExactMultiplyExactsSpec)) fnExactMultiplyExactsCard

/-- THE TIED CARD OF 'laws.FnExactSquareOfExact'. -/
def fnExactSquareOfExactCard : Claim7 := { stood := { row := fnExactSquareOfExactRow, standIns := [], harness := (true, "a3405f68aa229114ca28a6c2870d95c10f8f645dd2e6b35e649cf054f1ca8f32"), looks := false }, kinds := [], alts := [], laidByText := true, laidKinds := [.data], laidTests := true, laidLooks := .later }
def FnExactSquareOfExactCardSaid : Prop := Claim7.holds Tryd.pinned (.plain (OpenSpec.ofChange fnExactSquareOfExactSpec)) fnExactSquareOfExactCard

/-- THE TIED CARD OF 'laws.FnExactDyadicText'. -/
def fnExactDyadicTextCard : Claim7 := { stood := { row := fnExactDyadicTextRow, standIns := [], harness := (true, "a3405f68aa229114ca28a6c2870d95c10f8f645dd2e6b35e649cf054f1ca8f32"), looks := false }, kinds := [], alts := [], laidByText := true, laidKinds := [.data, .data, .data], laidTests := true, laidLooks := .later }
def FnExactDyadicTextCardSaid : Prop := Claim7.holds Tryd.pinned (.plain (OpenSpec.ofChange fnExactDyadicTextSpec)) fnExactDyadicTextCard

/-- THE SECOND FORM's CARD OF 'laws.FnWholeRoots'. -/
def fnWholeRootsUptoCard : Claim7 := { stood := { row := fnWholeRootsUptoRow, standIns := [], harness := (true, "a3405f68aa229114ca28a6c2870d95c10f8f645dd2e6b35e649cf054f1ca8f32"), looks := false }, kinds := [], alts := [], laidByText := true, laidKinds := [.data], laidTests := true, laidLooks := .later }
def FnWholeRootsUptoCardSaid : Prop := Claim7.holds Tryd.pinned (.plain (OpenSpec.upto fnWholeRootsSpec)) fnWholeRootsUptoCard

/-- THE SECOND FORM's CARD OF 'laws.FnWholeTexts'. -/
def fnWholeTextsUptoCard : Claim7 := { stood := { row := fnWholeTextsUptoRow, standIns := [], harness := (true, "a3405f68aa229114ca28a6c2870d95c10f8f645dd2e6b35e649cf054f1ca8f32"), looks := false }, kinds := [], alts := [], laidByText := true, laidKinds := [.data, .data, .data], laidTests := true, laidLooks := .later }
def FnWholeTextsUptoCardSaid : Prop := Claim7.holds Tryd.pinned (.plain (OpenSpec.upto fnWholeTextsSpec)) fnWholeTextsUptoCard

/-- THE SECOND FORM's CARD OF 'laws.FnExactWholeText'. -/
def fnExactWholeTextUptoCard : Claim7 := { stood := { row := fnExactWholeTextUptoRow, standIns := [], harness := (true, "a3405f68aa229114ca28a6c2870d95c10f8f645dd2e6b35e649cf054f1ca8f32"), looks := false }, kinds := [], alts := [], laidByText := true, laidKinds := [.data, .data, .data], laidTests := true, laidLooks := .later }
def FnExactWholeTextUptoCardSaid : Prop := Claim7.holds Tryd.pinned (.plain (OpenSpec.upto fnExactWholeTextSpec)) fnExactWholeTextUptoCard

/-- THE SECOND FORM's CARD OF 'laws.FnExactRootAbove'. -/
def fnExactRootAboveUptoCard : Claim7 := { stood := { row := fnExactRootAboveUptoRow, standIns := [], harness := (true, "a3405f68aa229114ca28a6c2870d95c10f8f645dd2e6b35e649cf054f1ca8f32"), looks := false }, kinds := [], alts := [], laidByText := true, laidKinds := [.data], laidTests := true, laidLooks := .later }
def FnExactRootAboveUptoCardSaid : Prop := Claim7.holds Tryd.pinned (.plain (OpenSpec.upto fnExactRootAboveSpec)) fnExactRootAboveUptoCard

/-- THE SECOND FORM's CARD OF 'laws.FnExactAddExacts'. -/
def fnExactAddExactsUptoCard : Claim7 := { stood := { row := fnExactAddExactsUptoRow, standIns := [], harness := (true, "a3405f68aa229114ca28a6c2870d95c10f8f645dd2e6b35e649cf054f1ca8f32"), looks := false }, kinds := [], alts := [], laidByText := true, laidKinds := [.data], laidTests := true, laidLooks := .later }
def FnExactAddExactsUptoCardSaid : Prop := Claim7.holds Tryd.pinned (.plain (OpenSpec.upto fnExactAddExactsSpec)) fnExactAddExactsUptoCard

/-- THE SECOND FORM's CARD OF 'laws.FnExactMultiplyExacts'. -/
def fnExactMultiplyExactsUptoCard : Claim7 := { stood := { row := fnExactMultiplyExactsUptoRow, standIns := [], harness := (true, "a3405f68aa229114ca28a6c2870d95c10f8f645dd2e6b35e649cf054f1ca8f32"), looks := false }, kinds := [], alts := [], laidByText := true, laidKinds := [.data], laidTests := true, laidLooks := .later }
def FnExactMultiplyExactsUptoCardSaid : Prop := Claim7.holds Tryd.pinned (.plain (OpenSpec.upto fnExactMultiplyExactsSpec)) fnExactMultiplyExactsUptoCard

/-- THE SECOND FORM's CARD OF 'laws.FnExactSquareOfExact'. -/
def fnExactSquareOfExactUptoCard : Claim7 := { stood := { row := fnExactSquareOfExactUptoRow, standIns := [], harness := (true, "a3405f68aa229114ca28a6c2870d95c10f8f645dd2e6b35e649cf054f1ca8f32"), looks := false }, kinds := [], alts := [], laidByText := true, laidKinds := [.data], laidTests := true, laidLooks := .later }
def FnExactSquareOfExactUptoCardSaid : Prop := Claim7.holds Tryd.pinned (.plain (OpenSpec.upto fnExactSquareOfExactSpec)) fnExactSquareOfExactUptoCard

/-- THE SECOND FORM's CARD OF 'laws.FnExactDyadicText'. -/
def fnExactDyadicTextUptoCard : Claim7 := { stood := { row := fnExactDyadicTextUptoRow, standIns := [], harness := (true, "a3405f68aa229114ca28a6c2870d95c10f8f645dd2e6b35e649cf054f1ca8f32"), looks := false }, kinds := [], alts := [], laidByText := true, laidKinds := [.data, .data, .data], laidTests := true, laidLooks := .later }
def FnExactDyadicTextUptoCardSaid : Prop := Claim7.holds Tryd.pinned (.plain (OpenSpec.upto fnExactDyadicTextSpec)) fnExactDyadicTextUptoCard
end Rows
end Go.Proofs.YtebkpaonmeokgaaDoor
