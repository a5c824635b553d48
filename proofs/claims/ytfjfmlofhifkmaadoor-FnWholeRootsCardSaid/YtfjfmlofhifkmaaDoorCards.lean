/-
  DERIVED. GIVEN WITH THE SEED: THE CARDS: each row of YtfjfmlofhifkmaaDoorRows.lean that lists a variable, with what it lists TIED to the program's text (the seventh form; the later family's looks); each row that meets fmt, with fmt's text TOLD by the authors' own Lean function (tested against real Go, not proved from fmt's source: count such statements apart). THE CARD IS WHAT COUNTS. Prove the row's statement (the work); the ties are given (YtfjfmlofhifkmaaDoorTie.lean); close each card by the builder's one call (the guide's Derived/Test/ToyasCard.lean, 'card_holds'). Laid BY PROGRAM, IN A SANDBOX (cutbox-door.mjs). By AI agents, Wed Nov 11 2026. No macro, syntax, notation, axiom, sorry.
-/
import Derived.Test.YtfjfmlofhifkmaaDoorRows
import GoSem.ClaimSeven
namespace Go.Proofs.YtfjfmlofhifkmaaDoor
namespace Rows

/-- THE TIED CARD OF 'laws.FnWholeRoots'. -/
def fnWholeRootsCard : Claim7 := { stood := { row := fnWholeRootsRow, standIns := [], harness := (true, "e42a5ca14bf225d4bfdd6ab7ab013dfc2937914c161533890b162a66129fbf49"), looks := true }, kinds := [], alts := [], laidByText := true, laidKinds := [.data], laidTests := true, laidLooks := .later }
def FnWholeRootsCardSaid : Prop := Claim7.holds Tryd.pinned (.plain (OpenSpec.ofChange fnWholeRootsSpec)) fnWholeRootsCard

/-- THE TIED CARD OF 'laws.FnExactDyadicOf'. -/
def fnExactDyadicOfCard : Claim7 := { stood := { row := fnExactDyadicOfRow, standIns := [], harness := (true, "e42a5ca14bf225d4bfdd6ab7ab013dfc2937914c161533890b162a66129fbf49"), looks := true }, kinds := [], alts := [], laidByText := true, laidKinds := [.data], laidTests := true, laidLooks := .later }
def FnExactDyadicOfCardSaid : Prop := Claim7.holds Tryd.pinned (.plain (OpenSpec.ofChange fnExactDyadicOfSpec)) fnExactDyadicOfCard

/-- THE TIED CARD OF 'laws.FnExactDyadicOfNarrow'. -/
def fnExactDyadicOfNarrowCard : Claim7 := { stood := { row := fnExactDyadicOfNarrowRow, standIns := [], harness := (true, "e42a5ca14bf225d4bfdd6ab7ab013dfc2937914c161533890b162a66129fbf49"), looks := true }, kinds := [], alts := [], laidByText := true, laidKinds := [.data], laidTests := true, laidLooks := .later }
def FnExactDyadicOfNarrowCardSaid : Prop := Claim7.holds Tryd.pinned (.plain (OpenSpec.ofChange fnExactDyadicOfNarrowSpec)) fnExactDyadicOfNarrowCard

/-- THE TIED CARD OF 'laws.FnExactFloatOf'. -/
def fnExactFloatOfCard : Claim7 := { stood := { row := fnExactFloatOfRow, standIns := [], harness := (true, "e42a5ca14bf225d4bfdd6ab7ab013dfc2937914c161533890b162a66129fbf49"), looks := true }, kinds := [], alts := [], laidByText := true, laidKinds := [.data], laidTests := true, laidLooks := .later }
def FnExactFloatOfCardSaid : Prop := Claim7.holds Tryd.pinned (.plain (OpenSpec.ofChange fnExactFloatOfSpec)) fnExactFloatOfCard

/-- THE TIED CARD OF 'laws.FnExactFloatOfNarrow'. -/
def fnExactFloatOfNarrowCard : Claim7 := { stood := { row := fnExactFloatOfNarrowRow, standIns := [], harness := (true, "e42a5ca14bf225d4bfdd6ab7ab013dfc2937914c161533890b162a66129fbf49"), looks := true }, kinds := [], alts := [], laidByText := true, laidKinds := [.data], laidTests := true, laidLooks := .later }
def FnExactFloatOfNarrowCardSaid : Prop := Claim7.holds Tryd.pinned (.plain (OpenSpec.ofChange fnExactFloatOfNarrowSpec)) fnExactFloatOfNarrowCard

/-- THE TIED CARD OF 'laws.FnExactNumberOf'. -/
def fnExactNumberOfCard : Claim7 := { stood := { row := fnExactNumberOfRow, standIns := [], harness := (true, "e42a5ca14bf225d4bfdd6ab7ab013dfc2937914c161533890b162a66129fbf49"), looks := true }, kinds := [], alts := [], laidByText := true, laidKinds := [.data], laidTests := true, laidLooks := .later }
def FnExactNumberOfCardSaid : Prop := Claim7.holds Tryd.pinned (.plain (OpenSpec.ofChange fnExactNumberOfSpec)) fnExactNumberOfCard

/-- THE SECOND FORM's CARD OF 'laws.FnWholeRoots'. -/
def fnWholeRootsUptoCard : Claim7 := { stood := { row := fnWholeRootsUptoRow, standIns := [], harness := (true, "e42a5ca14bf225d4bfdd6ab7ab013dfc2937914c161533890b162a66129fbf49"), looks := true }, kinds := [], alts := [], laidByText := true, laidKinds := [.data], laidTests := true, laidLooks := .later }
def FnWholeRootsUptoCardSaid : Prop := Claim7.holds Tryd.pinned (.plain (OpenSpec.upto fnWholeRootsSpec)) fnWholeRootsUptoCard

/-- THE SECOND FORM's CARD OF 'laws.FnExactDyadicOf'. -/
def fnExactDyadicOfUptoCard : Claim7 := { stood := { row := fnExactDyadicOfUptoRow, standIns := [], harness := (true, "e42a5ca14bf225d4bfdd6ab7ab013dfc2937914c161533890b162a66129fbf49"), looks := true }, kinds := [], alts := [], laidByText := true, laidKinds := [.data], laidTests := true, laidLooks := .later }
def FnExactDyadicOfUptoCardSaid : Prop := Claim7.holds Tryd.pinned (.plain (OpenSpec.upto fnExactDyadicOfSpec)) fnExactDyadicOfUptoCard

/-- THE SECOND FORM's CARD OF 'laws.FnExactDyadicOfNarrow'. -/
def fnExactDyadicOfNarrowUptoCard : Claim7 := { stood := { row := fnExactDyadicOfNarrowUptoRow, standIns := [], harness := (true, "e42a5ca14bf225d4bfdd6ab7ab013dfc2937914c161533890b162a66129fbf49"), looks := true }, kinds := [], alts := [], laidByText := true, laidKinds := [.data], laidTests := true, laidLooks := .later }
def FnExactDyadicOfNarrowUptoCardSaid : Prop := Claim7.holds Tryd.pinned (.plain (OpenSpec.upto fnExactDyadicOfNarrowSpec)) fnExactDyadicOfNarrowUptoCard

/-- THE SECOND FORM's CARD OF 'laws.FnExactFloatOf'. -/
def fnExactFloatOfUptoCard : Claim7 := { stood := { row := fnExactFloatOfUptoRow, standIns := [], harness := (true, "e42a5ca14bf225d4bfdd6ab7ab013dfc2937914c161533890b162a66129fbf49"), looks := true }, kinds := [], alts := [], laidByText := true, laidKinds := [.data], laidTests := true, laidLooks := .later }
def FnExactFloatOfUptoCardSaid : Prop := Claim7.holds Tryd.pinned (.plain (OpenSpec.upto fnExactFloatOfSpec)) fnExactFloatOfUptoCard

/-- THE SECOND FORM's CARD OF 'laws.FnExactFloatOfNarrow'. -/
def fnExactFloatOfNarrowUptoCard : Claim7 := { stood := { row := fnExactFloatOfNarrowUptoRow, standIns := [], harness := (true, "e42a5ca14bf225d4bfdd6ab7ab013dfc2937914c161533890b162a66129fbf49"), looks := true }, kinds := [], alts := [], laidByText := true, laidKinds := [.data], laidTests := true, laidLooks := .later }
def FnExactFloatOfNarrowUptoCardSaid : Prop := Claim7.holds Tryd.pinned (.plain (OpenSpec.upto fnExactFloatOfNarrowSpec)) fnExactFloatOfNarrowUptoCard

/-- THE SECOND FORM's CARD OF 'laws.FnExactNumberOf'. -/
def fnExactNumberOfUptoCard : Claim7 := { stood := { row := fnExactNumberOfUptoRow, standIns := [], harness := (true, "e42a5ca14bf225d4bfdd6ab7ab013dfc2937914c161533890b162a66129fbf49"), looks := true }, kinds := [], alts := [], laidByText := true, laidKinds := [.data], laidTests := true, laidLooks := .later }
def FnExactNumberOfUptoCardSaid : Prop := Claim7.holds Tryd.pinned (.plain (OpenSpec.upto fnExactNumberOfSpec)) fnExactNumberOfUptoCard
end Rows
end Go.Proofs.YtfjfmlofhifkmaaDoor
