/-
  DERIVED. GIVEN WITH THE SEED: THE CARDS: each row of YtabbfpkhlofccaaGreatDoorRows.lean that lists a variable, with what it lists TIED to the program's text (the seventh form; the later family's looks); each row that meets fmt, with fmt's text TOLD by the authors' own Lean function (tested against real Go, not proved from fmt's source: count such statements apart). THE CARD IS WHAT COUNTS. Prove the row's statement (the work); the ties are given (YtabbfpkhlofccaaGreatDoorTie.lean); close each card by the builder's one call (the guide's Derived/Test/ToyasCard.lean, 'card_holds'). Laid BY PROGRAM, IN A SANDBOX (cutbox-door.mjs). By AI agents, Wed Nov 11 2026. No macro, syntax, notation, axiom, sorry.
-/
import Derived.Test.YtabbfpkhlofccaaGreatDoorRows
import GoSem.ClaimSeven
namespace Go.Proofs.YtabbfpkhlofccaaGreatDoor
namespace Rows

/-- THE TIED CARD OF 'laws.FnWrapsTold'. -/
def fnWrapsToldCard : Claim7 := { stood := { row := fnWrapsToldRow, standIns := [], harness := (true, "46d192350dc0a006572e394f42d91811656c003607586df7f3d07e5dc7679014"), looks := true }, kinds := [], alts := [], laidByText := true, laidKinds := [.data, .pinned], laidTests := true, laidLooks := .later }
def FnWrapsToldCardSaid : Prop := Claim7.holds Tryz.pinned (.plain (OpenSpec.ofChange fnWrapsToldSpec)) fnWrapsToldCard

/-- THE TIED CARD OF 'laws.FnExactKept'. -/
def fnExactKeptCard : Claim7 := { stood := { row := fnExactKeptRow, standIns := [], harness := (true, "46d192350dc0a006572e394f42d91811656c003607586df7f3d07e5dc7679014"), looks := true }, kinds := [], alts := [], laidByText := true, laidKinds := [.data, .pinned], laidTests := true, laidLooks := .later }
def FnExactKeptCardSaid : Prop := Claim7.holds Tryz.pinned (.plain (OpenSpec.ofChange fnExactKeptSpec)) fnExactKeptCard

/-- THE SECOND FORM's CARD OF 'laws.FnWrapsTold'. -/
def fnWrapsToldUptoCard : Claim7 := { stood := { row := fnWrapsToldUptoRow, standIns := [], harness := (true, "46d192350dc0a006572e394f42d91811656c003607586df7f3d07e5dc7679014"), looks := true }, kinds := [], alts := [], laidByText := true, laidKinds := [.data, .pinned], laidTests := true, laidLooks := .later }
def FnWrapsToldUptoCardSaid : Prop := Claim7.holds Tryz.pinned (.plain (OpenSpec.upto fnWrapsToldSpec)) fnWrapsToldUptoCard

/-- THE SECOND FORM's CARD OF 'laws.FnExactKept'. -/
def fnExactKeptUptoCard : Claim7 := { stood := { row := fnExactKeptUptoRow, standIns := [], harness := (true, "46d192350dc0a006572e394f42d91811656c003607586df7f3d07e5dc7679014"), looks := true }, kinds := [], alts := [], laidByText := true, laidKinds := [.data, .pinned], laidTests := true, laidLooks := .later }
def FnExactKeptUptoCardSaid : Prop := Claim7.holds Tryz.pinned (.plain (OpenSpec.upto fnExactKeptSpec)) fnExactKeptUptoCard
end Rows
end Go.Proofs.YtabbfpkhlofccaaGreatDoor
