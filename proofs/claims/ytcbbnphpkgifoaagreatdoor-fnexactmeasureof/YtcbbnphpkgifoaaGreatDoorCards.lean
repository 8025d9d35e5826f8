/-
  DERIVED. GIVEN WITH THE SEED: THE CARDS: each row of YtcbbnphpkgifoaaGreatDoorRows.lean that lists a variable, with what it lists TIED to the program's text (the seventh form; the later family's looks); each row that meets fmt, with fmt's text TOLD by the authors' own Lean function (tested against real Go, not proved from fmt's source: count such statements apart). THE CARD IS WHAT COUNTS. Prove the row's statement (the work); the ties are given (YtcbbnphpkgifoaaGreatDoorTie.lean); close each card by the builder's one call (the guide's Derived/Test/ToyasCard.lean, 'card_holds'). Laid BY PROGRAM, IN A SANDBOX (cutbox-door.mjs). By AI agents, Wed Nov 11 2026. No macro, syntax, notation, axiom, sorry.
-/
import Derived.Test.YtcbbnphpkgifoaaGreatDoorRows
import GoSem.ClaimSeven
namespace Go.Proofs.YtcbbnphpkgifoaaGreatDoor
namespace Rows

/-- THE TIED CARD OF 'laws.FnMeasures'. -/
def fnMeasuresCard : Claim7 := { stood := { row := fnMeasuresRow, standIns := [], harness := (true, "02cfa7a0a010b363bb38a6175b507850e83edd68adb3a2b9dd37c269289a24f3"), looks := true }, kinds := [], alts := [], laidByText := true, laidKinds := [.data, .pinned], laidTests := true, laidLooks := .later }
def FnMeasuresCardSaid : Prop := Claim7.holds Tryz.pinned (.plain (OpenSpec.ofChange fnMeasuresSpec)) fnMeasuresCard

/-- THE TIED CARD OF 'laws.FnExactMeasureOf'. -/
def fnExactMeasureOfCard : Claim7 := { stood := { row := fnExactMeasureOfRow, standIns := [], harness := (true, "02cfa7a0a010b363bb38a6175b507850e83edd68adb3a2b9dd37c269289a24f3"), looks := true }, kinds := [], alts := [], laidByText := true, laidKinds := [.data, .pinned], laidTests := true, laidLooks := .later }
def FnExactMeasureOfCardSaid : Prop := Claim7.holds Tryz.pinned (.plain (OpenSpec.ofChange fnExactMeasureOfSpec)) fnExactMeasureOfCard

/-- THE SECOND FORM's CARD OF 'laws.FnMeasures'. -/
def fnMeasuresUptoCard : Claim7 := { stood := { row := fnMeasuresUptoRow, standIns := [], harness := (true, "02cfa7a0a010b363bb38a6175b507850e83edd68adb3a2b9dd37c269289a24f3"), looks := true }, kinds := [], alts := [], laidByText := true, laidKinds := [.data, .pinned], laidTests := true, laidLooks := .later }
def FnMeasuresUptoCardSaid : Prop := Claim7.holds Tryz.pinned (.plain (OpenSpec.upto fnMeasuresSpec)) fnMeasuresUptoCard

/-- THE SECOND FORM's CARD OF 'laws.FnExactMeasureOf'. -/
def fnExactMeasureOfUptoCard : Claim7 := { stood := { row := fnExactMeasureOfUptoRow, standIns := [], harness := (true, "02cfa7a0a010b363bb38a6175b507850e83edd68adb3a2b9dd37c269289a24f3"), looks := true }, kinds := [], alts := [], laidByText := true, laidKinds := [.data, .pinned], laidTests := true, laidLooks := .later }
def FnExactMeasureOfUptoCardSaid : Prop := Claim7.holds Tryz.pinned (.plain (OpenSpec.upto fnExactMeasureOfSpec)) fnExactMeasureOfUptoCard
end Rows
end Go.Proofs.YtcbbnphpkgifoaaGreatDoor
