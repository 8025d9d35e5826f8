/-
  DERIVED. GIVEN WITH THE SEED: THE CARDS: each row of YtekebloinobjnaaGreatDoorRows.lean that lists a variable, with what it lists TIED to the program's text (the seventh form; the later family's looks); each row that meets fmt, with fmt's text TOLD by the authors' own Lean function (tested against real Go, not proved from fmt's source: count such statements apart). THE CARD IS WHAT COUNTS. Prove the row's statement (the work); the ties are given (YtekebloinobjnaaGreatDoorTie.lean); close each card by the builder's one call (the guide's Derived/Test/ToyasCard.lean, 'card_holds'). Laid BY PROGRAM, IN A SANDBOX (cutbox-door.mjs). By AI agents, Wed Nov 11 2026. No macro, syntax, notation, axiom, sorry.
-/
import Derived.Test.YtekebloinobjnaaGreatDoorRows
import GoSem.ClaimSeven
namespace Go.Proofs.YtekebloinobjnaaGreatDoor
namespace Rows

/-- THE TIED CARD OF 'laws.FnNames'. -/
def fnNamesCard : Claim7 := { stood := { row := fnNamesRow, standIns := [], harness := (true, "14d40c779563e64f4522690a39caa867f5ea25863879f373bb62f9cb9af3c746"), looks := true }, kinds := [], alts := [], laidByText := true, laidKinds := [.data, .data, .data, .data, .pinned], laidTests := true, laidLooks := .later }
def FnNamesCardSaid : Prop := Claim7.holds Tryz.pinned (.plain (OpenSpec.ofChange fnNamesSpec)) fnNamesCard

/-- THE TIED CARD OF 'laws.FnExactNamesIn'. -/
def fnExactNamesInCard : Claim7 := { stood := { row := fnExactNamesInRow, standIns := [], harness := (true, "14d40c779563e64f4522690a39caa867f5ea25863879f373bb62f9cb9af3c746"), looks := true }, kinds := [], alts := [], laidByText := true, laidKinds := [.data, .pinned], laidTests := true, laidLooks := .later }
def FnExactNamesInCardSaid : Prop := Claim7.holds Tryz.pinned (.plain (OpenSpec.ofChange fnExactNamesInSpec)) fnExactNamesInCard

/-- THE TIED CARD OF 'laws.FnExactLetsIn'. -/
def fnExactLetsInCard : Claim7 := { stood := { row := fnExactLetsInRow, standIns := [], harness := (true, "14d40c779563e64f4522690a39caa867f5ea25863879f373bb62f9cb9af3c746"), looks := true }, kinds := [], alts := [], laidByText := true, laidKinds := [.data, .pinned], laidTests := true, laidLooks := .later }
def FnExactLetsInCardSaid : Prop := Claim7.holds Tryz.pinned (.plain (OpenSpec.ofChange fnExactLetsInSpec)) fnExactLetsInCard

/-- THE TIED CARD OF 'laws.FnExactFreeIn'. -/
def fnExactFreeInCard : Claim7 := { stood := { row := fnExactFreeInRow, standIns := [], harness := (true, "14d40c779563e64f4522690a39caa867f5ea25863879f373bb62f9cb9af3c746"), looks := true }, kinds := [], alts := [], laidByText := true, laidKinds := [.data, .pinned], laidTests := true, laidLooks := .later }
def FnExactFreeInCardSaid : Prop := Claim7.holds Tryz.pinned (.plain (OpenSpec.ofChange fnExactFreeInSpec)) fnExactFreeInCard

/-- THE TIED CARD OF 'laws.FnExactCountName'. -/
def fnExactCountNameCard : Claim7 := { stood := { row := fnExactCountNameRow, standIns := [], harness := (true, "14d40c779563e64f4522690a39caa867f5ea25863879f373bb62f9cb9af3c746"), looks := true }, kinds := [], alts := [], laidByText := true, laidKinds := [.data, .pinned], laidTests := true, laidLooks := .later }
def FnExactCountNameCardSaid : Prop := Claim7.holds Tryz.pinned (.plain (OpenSpec.ofChange fnExactCountNameSpec)) fnExactCountNameCard

/-- THE TIED CARD OF 'laws.FnExactMembersIn'. -/
def fnExactMembersInCard : Claim7 := { stood := { row := fnExactMembersInRow, standIns := [], harness := (true, "14d40c779563e64f4522690a39caa867f5ea25863879f373bb62f9cb9af3c746"), looks := true }, kinds := [], alts := [], laidByText := true, laidKinds := [.data, .pinned], laidTests := true, laidLooks := .later }
def FnExactMembersInCardSaid : Prop := Claim7.holds Tryz.pinned (.plain (OpenSpec.ofChange fnExactMembersInSpec)) fnExactMembersInCard

/-- THE TIED CARD OF 'laws.FnExactRenamed'. -/
def fnExactRenamedCard : Claim7 := { stood := { row := fnExactRenamedRow, standIns := [], harness := (true, "14d40c779563e64f4522690a39caa867f5ea25863879f373bb62f9cb9af3c746"), looks := true }, kinds := [], alts := [], laidByText := true, laidKinds := [.data, .pinned], laidTests := true, laidLooks := .later }
def FnExactRenamedCardSaid : Prop := Claim7.holds Tryz.pinned (.plain (OpenSpec.ofChange fnExactRenamedSpec)) fnExactRenamedCard

/-- THE TIED CARD OF 'laws.FnExactUnused'. -/
def fnExactUnusedCard : Claim7 := { stood := { row := fnExactUnusedRow, standIns := [], harness := (true, "14d40c779563e64f4522690a39caa867f5ea25863879f373bb62f9cb9af3c746"), looks := true }, kinds := [], alts := [], laidByText := true, laidKinds := [.data, .pinned], laidTests := true, laidLooks := .later }
def FnExactUnusedCardSaid : Prop := Claim7.holds Tryz.pinned (.plain (OpenSpec.ofChange fnExactUnusedSpec)) fnExactUnusedCard

/-- THE SECOND FORM's CARD OF 'laws.FnNames'. -/
def fnNamesUptoCard : Claim7 := { stood := { row := fnNamesUptoRow, standIns := [], harness := (true, "14d40c779563e64f4522690a39caa867f5ea25863879f373bb62f9cb9af3c746"), looks := true }, kinds := [], alts := [], laidByText := true, laidKinds := [.data, .data, .data, .data, .pinned], laidTests := true, laidLooks := .later }
def FnNamesUptoCardSaid : Prop := Claim7.holds Tryz.pinned (.plain (OpenSpec.upto fnNamesSpec)) fnNamesUptoCard

/-- THE SECOND FORM's CARD OF 'laws.FnExactNamesIn'. -/
def fnExactNamesInUptoCard : Claim7 := { stood := { row := fnExactNamesInUptoRow, standIns := [], harness := (true, "14d40c779563e64f4522690a39caa867f5ea25863879f373bb62f9cb9af3c746"), looks := true }, kinds := [], alts := [], laidByText := true, laidKinds := [.data, .pinned], laidTests := true, laidLooks := .later }
def FnExactNamesInUptoCardSaid : Prop := Claim7.holds Tryz.pinned (.plain (OpenSpec.upto fnExactNamesInSpec)) fnExactNamesInUptoCard

/-- THE SECOND FORM's CARD OF 'laws.FnExactLetsIn'. -/
def fnExactLetsInUptoCard : Claim7 := { stood := { row := fnExactLetsInUptoRow, standIns := [], harness := (true, "14d40c779563e64f4522690a39caa867f5ea25863879f373bb62f9cb9af3c746"), looks := true }, kinds := [], alts := [], laidByText := true, laidKinds := [.data, .pinned], laidTests := true, laidLooks := .later }
def FnExactLetsInUptoCardSaid : Prop := Claim7.holds Tryz.pinned (.plain (OpenSpec.upto fnExactLetsInSpec)) fnExactLetsInUptoCard

/-- THE SECOND FORM's CARD OF 'laws.FnExactFreeIn'. -/
def fnExactFreeInUptoCard : Claim7 := { stood := { row := fnExactFreeInUptoRow, standIns := [], harness := (true, "14d40c779563e64f4522690a39caa867f5ea25863879f373bb62f9cb9af3c746"), looks := true }, kinds := [], alts := [], laidByText := true, laidKinds := [.data, .pinned], laidTests := true, laidLooks := .later }
def FnExactFreeInUptoCardSaid : Prop := Claim7.holds Tryz.pinned (.plain (OpenSpec.upto fnExactFreeInSpec)) fnExactFreeInUptoCard

/-- THE SECOND FORM's CARD OF 'laws.FnExactCountName'. -/
def fnExactCountNameUptoCard : Claim7 := { stood := { row := fnExactCountNameUptoRow, standIns := [], harness := (true, "14d40c779563e64f4522690a39caa867f5ea25863879f373bb62f9cb9af3c746"), looks := true }, kinds := [], alts := [], laidByText := true, laidKinds := [.data, .pinned], laidTests := true, laidLooks := .later }
def FnExactCountNameUptoCardSaid : Prop := Claim7.holds Tryz.pinned (.plain (OpenSpec.upto fnExactCountNameSpec)) fnExactCountNameUptoCard

/-- THE SECOND FORM's CARD OF 'laws.FnExactMembersIn'. -/
def fnExactMembersInUptoCard : Claim7 := { stood := { row := fnExactMembersInUptoRow, standIns := [], harness := (true, "14d40c779563e64f4522690a39caa867f5ea25863879f373bb62f9cb9af3c746"), looks := true }, kinds := [], alts := [], laidByText := true, laidKinds := [.data, .pinned], laidTests := true, laidLooks := .later }
def FnExactMembersInUptoCardSaid : Prop := Claim7.holds Tryz.pinned (.plain (OpenSpec.upto fnExactMembersInSpec)) fnExactMembersInUptoCard

/-- THE SECOND FORM's CARD OF 'laws.FnExactRenamed'. -/
def fnExactRenamedUptoCard : Claim7 := { stood := { row := fnExactRenamedUptoRow, standIns := [], harness := (true, "14d40c779563e64f4522690a39caa867f5ea25863879f373bb62f9cb9af3c746"), looks := true }, kinds := [], alts := [], laidByText := true, laidKinds := [.data, .pinned], laidTests := true, laidLooks := .later }
def FnExactRenamedUptoCardSaid : Prop := Claim7.holds Tryz.pinned (.plain (OpenSpec.upto fnExactRenamedSpec)) fnExactRenamedUptoCard

/-- THE SECOND FORM's CARD OF 'laws.FnExactUnused'. -/
def fnExactUnusedUptoCard : Claim7 := { stood := { row := fnExactUnusedUptoRow, standIns := [], harness := (true, "14d40c779563e64f4522690a39caa867f5ea25863879f373bb62f9cb9af3c746"), looks := true }, kinds := [], alts := [], laidByText := true, laidKinds := [.data, .pinned], laidTests := true, laidLooks := .later }
def FnExactUnusedUptoCardSaid : Prop := Claim7.holds Tryz.pinned (.plain (OpenSpec.upto fnExactUnusedSpec)) fnExactUnusedUptoCard
end Rows
end Go.Proofs.YtekebloinobjnaaGreatDoor
