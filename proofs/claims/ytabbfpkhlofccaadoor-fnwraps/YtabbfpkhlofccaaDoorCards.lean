/-
  DERIVED. GIVEN WITH THE SEED: THE CARDS: each row of YtabbfpkhlofccaaDoorRows.lean that lists a variable, with what it lists TIED to the program's text (the seventh form; the later family's looks); each row that meets fmt, with fmt's text TOLD by the authors' own Lean function (tested against real Go, not proved from fmt's source: count such statements apart). THE CARD IS WHAT COUNTS. Prove the row's statement (the work); the ties are given (YtabbfpkhlofccaaDoorTie.lean); close each card by the builder's one call (the guide's Derived/Test/ToyasCard.lean, 'card_holds'). Laid BY PROGRAM, IN A SANDBOX (cutbox-door.mjs). By AI agents, Wed Nov 11 2026. No macro, syntax, notation, axiom, sorry.
-/
import Derived.Test.YtabbfpkhlofccaaDoorRows
import GoSem.ClaimSeven
namespace Go.Proofs.YtabbfpkhlofccaaDoor
namespace Rows

/-- THE TIED CARD OF 'laws.FnWraps'. -/
def fnWrapsCard : Claim7 := { stood := { row := fnWrapsRow, standIns := [], harness := (true, "c2a1fd1eec31fdf12c1fa240384414299e63eab8293f76a872eb62d468f1849e"), looks := false }, kinds := [], alts := [], laidByText := true, laidKinds := [.data, .pinned], laidTests := true, laidLooks := .later }
def FnWrapsCardSaid : Prop := Claim7.holds Tryd.pinned (.plain (OpenSpec.ofChange fnWrapsSpec)) fnWrapsCard

/-- THE TIED CARD OF 'laws.FnExactWordsOf'. -/
def fnExactWordsOfCard : Claim7 := { stood := { row := fnExactWordsOfRow, standIns := [], harness := (true, "c2a1fd1eec31fdf12c1fa240384414299e63eab8293f76a872eb62d468f1849e"), looks := false }, kinds := [], alts := [], laidByText := true, laidKinds := [.data, .pinned], laidTests := true, laidLooks := .later }
def FnExactWordsOfCardSaid : Prop := Claim7.holds Tryd.pinned (.plain (OpenSpec.ofChange fnExactWordsOfSpec)) fnExactWordsOfCard

/-- THE TIED CARD OF 'laws.FnExactWrapNote'. -/
def fnExactWrapNoteCard : Claim7 := { stood := { row := fnExactWrapNoteRow, standIns := [], harness := (true, "c2a1fd1eec31fdf12c1fa240384414299e63eab8293f76a872eb62d468f1849e"), looks := false }, kinds := [], alts := [], laidByText := true, laidKinds := [.data, .pinned], laidTests := true, laidLooks := .later }
def FnExactWrapNoteCardSaid : Prop := Claim7.holds Tryd.pinned (.plain (OpenSpec.ofChange fnExactWrapNoteSpec)) fnExactWrapNoteCard

/-- THE SECOND FORM's CARD OF 'laws.FnWraps'. -/
def fnWrapsUptoCard : Claim7 := { stood := { row := fnWrapsUptoRow, standIns := [], harness := (true, "c2a1fd1eec31fdf12c1fa240384414299e63eab8293f76a872eb62d468f1849e"), looks := false }, kinds := [], alts := [], laidByText := true, laidKinds := [.data, .pinned], laidTests := true, laidLooks := .later }
def FnWrapsUptoCardSaid : Prop := Claim7.holds Tryd.pinned (.plain (OpenSpec.upto fnWrapsSpec)) fnWrapsUptoCard

/-- THE SECOND FORM's CARD OF 'laws.FnExactWordsOf'. -/
def fnExactWordsOfUptoCard : Claim7 := { stood := { row := fnExactWordsOfUptoRow, standIns := [], harness := (true, "c2a1fd1eec31fdf12c1fa240384414299e63eab8293f76a872eb62d468f1849e"), looks := false }, kinds := [], alts := [], laidByText := true, laidKinds := [.data, .pinned], laidTests := true, laidLooks := .later }
def FnExactWordsOfUptoCardSaid : Prop := Claim7.holds Tryd.pinned (.plain (OpenSpec.upto fnExactWordsOfSpec)) fnExactWordsOfUptoCard

/-- THE SECOND FORM's CARD OF 'laws.FnExactWrapNote'. -/
def fnExactWrapNoteUptoCard : Claim7 := { stood := { row := fnExactWrapNoteUptoRow, standIns := [], harness := (true, "c2a1fd1eec31fdf12c1fa240384414299e63eab8293f76a872eb62d468f1849e"), looks := false }, kinds := [], alts := [], laidByText := true, laidKinds := [.data, .pinned], laidTests := true, laidLooks := .later }
def FnExactWrapNoteUptoCardSaid : Prop := Claim7.holds Tryd.pinned (.plain (OpenSpec.upto fnExactWrapNoteSpec)) fnExactWrapNoteUptoCard
end Rows
end Go.Proofs.YtabbfpkhlofccaaDoor
