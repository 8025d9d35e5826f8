/-
  No cell of these rows narrows 'for every input' (looked for: loops, veiled, ifaces, maps, wideKeys, modest, calm, conditions, laid).
  DERIVED. THE GIVEN ROWS OF THIS SEAT. 7 by the template 'for every input the law returns true; each argument reads behind the call as it read before'; 0 by the template 'total and deterministic' (their statements: YtndnngfljoamdaaTotals.lean).
  GIVEN WITH THE SEED: the statements are not yours to turn. If you find one false, say at which input.
  Laid BY PROGRAM, IN A SANDBOX (cutbox-rows.mjs): the forced cells as the released guide's own fill.sh prints them over the translation 97184e677eb4a51e… (all of the seat's roots in one cut). By AI agents, Wed Nov 11 2026. No macro, syntax, notation, axiom, sorry.
-/
import Derived.Test.YtndnngfljoamdaaChecked
import GoSem.Claim
import GoSem.ClaimJoined
import GoSem.ClaimMapViews
import Derived.JoinedTies
import Derived.KernelRfl
namespace Go.Proofs.Ytndnngfljoamdaa
/- THE CELL 'sum', in the pinned program and in every row, IS THE sha256 OF THE DUMP (.gsa) THAT YtndnngfljoamdaaProg.lean LOADS. Nothing in Lean hashes anything: it is a label: what it is worth is what the hold of that sum in a sandbox is worth. -/
noncomputable def Try.pinned : Pinned := { name := "ytndnngfljoamdaa", sum := "97184e677eb4a51e047be4a9167bcf1679666f2429cd4a57963c262e34eb96f3", checked := Try.checked }
namespace Rows
def none {H : Type} : Left H := { results := [], args := [] }

/-- 'laws.FnPieces': WHATEVER THE INPUT: true; the input reads as it did. -/
def fnPiecesSpec : ChangeSpec := { name := "fnPieces", fn := fun _ => fun
  | [d] => { results := [.lit (.bool true)], args := [d] }
  | _ => none }
def fnPiecesRow : OpenClaim := { program := "ytndnngfljoamdaa", sum := "97184e677eb4a51e047be4a9167bcf1679666f2429cd4a57963c262e34eb96f3", func := "loop.example/g00459/laws.FnPieces", spec := "fnPieces", apart := false }
def FnPiecesSaid : Prop := fnPiecesRow.holds Try.pinned (OpenSpec.ofChange fnPiecesSpec)

/-- ITS FALSE NEIGHBOUR: 'it returns false'. Refute it at one input. -/
def fnPiecesWrong : ChangeSpec := { name := "fnPieces", fn := fun _ => fun
  | [d] => { results := [.lit (.bool false)], args := [d] }
  | _ => none }
def FnPiecesWrongFalsely : Prop := fnPiecesRow.holds Try.pinned (OpenSpec.ofChange fnPiecesWrong)

/-- 'laws.FnRenders': WHATEVER THE INPUT: true; the input reads as it did. -/
def fnRendersSpec : ChangeSpec := { name := "fnRenders", fn := fun _ => fun
  | [d] => { results := [.lit (.bool true)], args := [d] }
  | _ => none }
def fnRendersRow : OpenClaim := { program := "ytndnngfljoamdaa", sum := "97184e677eb4a51e047be4a9167bcf1679666f2429cd4a57963c262e34eb96f3", func := "loop.example/g00459/laws.FnRenders", spec := "fnRenders", inPlace := ["internal/abi.NoEscape", "internal/bytealg.MakeNoZero"], apart := false }
def FnRendersSaid : Prop := fnRendersRow.holds Try.pinned (OpenSpec.ofChange fnRendersSpec)

/-- ITS FALSE NEIGHBOUR: 'it returns false'. Refute it at one input. -/
def fnRendersWrong : ChangeSpec := { name := "fnRenders", fn := fun _ => fun
  | [d] => { results := [.lit (.bool false)], args := [d] }
  | _ => none }
def FnRendersWrongFalsely : Prop := fnRendersRow.holds Try.pinned (OpenSpec.ofChange fnRendersWrong)

/-- 'laws.FnExactSplitsAt': WHATEVER THE INPUT: true; the input reads as it did. -/
def fnExactSplitsAtSpec : ChangeSpec := { name := "fnExactSplitsAt", fn := fun _ => fun
  | [d1, d2, d3] => { results := [.lit (.bool true)], args := [d1, d2, d3] }
  | _ => none }
def fnExactSplitsAtRow : OpenClaim := { program := "ytndnngfljoamdaa", sum := "97184e677eb4a51e047be4a9167bcf1679666f2429cd4a57963c262e34eb96f3", func := "loop.example/g00459/laws.FnExactSplitsAt", spec := "fnExactSplitsAt", apart := false }
def FnExactSplitsAtSaid : Prop := fnExactSplitsAtRow.holds Try.pinned (OpenSpec.ofChange fnExactSplitsAtSpec)

/-- ITS FALSE NEIGHBOUR: 'it returns false'. Refute it at one input. -/
def fnExactSplitsAtWrong : ChangeSpec := { name := "fnExactSplitsAt", fn := fun _ => fun
  | [d1, d2, d3] => { results := [.lit (.bool false)], args := [d1, d2, d3] }
  | _ => none }
def FnExactSplitsAtWrongFalsely : Prop := fnExactSplitsAtRow.holds Try.pinned (OpenSpec.ofChange fnExactSplitsAtWrong)

/-- 'laws.FnExactRender': WHATEVER THE INPUT: true; the input reads as it did. -/
def fnExactRenderSpec : ChangeSpec := { name := "fnExactRender", fn := fun _ => fun
  | [d1, d2] => { results := [.lit (.bool true)], args := [d1, d2] }
  | _ => none }
def fnExactRenderRow : OpenClaim := { program := "ytndnngfljoamdaa", sum := "97184e677eb4a51e047be4a9167bcf1679666f2429cd4a57963c262e34eb96f3", func := "loop.example/g00459/laws.FnExactRender", spec := "fnExactRender", inPlace := ["internal/abi.NoEscape", "internal/bytealg.MakeNoZero"], apart := false }
def FnExactRenderSaid : Prop := fnExactRenderRow.holds Try.pinned (OpenSpec.ofChange fnExactRenderSpec)

/-- ITS FALSE NEIGHBOUR: 'it returns false'. Refute it at one input. -/
def fnExactRenderWrong : ChangeSpec := { name := "fnExactRender", fn := fun _ => fun
  | [d1, d2] => { results := [.lit (.bool false)], args := [d1, d2] }
  | _ => none }
def FnExactRenderWrongFalsely : Prop := fnExactRenderRow.holds Try.pinned (OpenSpec.ofChange fnExactRenderWrong)

/-- 'laws.FnExactCostOf': WHATEVER THE INPUT: true; the input reads as it did. -/
def fnExactCostOfSpec : ChangeSpec := { name := "fnExactCostOf", fn := fun _ => fun
  | [d1, d2, d3] => { results := [.lit (.bool true)], args := [d1, d2, d3] }
  | _ => none }
def fnExactCostOfRow : OpenClaim := { program := "ytndnngfljoamdaa", sum := "97184e677eb4a51e047be4a9167bcf1679666f2429cd4a57963c262e34eb96f3", func := "loop.example/g00459/laws.FnExactCostOf", spec := "fnExactCostOf", apart := false }
def FnExactCostOfSaid : Prop := fnExactCostOfRow.holds Try.pinned (OpenSpec.ofChange fnExactCostOfSpec)

/-- ITS FALSE NEIGHBOUR: 'it returns false'. Refute it at one input. -/
def fnExactCostOfWrong : ChangeSpec := { name := "fnExactCostOf", fn := fun _ => fun
  | [d1, d2, d3] => { results := [.lit (.bool false)], args := [d1, d2, d3] }
  | _ => none }
def FnExactCostOfWrongFalsely : Prop := fnExactCostOfRow.holds Try.pinned (OpenSpec.ofChange fnExactCostOfWrong)

/-- 'laws.FnExactCostLess': WHATEVER THE INPUT: true; the input reads as it did. -/
def fnExactCostLessSpec : ChangeSpec := { name := "fnExactCostLess", fn := fun _ => fun
  | [d1, d2] => { results := [.lit (.bool true)], args := [d1, d2] }
  | _ => none }
def fnExactCostLessRow : OpenClaim := { program := "ytndnngfljoamdaa", sum := "97184e677eb4a51e047be4a9167bcf1679666f2429cd4a57963c262e34eb96f3", func := "loop.example/g00459/laws.FnExactCostLess", spec := "fnExactCostLess", apart := false }
def FnExactCostLessSaid : Prop := fnExactCostLessRow.holds Try.pinned (OpenSpec.ofChange fnExactCostLessSpec)

/-- ITS FALSE NEIGHBOUR: 'it returns false'. Refute it at one input. -/
def fnExactCostLessWrong : ChangeSpec := { name := "fnExactCostLess", fn := fun _ => fun
  | [d1, d2] => { results := [.lit (.bool false)], args := [d1, d2] }
  | _ => none }
def FnExactCostLessWrongFalsely : Prop := fnExactCostLessRow.holds Try.pinned (OpenSpec.ofChange fnExactCostLessWrong)

/-- 'laws.FnExactCompare': WHATEVER THE INPUT: true; the input reads as it did. -/
def fnExactCompareSpec : ChangeSpec := { name := "fnExactCompare", fn := fun _ => fun
  | [d1, d2] => { results := [.lit (.bool true)], args := [d1, d2] }
  | _ => none }
def fnExactCompareRow : OpenClaim := { program := "ytndnngfljoamdaa", sum := "97184e677eb4a51e047be4a9167bcf1679666f2429cd4a57963c262e34eb96f3", func := "loop.example/g00459/laws.FnExactCompare", spec := "fnExactCompare", apart := false }
def FnExactCompareSaid : Prop := fnExactCompareRow.holds Try.pinned (OpenSpec.ofChange fnExactCompareSpec)

/-- ITS FALSE NEIGHBOUR: 'it returns false'. Refute it at one input. -/
def fnExactCompareWrong : ChangeSpec := { name := "fnExactCompare", fn := fun _ => fun
  | [d1, d2] => { results := [.lit (.bool false)], args := [d1, d2] }
  | _ => none }
def FnExactCompareWrongFalsely : Prop := fnExactCompareRow.holds Try.pinned (OpenSpec.ofChange fnExactCompareWrong)

/- THE SECOND FORM. 'bulk': how many values and letters a reading holds, each counted each time it is reached (what is shared counts as often as it is met; a slice's spare places count too). A statement '..UptoSaid' is the law's where the arguments, and the package variables that the reading takes, are together of bulk at most 1048576: NARROWER than '..Said'. Prove '..Said' where nothing that the law and all that it calls make is longer than what came in: it says more and counts as full. Else prove '..UptoSaid'. A law counts once. -/
mutual
def uptoBulk {H : Type} : DataW H → Nat
  | .lit (.string bytes) => bytes.length + 1
  | .lit _ => 1
  | .nil => 1
  | .ptr d => uptoBulk d + 1
  | .slice elems spare => uptoBulkAll elems + uptoBulkAll spare + 1
  | .agg parts => uptoBulkAll parts + 1
  | .iface _ d => uptoBulk d + 1
  | .map entries => uptoBulkEntries entries + 1
  | .held _ => 1
def uptoBulkAll {H : Type} : List (DataW H) → Nat
  | [] => 0
  | d :: r => uptoBulk d + uptoBulkAll r
def uptoBulkEntries {H : Type} : List (Lit × DataW H) → Nat
  | [] => 0
  | x :: r => uptoBulkEntry x + uptoBulkEntries r
def uptoBulkEntry {H : Type} : Lit × DataW H → Nat
  | (.string bytes, d) => bytes.length + uptoBulk d + 1
  | (_, d) => uptoBulk d + 1
 end
def uptoSmall : (H : Type) → List (DataW H) → Bool := fun _ ds => decide (uptoBulkAll ds ≤ 1048576)
def OpenSpec.upto (s : _root_.Go.ChangeSpec) : _root_.Go.OpenSpec := { _root_.Go.OpenSpec.ofChange s with cond := some uptoSmall }

/-- 'laws.FnPieces', WHERE WHAT IT READS IS OF BULK AT MOST 1048576: true; the input reads as it did. -/
def fnPiecesUptoRow : OpenClaim := { program := "ytndnngfljoamdaa", sum := "97184e677eb4a51e047be4a9167bcf1679666f2429cd4a57963c262e34eb96f3", func := "loop.example/g00459/laws.FnPieces", spec := "fnPieces", apart := false, narrowed := true }
def FnPiecesUptoSaid : Prop := fnPiecesUptoRow.holds Try.pinned (OpenSpec.upto fnPiecesSpec)

/-- 'laws.FnRenders', WHERE WHAT IT READS IS OF BULK AT MOST 1048576: true; the input reads as it did. -/
def fnRendersUptoRow : OpenClaim := { program := "ytndnngfljoamdaa", sum := "97184e677eb4a51e047be4a9167bcf1679666f2429cd4a57963c262e34eb96f3", func := "loop.example/g00459/laws.FnRenders", spec := "fnRenders", inPlace := ["internal/abi.NoEscape", "internal/bytealg.MakeNoZero"], apart := false, narrowed := true }
def FnRendersUptoSaid : Prop := fnRendersUptoRow.holds Try.pinned (OpenSpec.upto fnRendersSpec)

/-- 'laws.FnExactSplitsAt', WHERE WHAT IT READS IS OF BULK AT MOST 1048576: true; the input reads as it did. -/
def fnExactSplitsAtUptoRow : OpenClaim := { program := "ytndnngfljoamdaa", sum := "97184e677eb4a51e047be4a9167bcf1679666f2429cd4a57963c262e34eb96f3", func := "loop.example/g00459/laws.FnExactSplitsAt", spec := "fnExactSplitsAt", apart := false, narrowed := true }
def FnExactSplitsAtUptoSaid : Prop := fnExactSplitsAtUptoRow.holds Try.pinned (OpenSpec.upto fnExactSplitsAtSpec)

/-- 'laws.FnExactRender', WHERE WHAT IT READS IS OF BULK AT MOST 1048576: true; the input reads as it did. -/
def fnExactRenderUptoRow : OpenClaim := { program := "ytndnngfljoamdaa", sum := "97184e677eb4a51e047be4a9167bcf1679666f2429cd4a57963c262e34eb96f3", func := "loop.example/g00459/laws.FnExactRender", spec := "fnExactRender", inPlace := ["internal/abi.NoEscape", "internal/bytealg.MakeNoZero"], apart := false, narrowed := true }
def FnExactRenderUptoSaid : Prop := fnExactRenderUptoRow.holds Try.pinned (OpenSpec.upto fnExactRenderSpec)

/-- 'laws.FnExactCostOf', WHERE WHAT IT READS IS OF BULK AT MOST 1048576: true; the input reads as it did. -/
def fnExactCostOfUptoRow : OpenClaim := { program := "ytndnngfljoamdaa", sum := "97184e677eb4a51e047be4a9167bcf1679666f2429cd4a57963c262e34eb96f3", func := "loop.example/g00459/laws.FnExactCostOf", spec := "fnExactCostOf", apart := false, narrowed := true }
def FnExactCostOfUptoSaid : Prop := fnExactCostOfUptoRow.holds Try.pinned (OpenSpec.upto fnExactCostOfSpec)

/-- 'laws.FnExactCostLess', WHERE WHAT IT READS IS OF BULK AT MOST 1048576: true; the input reads as it did. -/
def fnExactCostLessUptoRow : OpenClaim := { program := "ytndnngfljoamdaa", sum := "97184e677eb4a51e047be4a9167bcf1679666f2429cd4a57963c262e34eb96f3", func := "loop.example/g00459/laws.FnExactCostLess", spec := "fnExactCostLess", apart := false, narrowed := true }
def FnExactCostLessUptoSaid : Prop := fnExactCostLessUptoRow.holds Try.pinned (OpenSpec.upto fnExactCostLessSpec)

/-- 'laws.FnExactCompare', WHERE WHAT IT READS IS OF BULK AT MOST 1048576: true; the input reads as it did. -/
def fnExactCompareUptoRow : OpenClaim := { program := "ytndnngfljoamdaa", sum := "97184e677eb4a51e047be4a9167bcf1679666f2429cd4a57963c262e34eb96f3", func := "loop.example/g00459/laws.FnExactCompare", spec := "fnExactCompare", apart := false, narrowed := true }
def FnExactCompareUptoSaid : Prop := fnExactCompareUptoRow.holds Try.pinned (OpenSpec.upto fnExactCompareSpec)

end Rows
end Go.Proofs.Ytndnngfljoamdaa
