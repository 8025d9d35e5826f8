/-
  No cell of these rows narrows 'for every input' (looked for: loops, veiled, ifaces, maps, wideKeys, modest, calm, conditions, laid).
  DERIVED. THE GIVEN ROWS OF THIS SEAT. 4 by the template 'for every input the law returns true; each argument reads behind the call as it read before'; 0 by the template 'total and deterministic' (their statements: YtabbfpkhlofccaaTotals.lean).
  GIVEN WITH THE SEED: the statements are not yours to turn. If you find one false, say at which input.
  Laid BY PROGRAM, IN A SANDBOX (cutbox-rows.mjs): the forced cells as the released guide's own fill.sh prints them over the translation 0103c42d3d7ac9d5… (all of the seat's roots in one cut). By AI agents, Wed Nov 11 2026. No macro, syntax, notation, axiom, sorry.
-/
import Derived.Test.YtabbfpkhlofccaaChecked
import GoSem.Claim
import GoSem.ClaimJoined
import GoSem.ClaimMapViews
import Derived.JoinedTies
import Derived.KernelRfl
namespace Go.Proofs.Ytabbfpkhlofccaa
/- THE CELL 'sum', in the pinned program and in every row, IS THE sha256 OF THE DUMP (.gsa) THAT YtabbfpkhlofccaaProg.lean LOADS. Nothing in Lean hashes anything: it is a label: what it is worth is what the hold of that sum in a sandbox is worth. -/
noncomputable def Try.pinned : Pinned := { name := "ytabbfpkhlofccaa", sum := "0103c42d3d7ac9d57829169e1a0d4c5abfca70d62d17a373d2c7e7cd83ba2fad", checked := Try.checked }
namespace Rows
def none {H : Type} : Left H := { results := [], args := [] }

/-- 'laws.FnExactGreedy': WHATEVER THE INPUT: true; the input reads as it did. -/
def fnExactGreedySpec : ChangeSpec := { name := "fnExactGreedy", fn := fun _ => fun
  | [d1, d2] => { results := [.lit (.bool true)], args := [d1, d2] }
  | _ => none }
def fnExactGreedyRow : OpenClaim := { program := "ytabbfpkhlofccaa", sum := "0103c42d3d7ac9d57829169e1a0d4c5abfca70d62d17a373d2c7e7cd83ba2fad", func := "loop.example/g00459/laws.FnExactGreedy", spec := "fnExactGreedy", inPlace := ["internal/bytealg.IndexByteString", "internal/bytealg.IndexString", "internal/abi.NoEscape", "internal/bytealg.MakeNoZero"], unfollowed := true, recurses := true, named := ["internal/bytealg.MaxLen"], apart := false }
def FnExactGreedySaid : Prop := fnExactGreedyRow.holds Try.pinned (OpenSpec.ofChange fnExactGreedySpec)

/-- ITS FALSE NEIGHBOUR: 'it returns false'. Refute it at one input. -/
def fnExactGreedyWrong : ChangeSpec := { name := "fnExactGreedy", fn := fun _ => fun
  | [d1, d2] => { results := [.lit (.bool false)], args := [d1, d2] }
  | _ => none }
def FnExactGreedyWrongFalsely : Prop := fnExactGreedyRow.holds Try.pinned (OpenSpec.ofChange fnExactGreedyWrong)

/-- 'laws.FnExactRagOf': WHATEVER THE INPUT: true; the input reads as it did. -/
def fnExactRagOfSpec : ChangeSpec := { name := "fnExactRagOf", fn := fun _ => fun
  | [d1, d2] => { results := [.lit (.bool true)], args := [d1, d2] }
  | _ => none }
def fnExactRagOfRow : OpenClaim := { program := "ytabbfpkhlofccaa", sum := "0103c42d3d7ac9d57829169e1a0d4c5abfca70d62d17a373d2c7e7cd83ba2fad", func := "loop.example/g00459/laws.FnExactRagOf", spec := "fnExactRagOf", apart := false }
def FnExactRagOfSaid : Prop := fnExactRagOfRow.holds Try.pinned (OpenSpec.ofChange fnExactRagOfSpec)

/-- ITS FALSE NEIGHBOUR: 'it returns false'. Refute it at one input. -/
def fnExactRagOfWrong : ChangeSpec := { name := "fnExactRagOf", fn := fun _ => fun
  | [d1, d2] => { results := [.lit (.bool false)], args := [d1, d2] }
  | _ => none }
def FnExactRagOfWrongFalsely : Prop := fnExactRagOfRow.holds Try.pinned (OpenSpec.ofChange fnExactRagOfWrong)

/-- 'laws.FnExactLeastRag': WHATEVER THE INPUT: true; the input reads as it did. -/
def fnExactLeastRagSpec : ChangeSpec := { name := "fnExactLeastRag", fn := fun _ => fun
  | [d1, d2] => { results := [.lit (.bool true)], args := [d1, d2] }
  | _ => none }
def fnExactLeastRagRow : OpenClaim := { program := "ytabbfpkhlofccaa", sum := "0103c42d3d7ac9d57829169e1a0d4c5abfca70d62d17a373d2c7e7cd83ba2fad", func := "loop.example/g00459/laws.FnExactLeastRag", spec := "fnExactLeastRag", inPlace := ["internal/bytealg.IndexByteString", "internal/bytealg.IndexString"], named := ["internal/bytealg.MaxLen"], apart := false }
def FnExactLeastRagSaid : Prop := fnExactLeastRagRow.holds Try.pinned (OpenSpec.ofChange fnExactLeastRagSpec)

/-- ITS FALSE NEIGHBOUR: 'it returns false'. Refute it at one input. -/
def fnExactLeastRagWrong : ChangeSpec := { name := "fnExactLeastRag", fn := fun _ => fun
  | [d1, d2] => { results := [.lit (.bool false)], args := [d1, d2] }
  | _ => none }
def FnExactLeastRagWrongFalsely : Prop := fnExactLeastRagRow.holds Try.pinned (OpenSpec.ofChange fnExactLeastRagWrong)

/-- 'laws.FnExactBestWrap': WHATEVER THE INPUT: true; the input reads as it did. -/
def fnExactBestWrapSpec : ChangeSpec := { name := "fnExactBestWrap", fn := fun _ => fun
  | [d1, d2] => { results := [.lit (.bool true)], args := [d1, d2] }
  | _ => none }
def fnExactBestWrapRow : OpenClaim := { program := "ytabbfpkhlofccaa", sum := "0103c42d3d7ac9d57829169e1a0d4c5abfca70d62d17a373d2c7e7cd83ba2fad", func := "loop.example/g00459/laws.FnExactBestWrap", spec := "fnExactBestWrap", inPlace := ["internal/bytealg.IndexByteString", "internal/bytealg.IndexString", "internal/abi.NoEscape", "internal/bytealg.MakeNoZero"], unfollowed := true, recurses := true, named := ["internal/bytealg.MaxLen"], apart := false }
def FnExactBestWrapSaid : Prop := fnExactBestWrapRow.holds Try.pinned (OpenSpec.ofChange fnExactBestWrapSpec)

/-- ITS FALSE NEIGHBOUR: 'it returns false'. Refute it at one input. -/
def fnExactBestWrapWrong : ChangeSpec := { name := "fnExactBestWrap", fn := fun _ => fun
  | [d1, d2] => { results := [.lit (.bool false)], args := [d1, d2] }
  | _ => none }
def FnExactBestWrapWrongFalsely : Prop := fnExactBestWrapRow.holds Try.pinned (OpenSpec.ofChange fnExactBestWrapWrong)

/- THE SECOND FORM. 'bulk': how many values and letters a reading holds, each counted each time it is reached (what is shared counts as often as it is met; a slice's spare places count too). A statement '..UptoSaid' is the law's where the arguments, and the package variables that the reading takes, are together of bulk at most 1048576: NARROWER than '..Said'. Prove '..Said' where nothing that the law and all that it calls make is longer than what came in: it says more and counts as full. Else prove '..UptoSaid'. A law counts once. -/
mutual
def uptoBulk {H : Type} : DataW H → Nat
  | .lit (.string bytes) => bytes.length + 1
  | .lit _ => 1
  | .nil => 1
  | .ptr d => uptoBulk d + 1
  | .slice elems spare => uptoBulkAll elems + uptoBulkAll spare + 1
  | .agg parts => uptoBulkAll parts + 1
  | .iface _ d => uptoBulk d + 1
  | .map entries => uptoBulkEntries entries + 1
  | .held _ => 1
def uptoBulkAll {H : Type} : List (DataW H) → Nat
  | [] => 0
  | d :: r => uptoBulk d + uptoBulkAll r
def uptoBulkEntries {H : Type} : List (Lit × DataW H) → Nat
  | [] => 0
  | x :: r => uptoBulkEntry x + uptoBulkEntries r
def uptoBulkEntry {H : Type} : Lit × DataW H → Nat
  | (.string bytes, d) => bytes.length + uptoBulk d + 1
  | (_, d) => uptoBulk d + 1
 end
def uptoSmall : (H : Type) → List (DataW H) → Bool := fun _ ds => decide (uptoBulkAll ds ≤ 1048576)
def OpenSpec.upto (s : _root_.Go.ChangeSpec) : _root_.Go.OpenSpec := { _root_.Go.OpenSpec.ofChange s with cond := some uptoSmall }

/-- 'laws.FnExactGreedy', WHERE WHAT IT READS IS OF BULK AT MOST 1048576: true; the input reads as it did. -/
def fnExactGreedyUptoRow : OpenClaim := { program := "ytabbfpkhlofccaa", sum := "0103c42d3d7ac9d57829169e1a0d4c5abfca70d62d17a373d2c7e7cd83ba2fad", func := "loop.example/g00459/laws.FnExactGreedy", spec := "fnExactGreedy", inPlace := ["internal/bytealg.IndexByteString", "internal/bytealg.IndexString", "internal/abi.NoEscape", "internal/bytealg.MakeNoZero"], unfollowed := true, recurses := true, named := ["internal/bytealg.MaxLen"], apart := false, narrowed := true }
def FnExactGreedyUptoSaid : Prop := fnExactGreedyUptoRow.holds Try.pinned (OpenSpec.upto fnExactGreedySpec)

/-- 'laws.FnExactRagOf', WHERE WHAT IT READS IS OF BULK AT MOST 1048576: true; the input reads as it did. -/
def fnExactRagOfUptoRow : OpenClaim := { program := "ytabbfpkhlofccaa", sum := "0103c42d3d7ac9d57829169e1a0d4c5abfca70d62d17a373d2c7e7cd83ba2fad", func := "loop.example/g00459/laws.FnExactRagOf", spec := "fnExactRagOf", apart := false, narrowed := true }
def FnExactRagOfUptoSaid : Prop := fnExactRagOfUptoRow.holds Try.pinned (OpenSpec.upto fnExactRagOfSpec)

/-- 'laws.FnExactLeastRag', WHERE WHAT IT READS IS OF BULK AT MOST 1048576: true; the input reads as it did. -/
def fnExactLeastRagUptoRow : OpenClaim := { program := "ytabbfpkhlofccaa", sum := "0103c42d3d7ac9d57829169e1a0d4c5abfca70d62d17a373d2c7e7cd83ba2fad", func := "loop.example/g00459/laws.FnExactLeastRag", spec := "fnExactLeastRag", inPlace := ["internal/bytealg.IndexByteString", "internal/bytealg.IndexString"], named := ["internal/bytealg.MaxLen"], apart := false, narrowed := true }
def FnExactLeastRagUptoSaid : Prop := fnExactLeastRagUptoRow.holds Try.pinned (OpenSpec.upto fnExactLeastRagSpec)

/-- 'laws.FnExactBestWrap', WHERE WHAT IT READS IS OF BULK AT MOST 1048576: true; the input reads as it did. -/
def fnExactBestWrapUptoRow : OpenClaim := { program := "ytabbfpkhlofccaa", sum := "0103c42d3d7ac9d57829169e1a0d4c5abfca70d62d17a373d2c7e7cd83ba2fad", func := "loop.example/g00459/laws.FnExactBestWrap", spec := "fnExactBestWrap", inPlace := ["internal/bytealg.IndexByteString", "internal/bytealg.IndexString", "internal/abi.NoEscape", "internal/bytealg.MakeNoZero"], unfollowed := true, recurses := true, named := ["internal/bytealg.MaxLen"], apart := false, narrowed := true }
def FnExactBestWrapUptoSaid : Prop := fnExactBestWrapUptoRow.holds Try.pinned (OpenSpec.upto fnExactBestWrapSpec)

end Rows
end Go.Proofs.Ytabbfpkhlofccaa
