/- A struct of two cells as a result. -/
import Derived.Test.YtokfemlcamnaaaaLib
import Derived.Deep.MidRow
import Derived.Laws.ResultCell
namespace Go.Proofs.Ytokfemlcamnaaaa
open Go.RowKit

/-- Two cells of a result. -/
theorem results_one2 {P : Program} {fn : Func} {p : Tmp} {ty : TypeId} (h : fn.results = #[.cell p ty]) (tmps : Array Value) (w : World) (g : Nat) (c0 c1 : Value) (d : TypeDesc)
    (hp : tmps.getD p undef = .pointer (some ⟨g, 0, none⟩)) (h0 : w.cell? ⟨g, 0, none⟩ = some c0) (h1 : w.cell? ⟨g, 1, none⟩ = some c1)
    (hu : P.underlying ty = some d) (hd : d.isRow = true) (hi : (P.info? ty).map (·.size) = some 2) :
    (results fn tmps).run P w = .ok (.agg #[c0, c1]) w := by
  have hr : w.rangeAt g 0 [c0, c1] := by
    intro j v hv
    match j with
    | 0 => simpa using h0.trans hv
    | 1 => simpa using h1.trans hv
    | j + 2 => simp at hv
  have hp' : tmps[p]?.getD undef = .pointer (some ⟨g, 0, none⟩) := by simpa using hp
  simp [results, h, hp', asAddr, run_loadVar_mid w g 0 ty [c0, c1] d hr hu hd (by simpa using hi)]
end Go.Proofs.Ytokfemlcamnaaaa
