/- A cost of the laws' own that came in: what it holds. -/
import Derived.Test.YtndnngfljoamdaaOpenRow
import Derived.Test.YtndnngfljoamdaaLess
namespace Go.Proofs.Ytndnngfljoamdaa
open Go.RowKit Go.Deep

theorem cellsInt : Try.prog.cellsOf 3 = 1 := by kernel_rfl
section
variable {H : Type} {enc : TypeId × Value → H} {w : World} {base : Nat} {spare : Nat → Bool} {held : Bool} {fuel : Nat} {cs : List Value} {x : DataW H × List MemPlace}

set_option maxRecDepth 100000 in
theorem open_cost (hl : cs.length = 2) (h : DataW.trod enc Try.prog w base spare held fuel 76 cs = some x) : ∃ o s : Int, Value.agg cs.toArray = coV o s := by
  obtain ⟨xs, k, hk, hxy, _, hxl, hf⟩ := DataW.trod_struct Try.underlying76 h
  match xs, hxl, cs, hl with
  | [y0, y1], _, [v0, v1], _ =>
    have g0 := hf 0 _ rfl
    have g1 := hf 1 _ rfl
    simp [cellsInt] at g0 g1
    obtain ⟨z0, e0, _⟩ := DataW.trod_int Try.underlying3 g0
    obtain ⟨z1, e1, _⟩ := DataW.trod_int Try.underlying3 g1
    simp at e0 e1
    subst e0 e1
    exact ⟨z0, z1, rfl⟩
end
end Go.Proofs.Ytndnngfljoamdaa
