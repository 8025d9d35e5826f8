/- What a run tells that came in: what its cells hold. -/
import Derived.Test.YtdlbnllkfnfgoaaProg
import Derived.Test.YtdlbnllkfnfgoaaRanLib
import Derived.Test.YtdlbnllkfnfgoaaOpenInt
import Derived.Deep.Slices
import Derived.ProofKit
namespace Go.Proofs.Ytdlbnllkfnfgoaa
open Go.RowKit Go.Deep

set_option maxRecDepth 20000 in
theorem open_ran {H : Type} {enc : TypeId × Value → H} {w : World} {base : Nat} {spare : Nat → Bool} {held : Bool} {fuel : Nat} {cs : List Value} {x : DataW H × List MemPlace} (hlen : cs.length = 4)
    (h2 : DataW.trod enc Try.prog w base spare held fuel 35 cs = some x) :
    ∃ p : Ra, cs = [.slice p.a p.xs.length p.c, .int .i64 p.ret, .int .i64 p.code, .int .i64 p.st] ∧ p.xs.length ≤ 9223372036854775807 ∧ KidsAt w p.a p.xs := by
  have c3 : Try.prog.cellsOf 3 = 1 := by kernel_rfl
  have ci : Try.prog.cellsOf 33 = 1 := by kernel_rfl
  obtain ⟨xs, k, hk, hxy, _, hxl, hf⟩ := DataW.trod_struct Try.underlying35 h2
  match xs, hxl, cs, hlen with
  | [y0, y1, y2, y3], _, [v0, v1, v2, v3], _ =>
    have g0 := hf 0 _ rfl
    have g1 := hf 1 _ rfl
    have g2 := hf 2 _ rfl
    have g3 := hf 3 _ rfl
    simp [c3, ci] at g0 g1 g2 g3
    obtain ⟨ka, kn, kc, ks, e0, hkl, hkn, hkat⟩ := open_ints g0
    obtain ⟨z1, e1, _⟩ := DataW.trod_int Try.underlying3 g1
    obtain ⟨z2, e2, _⟩ := DataW.trod_int Try.underlying3 g2
    obtain ⟨z3, e3, _⟩ := DataW.trod_int Try.underlying3 g3
    subst hkn
    unfold maxLen at hkl
    refine ⟨⟨ks, z1, z2, z3, ka, kc⟩, ?_, by simpa using hkl, hkat⟩
    simp at e0 e1 e2 e3
    rw [e0, e1, e2, e3]
end Go.Proofs.Ytdlbnllkfnfgoaa
