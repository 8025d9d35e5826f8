/- The variable that strings.Split reads holds some number. -/
import Derived.Test.YtabbfpkhlofccaaDoorShelf
import Derived.Test.YtabbfpkhlofccaaDoorLib
namespace Go.Proofs.YtabbfpkhlofccaaDoor
open Go.RowKit

/-- The library's own bound holds some number. -/
def MaxIn (m : Int) (w : World) : Prop := 0 < w.heap.size ∧ w.cell? ⟨0, 0, none⟩ = some (.int .i64 m)
theorem lt_of_cell {w : World} {p : Addr} {v : Value} (h : w.cell? p = some v) : p.block < w.heap.size := by
  by_cases hp : p.block < w.heap.size
  · exact hp
  · rw [World.cell?, Array.getElem?_eq_none (by omega)] at h
    simp at h
theorem maxIn_of_shaped {w : World} (h : w.ShapedOpen Tryd.prog) : ∃ m, MaxIn m w :=
  let ⟨m, hm⟩ := Tryd.laysM146.s1_3 w h
  ⟨m, lt_of_cell hm, hm⟩
theorem MaxIn.below {m : Int} {w w' : World} (h : MaxIn m w) (hb : Below w.heap.size w w') : MaxIn m w' :=
  ⟨Nat.lt_of_lt_of_le h.1 hb.size, (hb.cell (p := ⟨0, 0, none⟩) h.1).trans h.2⟩
end Go.Proofs.YtabbfpkhlofccaaDoor
