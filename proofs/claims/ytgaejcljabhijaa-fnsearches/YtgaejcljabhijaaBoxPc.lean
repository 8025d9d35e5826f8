/- A piece in a variable of its own: its five cells. -/
import Derived.Test.YtgaejcljabhijaaPcLib
namespace Go.Proofs.Ytgaejcljabhijaa
open Go.RowKit

/-- The piece's five cells lie in block b. -/
structure BoxAt (w : World) (b : Nat) (p : Pc) (l : Pl) : Prop where
  lt : b < w.heap.size
  c0 : w.cell? ⟨b, 0, none⟩ = some (.int .i64 p.indent)
  c1 : w.cell? ⟨b, 1, none⟩ = some (.slice l.a1 p.rules.length l.c1)
  c2 : w.cell? ⟨b, 2, none⟩ = some (.slice l.a2 p.chunks.length l.c2)
  c3 : w.cell? ⟨b, 3, none⟩ = some (.slice l.a3 p.spans.length l.c3)
  c4 : w.cell? ⟨b, 4, none⟩ = some (.slice l.a4 p.ties.length l.c4)
theorem BoxAt.below {w w' : World} {b B : Nat} {p : Pc} {l : Pl} (h : BoxAt w b p l) (hb : Below B w w') (hB : b < B) : BoxAt w' b p l :=
  ⟨Nat.lt_of_lt_of_le h.lt hb.size, by rw [hb.cell hB]; exact h.c0, by rw [hb.cell hB]; exact h.c1, by rw [hb.cell hB]; exact h.c2, by rw [hb.cell hB]; exact h.c3, by rw [hb.cell hB]; exact h.c4⟩
/-- A variable is made, and holds the piece. -/
theorem boxed (w : World) (p : Pc) (l : Pl) (t : Nat) : ∃ W, W = w.alloc (.cells #[.int .i64 p.indent, .slice l.a1 p.rules.length l.c1, .slice l.a2 p.chunks.length l.c2, .slice l.a3 p.spans.length l.c3, .slice l.a4 p.ties.length l.c4] t) ∧ BoxAt W w.heap.size p l ∧ Below w.heap.size w W ∧ W.heap.size = w.heap.size + 1 := by
  refine ⟨_, rfl, ⟨by simp, ?_, ?_, ?_, ?_, ?_⟩, (Below.refl _ _).alloc (Nat.le_refl _) _, by simp⟩
  all_goals simp
end Go.Proofs.Ytgaejcljabhijaa
