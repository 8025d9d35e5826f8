/- States in variables. -/
import Derived.Test.YtokfemlcamnaaaaStRow
import Derived.Test.YtokfemlcamnaaaaBCell
namespace Go.Proofs.Ytokfemlcamnaaaa
open Go.RowKit

/-- A state in a variable. -/
structure Bx (w : World) (b : Nat) (p : Sp) : Prop where
  lt : b < w.heap.size
  c0 : w.cell? ⟨b, 0, none⟩ = some (.slice p.a p.st.vals.length p.c)
  c1 : w.cell? ⟨b, 1, none⟩ = some (.int .i64 p.st.sum)
theorem Bx.below {w w' : World} {b : Nat} {p : Sp} {B : Nat} (h : Bx w b p) (hb : Below B w w') (hB : b < B) : Bx w' b p :=
  ⟨Nat.lt_of_lt_of_le h.lt hb.size, by rw [hb.cell hB]; exact h.c0, by rw [hb.cell hB]; exact h.c1⟩
theorem Bx.kept {w w' : World} {b : Nat} {p : Sp} (h : Bx w b p) (hb : Below w.heap.size w w') : Bx w' b p := h.below hb h.lt
theorem Bx.grown {w w' : World} {b : Nat} {p : Sp} {g : Option Nat} (h : Bx w b p) (hg : w.grownBy w' g) (hne : some b ≠ g) : Bx w' b p :=
  ⟨Nat.lt_of_lt_of_le h.lt hg.size, by rw [World.cell?_of_block (hg.block b h.lt hne)]; exact h.c0, by rw [World.cell?_of_block (hg.block b h.lt hne)]; exact h.c1⟩
theorem bx_new (w : World) (p : Sp) (t : Nat) : ∃ W, W = w.alloc (.cells #[.slice p.a p.st.vals.length p.c, .int .i64 p.st.sum] t) ∧ Bx W w.heap.size p ∧ Below w.heap.size w W ∧ W.heap.size = w.heap.size + 1 := by
  refine ⟨_, rfl, ⟨by simp, ?_, ?_⟩, (Below.refl _ _).alloc (Nat.le_refl _) _, by simp⟩
  all_goals simp
theorem bx_new2 (w : World) (p q : Sp) (t : Nat) : ∃ W, W = (w.alloc (.cells #[.slice p.a p.st.vals.length p.c, .int .i64 p.st.sum] t)).alloc (.cells #[.slice q.a q.st.vals.length q.c, .int .i64 q.st.sum] t) ∧ Bx W w.heap.size p ∧ Bx W (w.heap.size + 1) q ∧ Below w.heap.size w W ∧ W.heap.size = w.heap.size + 2 := by
  obtain ⟨W1, h1, b1, e1, s1⟩ := bx_new w p t
  obtain ⟨W2, h2, b2, e2, s2⟩ := bx_new W1 q t
  refine ⟨W2, by rw [h2, h1], b1.kept e2, ?_, e1.trans (e2.mono e1.size), by omega⟩
  rw [s1] at b2
  exact b2
end Go.Proofs.Ytokfemlcamnaaaa
