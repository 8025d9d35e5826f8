/- All has stayed but a heap's row and the block that holds the heap. -/
import Derived.Test.YtokfemlcamnaaaaAppPl
import Derived.Test.YtokfemlcamnaaaaStRow
namespace Go.Proofs.Ytokfemlcamnaaaa
open Go.RowKit

structure Gr2 (w w' : World) (row : Option Nat) (hb : Nat) : Prop where
  size : w.heap.size ≤ w'.heap.size
  block : ∀ k, k < w.heap.size → k ≠ hb → some k ≠ row → w'.heap[k]? = w.heap[k]?
section
variable {w w' w1 w2 : World} {row : Option Nat} {hb g : Nat}
theorem Gr2.ofG (h : w.grownBy w' row) (hb : Nat) : Gr2 w w' row hb := ⟨h.size, fun k hk _ hr => h.block k hk hr⟩
theorem Gr2.ofB (h : Below w.heap.size w w') (row : Option Nat) (hb : Nat) : Gr2 w w' row hb := ⟨h.size, fun k hk _ _ => h.block k hk⟩
theorem Gr2.trans (h1 : Gr2 w w1 row hb) (h2 : Gr2 w1 w2 row hb) : Gr2 w w2 row hb := ⟨Nat.le_trans h1.size h2.size, fun k hk hh hr => (h2.block k (Nat.lt_of_lt_of_le hk h1.size) hh hr).trans (h1.block k hk hh hr)⟩
theorem Gr2.setH (h : Gr2 w w1 row hb) (o : Nat) (v : Value) : Gr2 w (w1.setCell ⟨hb, o, none⟩ v) row hb := ⟨by simpa using h.size, fun k hk hh hr => (heap_setCell_other w1 ⟨hb, o, none⟩ k v hh).trans (h.block k hk hh hr)⟩
theorem Gr2.setN (h : Gr2 w w1 row hb) {b : Nat} (hn : w.heap.size ≤ b) (o : Nat) (v : Value) : Gr2 w (w1.setCell ⟨b, o, none⟩ v) row hb := ⟨by simpa using h.size, fun k hk hh hr => (heap_setCell_other w1 ⟨b, o, none⟩ k v (by show k ≠ b; omega)).trans (h.block k hk hh hr)⟩
theorem Gr2.atG (h : Gr2 w w1 row hb) (h2 : w1.grownBy w2 (some g)) (hg : row = some g ∨ w.heap.size ≤ g) : Gr2 w w2 row hb := ⟨Nat.le_trans h.size h2.size, fun k hk hh hr => (h2.block k (Nat.lt_of_lt_of_le hk h.size) (fun e => by
    rcases hg with hg | hg
    · exact hr (e.trans hg.symm)
    · have := Option.some.inj e
      omega)).trans (h.block k hk hh hr)⟩
/-- A later step that leaves what the earlier one may not have left. -/
theorem Gr2.then (h1 : Gr2 w w1 row hb) {row' : Option Nat} (h2 : Gr2 w1 w2 row' hb) (hr : ∀ g, row' = some g → row = some g ∨ w.heap.size ≤ g) : Gr2 w w2 row hb := ⟨Nat.le_trans h1.size h2.size, fun k hk hh hn => (h2.block k (Nat.lt_of_lt_of_le hk h1.size) hh (fun e => by
    rcases hr k e.symm with h | h
    · exact hn h.symm
    · omega)).trans (h1.block k hk hh hn)⟩
theorem Gr2.own (h : Gr2 w w' row hb) {B e s n : Nat} {v : Value} {xs : List Value} (ho : w.ownsRow B e s v n xs) (h1 : v.ownBlock = none ∨ v.ownBlock ≠ row) (h2 : v.ownBlock = none ∨ v.ownBlock ≠ some hb) : w'.ownsRow B e s v n xs := by
  refine ⟨ho.1, ?_⟩
  rcases ho.2 with hn | ⟨g, cap, cur, rfl, hb', hgg, rest⟩
  · exact .inl hn
  · refine .inr ⟨g, cap, cur, rfl, hb', ?_, rest⟩
    rw [h.block g (Array.getElem?_eq_some_iff.1 hgg).1 (fun e => by subst e; simp [Value.ownBlock] at h2) (by simpa [Value.ownBlock] using h1)]
    exact hgg
end
end Go.Proofs.Ytokfemlcamnaaaa
