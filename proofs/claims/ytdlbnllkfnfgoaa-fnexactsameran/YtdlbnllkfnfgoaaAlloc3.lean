/- Three new blocks. -/
import Derived.Test.YtdlbnllkfnfgoaaLib
namespace Go.Proofs.Ytdlbnllkfnfgoaa
open Go.RowKit

theorem alloc3 (w : World) (A B C : Obj) : (((w.alloc A).alloc B).alloc C).heap[w.heap.size]? = some A ∧ (((w.alloc A).alloc B).alloc C).heap[w.heap.size + 1]? = some B ∧ (((w.alloc A).alloc B).alloc C).heap[w.heap.size + 1 + 1]? = some C ∧ (((w.alloc A).alloc B).alloc C).heap.size = w.heap.size + 3 := by
  have hs : ∀ (w : World) (A : Obj), (w.alloc A).heap.size = w.heap.size + 1 := fun w A => by
    show (w.heap.push A).size = _
    simp
  have e := hs w A
  have e2 := hs (w.alloc A) B
  refine ⟨?_, ?_, ?_, ?_⟩
  · rw [Below.heap_alloc _ _ _ (by omega), heap_alloc2_old]
  · rw [Below.heap_alloc _ _ _ (by omega), heap_alloc2_new]
  · have h := heap_alloc_new ((w.alloc A).alloc B) C
    rw [e2, e] at h
    exact h
  · rw [hs, hs, hs]
end Go.Proofs.Ytdlbnllkfnfgoaa
