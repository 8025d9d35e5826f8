/- What the drawing functions share: a cursor stays where its block stays. -/
import Derived.Test.YtgaejcljabhijaaDraw
import Derived.Laws.OwnMore
namespace Go.Proofs.Ytgaejcljabhijaa
open Go.RowKit

theorem infoByte : (Try.prog.info? 5).map (fun i => (i.zero, i.size, i.bytes)) = some (some (.int .u8 0), 1, 1) := by kernel_rfl

theorem Cur.lt {base : Nat} {w : World} {blk : Nat} {a : Option Addr} {len cap : Nat} (h : Cur base w blk a len cap) : blk < w.heap.size := by
  obtain ⟨i, H, _, hb⟩ := h.block
  exact (Array.getElem?_eq_some_iff.1 hb).1

/-- A cursor stays where its block and the old memory stay. -/
theorem Cur.kept {base : Nat} {w w' : World} {blk : Nat} {a : Option Addr} {len cap : Nat} {row : Option Nat} (h : Cur base w blk a len cap) (hg : w.grownBy w' row) (hr : ∀ k, row = some k → base ≤ k ∧ k ≠ blk) : Cur base w' blk a len cap := by
  obtain ⟨i, H, hi, hb⟩ := h.block
  refine ⟨h.own, h.code.below ((Below.refl base w).grown hg (by have := h.lt; have := h.own; omega) (fun k hk => (hr k hk).1)), i, H, hi, ?_⟩
  rw [hg.block blk h.lt (fun e => (hr blk e.symm).2 rfl)]
  exact hb

theorem grown_row {a b c : World} {r1 r2 : Option Nat} (h1 : a.grownBy b r1) (h2 : b.grownBy c r2) (h : ∀ k, r2 = some k → a.heap.size ≤ k ∨ r1 = some k) : a.grownBy c r1 :=
  ⟨h2.os.trans h1.os, h2.tape.trans h1.tape, h2.output.trans h1.output, Nat.le_trans h1.size h2.size, fun k hk hr => (h2.block k (Nat.lt_of_lt_of_le hk h1.size) (fun e => by rcases h k e.symm with h | h; omega; exact hr h.symm)).trans (h1.block k hk hr)⟩
end Go.Proofs.Ytgaejcljabhijaa
