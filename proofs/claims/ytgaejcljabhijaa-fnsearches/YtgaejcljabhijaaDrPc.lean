/- A piece that is being drawn: where it lies, and what stays so. -/
import Derived.Test.YtgaejcljabhijaaDrawO
import Derived.Test.YtgaejcljabhijaaDrawPk
import Derived.Test.YtgaejcljabhijaaDrawPi
import Derived.Test.YtgaejcljabhijaaRightLib
import Derived.Laws.OwnMore
namespace Go.Proofs.Ytgaejcljabhijaa
open Go.RowKit

abbrev pcCells (p : Pc) (l : Pl) : Array Value := #[.int .i64 p.indent, .slice l.a1 p.rules.length l.c1, .slice l.a2 p.chunks.length l.c2, .slice l.a3 p.spans.length l.c3, .slice l.a4 p.ties.length l.c4]
abbrev noCells : Array Value := #[.int .i64 0, .slice none 0 0, .slice none 0 0, .slice none 0 0, .slice none 0 0]
abbrev ob1 (p : Pc) (l : Pl) : Option Nat := (Value.slice l.a1 p.rules.length l.c1).ownBlock
abbrev ob2 (p : Pc) (l : Pl) : Option Nat := (Value.slice l.a2 p.chunks.length l.c2).ownBlock
abbrev ob3 (p : Pc) (l : Pl) : Option Nat := (Value.slice l.a3 p.spans.length l.c3).ownBlock
abbrev ob4 (p : Pc) (l : Pl) : Option Nat := (Value.slice l.a4 p.ties.length l.c4).ownBlock

/-- The four lists are owned, and no two of them share memory. -/
structure Own4 (base : Nat) (w : World) (p : Pc) (l : Pl) : Prop where
  o1 : w.ownsRow base 69 2 (.slice l.a1 p.rules.length l.c1) p.rules.length (rowVals ruCells p.rules)
  o2 : w.ownsRow base 110 5 (.slice l.a2 p.chunks.length l.c2) p.chunks.length (rowVals chCells p.chunks)
  o3 : w.ownsRow base 112 3 (.slice l.a3 p.spans.length l.c3) p.spans.length (rowVals snCells p.spans)
  o4 : w.ownsRow base 82 2 (.slice l.a4 p.ties.length l.c4) p.ties.length (rowVals tiCells p.ties)
  d12 : ∀ k, ob1 p l = some k → ob2 p l ≠ some k
  d13 : ∀ k, ob1 p l = some k → ob3 p l ≠ some k
  d14 : ∀ k, ob1 p l = some k → ob4 p l ≠ some k
  d23 : ∀ k, ob2 p l = some k → ob3 p l ≠ some k
  d24 : ∀ k, ob2 p l = some k → ob4 p l ≠ some k
  d34 : ∀ k, ob3 p l = some k → ob4 p l ≠ some k
theorem Own4.is {base : Nat} {w : World} {p : Pc} {l : Pl} (h : Own4 base w p l) : PcIn w p l :=
  ⟨.of_own ruCells_len h.o1 rfl, .of_own chCells_len h.o2 rfl, .of_own snCells_len h.o3 rfl, .of_own tiCells_len h.o4 rfl⟩
theorem kept_ob {w w' : World} {base e s n : Nat} {v : Value} {xs : List Value} {row : Option Nat} (h : w.ownsRow base e s v n xs) (hg : w.grownBy w' row) (hne : ∀ k, row = some k → v.ownBlock ≠ some k) : w'.ownsRow base e s v n xs := by
  refine World.ownsRow.kept h hg ?_
  cases hv : v.ownBlock with
  | none => exact .inl rfl
  | some g => exact .inr (fun e => hne g e.symm hv)
theorem Own4.kept {base : Nat} {w w' : World} {p : Pc} {l : Pl} {row : Option Nat} (h : Own4 base w p l) (hg : w.grownBy w' row) (hr : ∀ k, row = some k → ob1 p l ≠ some k ∧ ob2 p l ≠ some k ∧ ob3 p l ≠ some k ∧ ob4 p l ≠ some k) : Own4 base w' p l :=
  ⟨kept_ob h.o1 hg (fun k hk => (hr k hk).1), kept_ob h.o2 hg (fun k hk => (hr k hk).2.1), kept_ob h.o3 hg (fun k hk => (hr k hk).2.2.1), kept_ob h.o4 hg (fun k hk => (hr k hk).2.2.2), h.d12, h.d13, h.d14, h.d23, h.d24, h.d34⟩
theorem Own4.below {base : Nat} {w w' : World} {p : Pc} {l : Pl} (h : Own4 base w p l) (hb : Below w.heap.size w w') : Own4 base w' p l :=
  ⟨owns_below h.o1 hb, owns_below h.o2 hb, owns_below h.o3 hb, owns_below h.o4 hb, h.d12, h.d13, h.d14, h.d23, h.d24, h.d34⟩

/-- A piece that is being drawn: it lies in block pb, what will be told in block R, the cursor in block blk. -/
structure DS (base : Nat) (w0 : World) (blk pb R : Nat) (a : Option Addr) (len cap : Nat) (w : World) (p : Pc) (l : Pl) : Prop where
  cur : Cur base w blk a len cap
  grow : w0.grownBy w (some blk)
  box : w.heap[pb]? = some (.cells (pcCells p l) 29 (0, 0))
  res : w.heap[R]? = some (.cells noCells 29 (0, 0))
  old : blk < w0.heap.size
  npb : w0.heap.size ≤ pb
  nR : w0.heap.size ≤ R
  ne : pb ≠ R
  own : Own4 w0.heap.size w p l
  f1 : ∀ k, ob1 p l = some k → k ≠ pb ∧ k ≠ R
  f2 : ∀ k, ob2 p l = some k → k ≠ pb ∧ k ≠ R
  f3 : ∀ k, ob3 p l = some k → k ≠ pb ∧ k ≠ R
  f4 : ∀ k, ob4 p l = some k → k ≠ pb ∧ k ≠ R

section
variable {base : Nat} {w0 : World} {blk pb R : Nat} {a : Option Addr} {len cap : Nat} {w w' : World} {p : Pc} {l : Pl}

theorem DS.pbl (h : DS base w0 blk pb R a len cap w p l) : pb < w.heap.size := (Array.getElem?_eq_some_iff.1 h.box).1
theorem DS.Rl (h : DS base w0 blk pb R a len cap w p l) : R < w.heap.size := (Array.getElem?_eq_some_iff.1 h.res).1
/-- The piece's cells, and that they may be written. -/
theorem DS.cells (h : DS base w0 blk pb R a len cap w p l) : (w.cell? ⟨pb, 0, none⟩ = some (.int .i64 p.indent) ∧ w.cell? ⟨pb, 1, none⟩ = some (.slice l.a1 p.rules.length l.c1) ∧ w.cell? ⟨pb, 2, none⟩ = some (.slice l.a2 p.chunks.length l.c2) ∧ w.cell? ⟨pb, 3, none⟩ = some (.slice l.a3 p.spans.length l.c3) ∧ w.cell? ⟨pb, 4, none⟩ = some (.slice l.a4 p.ties.length l.c4)) ∧ ∀ j, w.frozen? ⟨pb, j, none⟩ = false :=
  ⟨⟨cell_of_row w _ 0 _ _ _ h.box, cell_of_row w _ 1 _ _ _ h.box, cell_of_row w _ 2 _ _ _ h.box, cell_of_row w _ 3 _ _ _ h.box, cell_of_row w _ 4 _ _ _ h.box⟩, fun j => frozen_of_row w pb j _ _ h.box⟩
theorem DS.frame {row : Option Nat} (h : DS base w0 blk pb R a len cap w p l) (hc : Cur base w' blk a len cap) (hg : w.grownBy w' row)
    (hr : ∀ k, row = some k → (k = blk ∨ w0.heap.size ≤ k) ∧ k ≠ pb ∧ k ≠ R ∧ ob1 p l ≠ some k ∧ ob2 p l ≠ some k ∧ ob3 p l ≠ some k ∧ ob4 p l ≠ some k) : DS base w0 blk pb R a len cap w' p l :=
  ⟨hc, grown_row h.grow hg (fun k hk => by rcases (hr k hk).1 with e | e; exact .inr (by rw [e]); exact .inl e),
    (hg.block pb h.pbl (fun e => (hr pb e.symm).2.1 rfl)).trans h.box, (hg.block R h.Rl (fun e => (hr R e.symm).2.2.1 rfl)).trans h.res, h.old, h.npb, h.nR, h.ne, h.own.kept hg (fun k hk => (hr k hk).2.2.2), h.f1, h.f2, h.f3, h.f4⟩
theorem own_old {e s n : Nat} {v : Value} {xs : List Value} (h : w.ownsRow w0.heap.size e s v n xs) (hb : blk < w0.heap.size) : v.ownBlock ≠ some blk := fun e => by
  have := (h.lt blk e).1
  omega
/-- The cursor has gone on. -/
theorem DS.draw (h : DS base w0 blk pb R a len cap w p l) (hc : Cur base w' blk a len cap) (hg : w.grownBy w' (some blk)) : DS base w0 blk pb R a len cap w' p l :=
  h.frame hc hg (fun k hk => by
    cases hk
    exact ⟨.inl rfl, fun e => by have := h.npb; have := h.old; omega, fun e => by have := h.nR; have := h.old; omega, own_old h.own.o1 h.old, own_old h.own.o2 h.old, own_old h.own.o3 h.old, own_old h.own.o4 h.old⟩)
/-- Memory has been made, nothing else. -/
theorem DS.more (h : DS base w0 blk pb R a len cap w p l) (hg : w.grownBy w' none) : DS base w0 blk pb R a len cap w' p l :=
  h.frame (h.cur.kept hg (fun k hk => by cases hk)) hg (fun k hk => by cases hk)
theorem DS.alloc (h : DS base w0 blk pb R a len cap w p l) (o : Obj) : DS base w0 blk pb R a len cap (w.alloc o) p l := h.more (World.grownBy_alloc w o none)
theorem DS.drew (h : DS base w0 blk pb R a len cap w p l) : DS base w0 blk pb R a len cap w.drew p l := h.more (grownBy_of_below (Below.refl w.heap.size w).drew none)
/-- A block that was there and is none of ours stays. -/
theorem set_grown (w : World) (p : Addr) (v : Value) : w.grownBy (w.setCell p v) (some p.block) :=
  ⟨rfl, rfl, rfl, by simp, fun k _ hk => heap_setCell_other w p k v (fun e => hk (by simp [e]))⟩
end
end Go.Proofs.Ytgaejcljabhijaa
