/- Some piece, and values that are being drawn for it. -/
import Derived.Test.YtgaejcljabhijaaDrCopy
import Derived.Test.YtgaejcljabhijaaDrSet
import Derived.Test.YtgaejcljabhijaaValLib
namespace Go.Proofs.Ytgaejcljabhijaa
open Go.RowKit

/-- Some piece: small, with a rule, and each rule's Values is 0 .. 4. -/
structure Fit (p : Pc) : Prop where
  few : PcFew p
  val : ∀ (j : Nat) (x : Ru), p.rules[j]? = some x → 0 ≤ x.values ∧ x.values ≤ 4
  r1 : 1 ≤ p.rules.length
  r9 : p.rules.length ≤ 9
theorem Fit.nol {p : Pc} (h : Fit p) : NoLeast p.rules := fun j x hx => by have := h.val j x hx; omega

/-- Values that are being drawn: the piece lies in a box, they lie in memory of their own. -/
structure VS (base B : Nat) (w0 : World) (blk : Nat) (a : Option Addr) (len cap : Nat) (w : World) (p : Pc) (l : Pl) (v : Value) (vs : List Int) : Prop where
  cur : Cur base w blk a len cap
  grow : w0.grownBy w (some blk)
  box : w.heap[w0.heap.size]? = some (.cells (pcCells p l) 29 (0, 0))
  old : blk < w0.heap.size
  oldB : blk < B
  own : Own4 B w p l
  vals : w.ownsRow (w0.heap.size + 1) 3 1 v vs.length (intVals vs)

section
variable {base B : Nat} {w0 : World} {blk : Nat} {a : Option Addr} {len cap : Nat} {w w' : World} {p : Pc} {l : Pl} {v v' : Value} {vs : List Int}
theorem VS.lt (h : VS base B w0 blk a len cap w p l v vs) : w0.heap.size < w.heap.size := (Array.getElem?_eq_some_iff.1 h.box).1
theorem VS.cells (h : VS base B w0 blk a len cap w p l v vs) : w.cell? ⟨w0.heap.size, 1, none⟩ = some (.slice l.a1 p.rules.length l.c1) := cell_of_row w _ 1 _ _ _ h.box
theorem Own4.keptBy {row : Option Nat} (ho : Own4 B w p l) (hg : w.grownBy w' row) (hr : ∀ k, row = some k → k < B) : Own4 B w' p l :=
  ho.kept hg (fun k e => ⟨fun e' => by have := (ho.o1.lt k e').1; have := hr k e; omega, fun e' => by have := (ho.o2.lt k e').1; have := hr k e; omega, fun e' => by have := (ho.o3.lt k e').1; have := hr k e; omega, fun e' => by have := (ho.o4.lt k e').1; have := hr k e; omega⟩)
theorem VS.draw (h : VS base B w0 blk a len cap w p l v vs) (hc : Cur base w' blk a len cap) (hg : w.grownBy w' (some blk)) : VS base B w0 blk a len cap w' p l v vs :=
  ⟨hc, grown_row h.grow hg (fun k e => .inr e), (hg.block _ h.lt (fun e => by have := h.old; have := Option.some.inj e; omega)).trans h.box, h.old, h.oldB, h.own.keptBy hg (fun k e => by cases e; exact h.oldB), kept_ob h.vals hg (fun k e e' => by cases e; have := (h.vals.lt _ e').1; have := h.old; omega)⟩
theorem VS.more (h : VS base B w0 blk a len cap w p l v vs) (hg : w.grownBy w' none) : VS base B w0 blk a len cap w' p l v vs :=
  ⟨h.cur.kept hg (fun k e => by cases e), grown_row h.grow hg (fun k e => by cases e), (hg.block _ h.lt (fun e => by cases e)).trans h.box, h.old, h.oldB, h.own.keptBy hg (fun k e => by cases e), kept_ob h.vals hg (fun k e => by cases e)⟩
theorem VS.alloc (h : VS base B w0 blk a len cap w p l v vs) (o : Obj) : VS base B w0 blk a len cap (w.alloc o) p l v vs := h.more (World.grownBy_alloc w o none)
/-- The values are others. -/
theorem VS.turn (h : VS base B w0 blk a len cap w p l v vs) {us : List Int} (hown : w'.ownsRow (w0.heap.size + 1) 3 1 v' us.length (intVals us)) (hg : w.grownBy w' v.ownBlock) : VS base B w0 blk a len cap w' p l v' us := by
  have hk : ∀ k, v.ownBlock = some k → w0.heap.size + 1 ≤ k := fun k e => (h.vals.lt k e).1
  have hco := h.cur.own
  have hol := h.old
  exact ⟨h.cur.kept hg (fun k e => by have := hk k e; exact ⟨by omega, by omega⟩), grown_row h.grow hg (fun k e => .inl (by have := hk k e; omega)), (hg.block _ h.lt (fun e => by have := hk _ e.symm; omega)).trans h.box, h.old, h.oldB,
    h.own.kept hg (fun k e => ⟨apart_types h.vals h.own.o1 (by decide) k e, apart_types h.vals h.own.o2 (by decide) k e, apart_types h.vals h.own.o3 (by decide) k e, apart_types h.vals h.own.o4 (by decide) k e⟩), hown⟩
theorem VS.app (h : VS base B w0 blk a len cap w p l v vs) {x : Int} (hown : w'.ownsRow (w0.heap.size + 1) 3 1 v' (vs.length + 1) (intVals vs ++ [.int .i64 x])) (hg : w.grownBy w' v.ownBlock) : VS base B w0 blk a len cap w' p l v' (vs ++ [x]) :=
  h.turn (by simpa [intVals] using hown) hg
theorem VS.put {g n c : Nat} {x : Int} (h : VS base B w0 blk a len cap w p l (.slice (some ⟨g, 0, none⟩) n c) vs) (hn : n = vs.length) : VS base B w0 blk a len cap (w.setCell ⟨g, 0, none⟩ (.int .i64 x)) p l (.slice (some ⟨g, 0, none⟩) n c) (vs.set 0 x) := by
  subst hn
  have hst := h.vals.stored 0 (.int .i64 x)
  refine h.turn ?_ hst.2
  rw [List.length_set, show intVals (vs.set 0 x) = (intVals vs).set 0 (.int .i64 x) by unfold intVals; rw [List.map_set]]
  exact hst.1
end
end Go.Proofs.Ytgaejcljabhijaa
