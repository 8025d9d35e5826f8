/- A piece that is being drawn gets one more rule, chunk, span or tie. -/
import Derived.Test.YtgaejcljabhijaaDrPc
namespace Go.Proofs.Ytgaejcljabhijaa
open Go.RowKit

section
variable {base : Nat} {w0 : World} {blk pb R : Nat} {a : Option Addr} {len cap : Nat} {w w' : World} {p : Pc} {l : Pl}

/-- One more of the rules. -/
theorem DS.app1 {g cc : Nat} {x : Ru} (h : DS base w0 blk pb R a len cap w p l)
    (hown : w'.ownsRow w0.heap.size 69 2 (.slice (some ⟨g, 0, none⟩) (p.rules.length + 1) cc) (p.rules.length + 1) (rowVals ruCells p.rules ++ ruCells x))
    (hg : w.grownBy w' (ob1 p l)) (hat : ob1 p l = some g ∨ g = w.heap.size) :
    DS base w0 blk pb R a len cap (w'.setCell ⟨pb, 1, none⟩ (.slice (some ⟨g, 0, none⟩) (p.rules.length + 1) cc)) { p with rules := p.rules ++ [x] } { l with a1 := some ⟨g, 0, none⟩, c1 := cc } := by
  have hln : (p.rules ++ [x]).length = p.rules.length + 1 := by simp
  have hk : ∀ k, ob1 p l = some k → w0.heap.size ≤ k := fun k hk => (h.own.o1.lt k hk).1
  have hco := h.cur.own
  have hol := h.old
  have hnp := h.npb
  have hnR := h.nR
  have hpl := h.pbl
  have hRl := h.Rl
  have hs := set_grown w' ⟨pb, 1, none⟩ (.slice (some ⟨g, 0, none⟩) (p.rules.length + 1) cc)
  have cur1 : Cur base w' blk a len cap := h.cur.kept hg (fun k e => by have := hk k e; exact ⟨by omega, by omega⟩)
  have box1 := (hg.block pb hpl (fun e => (h.f1 pb e.symm).1 rfl)).trans h.box
  have res1 := (hg.block R hRl (fun e => (h.f1 R e.symm).2 rfl)).trans h.res
  have ng : g ≠ pb ∧ g ≠ R := by
    rcases hat with e | e
    · exact h.f1 g e
    · exact ⟨by omega, by omega⟩
  have hnew2 : ob2 p l ≠ some g := by
    rcases hat with e | e
    · exact h.own.d12 g e
    · exact fun e2 => by have := (h.own.o2.lt g e2).2; omega
  have hnew3 : ob3 p l ≠ some g := by
    rcases hat with e | e
    · exact h.own.d13 g e
    · exact fun e2 => by have := (h.own.o3.lt g e2).2; omega
  have hnew4 : ob4 p l ≠ some g := by
    rcases hat with e | e
    · exact h.own.d14 g e
    · exact fun e2 => by have := (h.own.o4.lt g e2).2; omega
  have box2 := heap_setCell_same w' pb 1 _ 29 (.slice (some ⟨g, 0, none⟩) (p.rules.length + 1) cc) box1
  refine ⟨cur1.kept hs (fun k e => by cases e; exact ⟨by show base ≤ pb; omega, by show pb ≠ blk; omega⟩), grown_row (grown_row h.grow hg (fun k e => .inl (hk k e))) hs (fun k e => by cases e; exact .inl hnp), ?_, ?_, hol, hnp, hnR, h.ne, ⟨by show World.ownsRow _ _ _ _ _ (p.rules ++ [x]).length _; rw [hln, rowVals_app, rowVals_one]; exact kept_ob hown hs (fun k hk e => by cases hk; exact ng.1 (Option.some.inj e)), kept_ob (kept_ob h.own.o2 hg (fun k hk => h.own.d12 k hk)) hs (fun k hk e => by cases hk; exact (h.f2 _ e).1 rfl), kept_ob (kept_ob h.own.o3 hg (fun k hk => h.own.d13 k hk)) hs (fun k hk e => by cases hk; exact (h.f3 _ e).1 rfl), kept_ob (kept_ob h.own.o4 hg (fun k hk => h.own.d14 k hk)) hs (fun k hk e => by cases hk; exact (h.f4 _ e).1 rfl), (fun k hk e => hnew2 (by cases hk; exact e)), (fun k hk e => hnew3 (by cases hk; exact e)), (fun k hk e => hnew4 (by cases hk; exact e)), h.own.d23, h.own.d24, h.own.d34⟩, (fun k hk => by cases hk; exact ng), h.f2, h.f3, h.f4⟩
  · show _ = some (Obj.cells (pcCells { p with rules := p.rules ++ [x] } { l with a1 := some ⟨g, 0, none⟩, c1 := cc }) _ _)
    unfold pcCells
    dsimp only
    rw [hln]
    exact box2
  · rw [heap_setCell_other w' ⟨pb, 1, none⟩ R _ (Ne.symm h.ne)]
    exact res1

/-- One more of the chunks. -/
theorem DS.app2 {g cc : Nat} {x : Ch} (h : DS base w0 blk pb R a len cap w p l)
    (hown : w'.ownsRow w0.heap.size 110 5 (.slice (some ⟨g, 0, none⟩) (p.chunks.length + 1) cc) (p.chunks.length + 1) (rowVals chCells p.chunks ++ chCells x))
    (hg : w.grownBy w' (ob2 p l)) (hat : ob2 p l = some g ∨ g = w.heap.size) :
    DS base w0 blk pb R a len cap (w'.setCell ⟨pb, 2, none⟩ (.slice (some ⟨g, 0, none⟩) (p.chunks.length + 1) cc)) { p with chunks := p.chunks ++ [x] } { l with a2 := some ⟨g, 0, none⟩, c2 := cc } := by
  have hln : (p.chunks ++ [x]).length = p.chunks.length + 1 := by simp
  have hk : ∀ k, ob2 p l = some k → w0.heap.size ≤ k := fun k hk => (h.own.o2.lt k hk).1
  have hco := h.cur.own
  have hol := h.old
  have hnp := h.npb
  have hnR := h.nR
  have hpl := h.pbl
  have hRl := h.Rl
  have hs := set_grown w' ⟨pb, 2, none⟩ (.slice (some ⟨g, 0, none⟩) (p.chunks.length + 1) cc)
  have cur1 : Cur base w' blk a len cap := h.cur.kept hg (fun k e => by have := hk k e; exact ⟨by omega, by omega⟩)
  have box1 := (hg.block pb hpl (fun e => (h.f2 pb e.symm).1 rfl)).trans h.box
  have res1 := (hg.block R hRl (fun e => (h.f2 R e.symm).2 rfl)).trans h.res
  have ng : g ≠ pb ∧ g ≠ R := by
    rcases hat with e | e
    · exact h.f2 g e
    · exact ⟨by omega, by omega⟩
  have hnew1 : ob1 p l ≠ some g := by
    rcases hat with e | e
    · exact fun e2 => h.own.d12 g e2 e
    · exact fun e2 => by have := (h.own.o1.lt g e2).2; omega
  have hnew3 : ob3 p l ≠ some g := by
    rcases hat with e | e
    · exact h.own.d23 g e
    · exact fun e2 => by have := (h.own.o3.lt g e2).2; omega
  have hnew4 : ob4 p l ≠ some g := by
    rcases hat with e | e
    · exact h.own.d24 g e
    · exact fun e2 => by have := (h.own.o4.lt g e2).2; omega
  have box2 := heap_setCell_same w' pb 2 _ 29 (.slice (some ⟨g, 0, none⟩) (p.chunks.length + 1) cc) box1
  refine ⟨cur1.kept hs (fun k e => by cases e; exact ⟨by show base ≤ pb; omega, by show pb ≠ blk; omega⟩), grown_row (grown_row h.grow hg (fun k e => .inl (hk k e))) hs (fun k e => by cases e; exact .inl hnp), ?_, ?_, hol, hnp, hnR, h.ne, ⟨kept_ob (kept_ob h.own.o1 hg (fun k hk e => h.own.d12 k e hk)) hs (fun k hk e => by cases hk; exact (h.f1 _ e).1 rfl), by show World.ownsRow _ _ _ _ _ (p.chunks ++ [x]).length _; rw [hln, rowVals_app, rowVals_one]; exact kept_ob hown hs (fun k hk e => by cases hk; exact ng.1 (Option.some.inj e)), kept_ob (kept_ob h.own.o3 hg (fun k hk => h.own.d23 k hk)) hs (fun k hk e => by cases hk; exact (h.f3 _ e).1 rfl), kept_ob (kept_ob h.own.o4 hg (fun k hk => h.own.d24 k hk)) hs (fun k hk e => by cases hk; exact (h.f4 _ e).1 rfl), (fun k hk e => hnew1 (by cases e; exact hk)), h.own.d13, h.own.d14, (fun k hk e => hnew3 (by cases hk; exact e)), (fun k hk e => hnew4 (by cases hk; exact e)), h.own.d34⟩, h.f1, (fun k hk => by cases hk; exact ng), h.f3, h.f4⟩
  · show _ = some (Obj.cells (pcCells { p with chunks := p.chunks ++ [x] } { l with a2 := some ⟨g, 0, none⟩, c2 := cc }) _ _)
    unfold pcCells
    dsimp only
    rw [hln]
    exact box2
  · rw [heap_setCell_other w' ⟨pb, 2, none⟩ R _ (Ne.symm h.ne)]
    exact res1

/-- One more of the spans. -/
theorem DS.app3 {g cc : Nat} {x : Sn} (h : DS base w0 blk pb R a len cap w p l)
    (hown : w'.ownsRow w0.heap.size 112 3 (.slice (some ⟨g, 0, none⟩) (p.spans.length + 1) cc) (p.spans.length + 1) (rowVals snCells p.spans ++ snCells x))
    (hg : w.grownBy w' (ob3 p l)) (hat : ob3 p l = some g ∨ g = w.heap.size) :
    DS base w0 blk pb R a len cap (w'.setCell ⟨pb, 3, none⟩ (.slice (some ⟨g, 0, none⟩) (p.spans.length + 1) cc)) { p with spans := p.spans ++ [x] } { l with a3 := some ⟨g, 0, none⟩, c3 := cc } := by
  have hln : (p.spans ++ [x]).length = p.spans.length + 1 := by simp
  have hk : ∀ k, ob3 p l = some k → w0.heap.size ≤ k := fun k hk => (h.own.o3.lt k hk).1
  have hco := h.cur.own
  have hol := h.old
  have hnp := h.npb
  have hnR := h.nR
  have hpl := h.pbl
  have hRl := h.Rl
  have hs := set_grown w' ⟨pb, 3, none⟩ (.slice (some ⟨g, 0, none⟩) (p.spans.length + 1) cc)
  have cur1 : Cur base w' blk a len cap := h.cur.kept hg (fun k e => by have := hk k e; exact ⟨by omega, by omega⟩)
  have box1 := (hg.block pb hpl (fun e => (h.f3 pb e.symm).1 rfl)).trans h.box
  have res1 := (hg.block R hRl (fun e => (h.f3 R e.symm).2 rfl)).trans h.res
  have ng : g ≠ pb ∧ g ≠ R := by
    rcases hat with e | e
    · exact h.f3 g e
    · exact ⟨by omega, by omega⟩
  have hnew1 : ob1 p l ≠ some g := by
    rcases hat with e | e
    · exact fun e2 => h.own.d13 g e2 e
    · exact fun e2 => by have := (h.own.o1.lt g e2).2; omega
  have hnew2 : ob2 p l ≠ some g := by
    rcases hat with e | e
    · exact fun e2 => h.own.d23 g e2 e
    · exact fun e2 => by have := (h.own.o2.lt g e2).2; omega
  have hnew4 : ob4 p l ≠ some g := by
    rcases hat with e | e
    · exact h.own.d34 g e
    · exact fun e2 => by have := (h.own.o4.lt g e2).2; omega
  have box2 := heap_setCell_same w' pb 3 _ 29 (.slice (some ⟨g, 0, none⟩) (p.spans.length + 1) cc) box1
  refine ⟨cur1.kept hs (fun k e => by cases e; exact ⟨by show base ≤ pb; omega, by show pb ≠ blk; omega⟩), grown_row (grown_row h.grow hg (fun k e => .inl (hk k e))) hs (fun k e => by cases e; exact .inl hnp), ?_, ?_, hol, hnp, hnR, h.ne, ⟨kept_ob (kept_ob h.own.o1 hg (fun k hk e => h.own.d13 k e hk)) hs (fun k hk e => by cases hk; exact (h.f1 _ e).1 rfl), kept_ob (kept_ob h.own.o2 hg (fun k hk e => h.own.d23 k e hk)) hs (fun k hk e => by cases hk; exact (h.f2 _ e).1 rfl), by show World.ownsRow _ _ _ _ _ (p.spans ++ [x]).length _; rw [hln, rowVals_app, rowVals_one]; exact kept_ob hown hs (fun k hk e => by cases hk; exact ng.1 (Option.some.inj e)), kept_ob (kept_ob h.own.o4 hg (fun k hk => h.own.d34 k hk)) hs (fun k hk e => by cases hk; exact (h.f4 _ e).1 rfl), h.own.d12, (fun k hk e => hnew1 (by cases e; exact hk)), h.own.d14, (fun k hk e => hnew2 (by cases e; exact hk)), h.own.d24, (fun k hk e => hnew4 (by cases hk; exact e))⟩, h.f1, h.f2, (fun k hk => by cases hk; exact ng), h.f4⟩
  · show _ = some (Obj.cells (pcCells { p with spans := p.spans ++ [x] } { l with a3 := some ⟨g, 0, none⟩, c3 := cc }) _ _)
    unfold pcCells
    dsimp only
    rw [hln]
    exact box2
  · rw [heap_setCell_other w' ⟨pb, 3, none⟩ R _ (Ne.symm h.ne)]
    exact res1

/-- One more of the ties. -/
theorem DS.app4 {g cc : Nat} {x : Ti} (h : DS base w0 blk pb R a len cap w p l)
    (hown : w'.ownsRow w0.heap.size 82 2 (.slice (some ⟨g, 0, none⟩) (p.ties.length + 1) cc) (p.ties.length + 1) (rowVals tiCells p.ties ++ tiCells x))
    (hg : w.grownBy w' (ob4 p l)) (hat : ob4 p l = some g ∨ g = w.heap.size) :
    DS base w0 blk pb R a len cap (w'.setCell ⟨pb, 4, none⟩ (.slice (some ⟨g, 0, none⟩) (p.ties.length + 1) cc)) { p with ties := p.ties ++ [x] } { l with a4 := some ⟨g, 0, none⟩, c4 := cc } := by
  have hln : (p.ties ++ [x]).length = p.ties.length + 1 := by simp
  have hk : ∀ k, ob4 p l = some k → w0.heap.size ≤ k := fun k hk => (h.own.o4.lt k hk).1
  have hco := h.cur.own
  have hol := h.old
  have hnp := h.npb
  have hnR := h.nR
  have hpl := h.pbl
  have hRl := h.Rl
  have hs := set_grown w' ⟨pb, 4, none⟩ (.slice (some ⟨g, 0, none⟩) (p.ties.length + 1) cc)
  have cur1 : Cur base w' blk a len cap := h.cur.kept hg (fun k e => by have := hk k e; exact ⟨by omega, by omega⟩)
  have box1 := (hg.block pb hpl (fun e => (h.f4 pb e.symm).1 rfl)).trans h.box
  have res1 := (hg.block R hRl (fun e => (h.f4 R e.symm).2 rfl)).trans h.res
  have ng : g ≠ pb ∧ g ≠ R := by
    rcases hat with e | e
    · exact h.f4 g e
    · exact ⟨by omega, by omega⟩
  have hnew1 : ob1 p l ≠ some g := by
    rcases hat with e | e
    · exact fun e2 => h.own.d14 g e2 e
    · exact fun e2 => by have := (h.own.o1.lt g e2).2; omega
  have hnew2 : ob2 p l ≠ some g := by
    rcases hat with e | e
    · exact fun e2 => h.own.d24 g e2 e
    · exact fun e2 => by have := (h.own.o2.lt g e2).2; omega
  have hnew3 : ob3 p l ≠ some g := by
    rcases hat with e | e
    · exact fun e2 => h.own.d34 g e2 e
    · exact fun e2 => by have := (h.own.o3.lt g e2).2; omega
  have box2 := heap_setCell_same w' pb 4 _ 29 (.slice (some ⟨g, 0, none⟩) (p.ties.length + 1) cc) box1
  refine ⟨cur1.kept hs (fun k e => by cases e; exact ⟨by show base ≤ pb; omega, by show pb ≠ blk; omega⟩), grown_row (grown_row h.grow hg (fun k e => .inl (hk k e))) hs (fun k e => by cases e; exact .inl hnp), ?_, ?_, hol, hnp, hnR, h.ne, ⟨kept_ob (kept_ob h.own.o1 hg (fun k hk e => h.own.d14 k e hk)) hs (fun k hk e => by cases hk; exact (h.f1 _ e).1 rfl), kept_ob (kept_ob h.own.o2 hg (fun k hk e => h.own.d24 k e hk)) hs (fun k hk e => by cases hk; exact (h.f2 _ e).1 rfl), kept_ob (kept_ob h.own.o3 hg (fun k hk e => h.own.d34 k e hk)) hs (fun k hk e => by cases hk; exact (h.f3 _ e).1 rfl), by show World.ownsRow _ _ _ _ _ (p.ties ++ [x]).length _; rw [hln, rowVals_app, rowVals_one]; exact kept_ob hown hs (fun k hk e => by cases hk; exact ng.1 (Option.some.inj e)), h.own.d12, h.own.d13, (fun k hk e => hnew1 (by cases e; exact hk)), h.own.d23, (fun k hk e => hnew2 (by cases e; exact hk)), (fun k hk e => hnew3 (by cases e; exact hk))⟩, h.f1, h.f2, h.f3, (fun k hk => by cases hk; exact ng)⟩
  · show _ = some (Obj.cells (pcCells { p with ties := p.ties ++ [x] } { l with a4 := some ⟨g, 0, none⟩, c4 := cc }) _ _)
    unfold pcCells
    dsimp only
    rw [hln]
    exact box2
  · rw [heap_setCell_other w' ⟨pb, 4, none⟩ R _ (Ne.symm h.ne)]
    exact res1

theorem DS.far1 (h : DS base w0 blk pb R a len cap w p l) (hg : w.grownBy w' (ob1 p l)) : w'.cell? ⟨pb, 1, none⟩ = some (.slice l.a1 p.rules.length l.c1) ∧ w'.frozen? ⟨pb, 1, none⟩ = false := by
  have hb := hg.block pb h.pbl (fun e => (h.f1 pb e.symm).1 rfl)
  have hbox := hb.trans h.box
  exact ⟨cell_of_row w' _ 1 _ _ _ hbox, frozen_of_row w' pb 1 _ _ hbox⟩

theorem DS.far2 (h : DS base w0 blk pb R a len cap w p l) (hg : w.grownBy w' (ob2 p l)) : w'.cell? ⟨pb, 2, none⟩ = some (.slice l.a2 p.chunks.length l.c2) ∧ w'.frozen? ⟨pb, 2, none⟩ = false := by
  have hb := hg.block pb h.pbl (fun e => (h.f2 pb e.symm).1 rfl)
  have hbox := hb.trans h.box
  exact ⟨cell_of_row w' _ 2 _ _ _ hbox, frozen_of_row w' pb 2 _ _ hbox⟩

theorem DS.far3 (h : DS base w0 blk pb R a len cap w p l) (hg : w.grownBy w' (ob3 p l)) : w'.cell? ⟨pb, 3, none⟩ = some (.slice l.a3 p.spans.length l.c3) ∧ w'.frozen? ⟨pb, 3, none⟩ = false := by
  have hb := hg.block pb h.pbl (fun e => (h.f3 pb e.symm).1 rfl)
  have hbox := hb.trans h.box
  exact ⟨cell_of_row w' _ 3 _ _ _ hbox, frozen_of_row w' pb 3 _ _ hbox⟩

theorem DS.far4 (h : DS base w0 blk pb R a len cap w p l) (hg : w.grownBy w' (ob4 p l)) : w'.cell? ⟨pb, 4, none⟩ = some (.slice l.a4 p.ties.length l.c4) ∧ w'.frozen? ⟨pb, 4, none⟩ = false := by
  have hb := hg.block pb h.pbl (fun e => (h.f4 pb e.symm).1 rfl)
  have hbox := hb.trans h.box
  exact ⟨cell_of_row w' _ 4 _ _ _ hbox, frozen_of_row w' pb 4 _ _ hbox⟩
end
end Go.Proofs.Ytgaejcljabhijaa
