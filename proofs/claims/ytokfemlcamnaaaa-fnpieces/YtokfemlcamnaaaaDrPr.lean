/- What the drawing functions of chapter 8 draw: a right piece, some piece, and values for it. -/
import Derived.Test.YtokfemlcamnaaaaDrAny
import Derived.Test.YtokfemlcamnaaaaDrVals
namespace Go.Proofs.Ytokfemlcamnaaaa
open Go.RowKit

/-- A piece that was drawn; what will be told lies in block R. -/
structure RX (w0 : World) (R : Nat) (w : World) (p : Pc) (l : Pl) : Prop where
  bel : Below w0.heap.size w0 w
  res : w.heap[R]? = some (.cells noCells 29 (0, 0))
  new : w0.heap.size ≤ R
  own : Own4 w0.heap.size w p l

section
variable {w0 : World} {R : Nat} {w w' : World} {p : Pc} {l : Pl}
theorem RX.cells (h : RX w0 R w p l) : w.cell? ⟨R, 0, none⟩ = some (.int .i64 0) ∧ w.cell? ⟨R, 1, none⟩ = some (.slice none 0 0) ∧ w.cell? ⟨R, 2, none⟩ = some (.slice none 0 0) ∧ w.cell? ⟨R, 3, none⟩ = some (.slice none 0 0) ∧ w.cell? ⟨R, 4, none⟩ = some (.slice none 0 0) :=
  ⟨cell_of_row w _ 0 _ _ _ h.res, cell_of_row w _ 1 _ _ _ h.res, cell_of_row w _ 2 _ _ _ h.res, cell_of_row w _ 3 _ _ _ h.res, cell_of_row w _ 4 _ _ _ h.res⟩
theorem RX.frozen (h : RX w0 R w p l) : ∀ j, w.frozen? ⟨R, j, none⟩ = false := fun j => frozen_of_row w R j _ _ h.res
theorem RX.lt (h : RX w0 R w p l) : R < w.heap.size := (Array.getElem?_eq_some_iff.1 h.res).1
theorem RX.alloc (h : RX w0 R w p l) (o : Obj) : RX w0 R (w.alloc o) p l :=
  ⟨h.bel.alloc h.bel.size _, (Below.heap_alloc w o R h.lt).trans h.res, h.new, h.own.kept (World.grownBy_alloc w o none) (fun k e => by cases e)⟩
theorem five (Q : World → Prop) (R : Nat) (hs : ∀ u j v, Q u → Q (u.setCell ⟨R, j, none⟩ v)) (h : Q w) (v0 v1 v2 v3 v4 : Value) : Q (((((w.setCell ⟨R, 0, none⟩ v0).setCell ⟨R, 1, none⟩ v1).setCell ⟨R, 2, none⟩ v2).setCell ⟨R, 3, none⟩ v3).setCell ⟨R, 4, none⟩ v4) :=
  hs _ _ _ (hs _ _ _ (hs _ _ _ (hs _ _ _ (hs _ _ _ h))))
theorem bel_set {B : Nat} (h : Below B w0 w) (q : Addr) (v : Value) (hq : B ≤ q.block) (hB : B ≤ w.heap.size) : Below B w0 (w.setCell q v) := h.grown (set_grown w q v) hB (fun k e => by cases e; exact hq)
/-- What is told is written. -/
theorem RX.fin (h : RX w0 R w p l) (v0 v1 v2 v3 v4 : Value) : Own4 w0.heap.size (((((w.setCell ⟨R, 0, none⟩ v0).setCell ⟨R, 1, none⟩ v1).setCell ⟨R, 2, none⟩ v2).setCell ⟨R, 3, none⟩ v3).setCell ⟨R, 4, none⟩ v4) p l ∧ Below w0.heap.size w0 (((((w.setCell ⟨R, 0, none⟩ v0).setCell ⟨R, 1, none⟩ v1).setCell ⟨R, 2, none⟩ v2).setCell ⟨R, 3, none⟩ v3).setCell ⟨R, 4, none⟩ v4) := by
  refine five (fun u => Own4 w0.heap.size u p l ∧ Below w0.heap.size w0 u) R (fun u j v hu => ?_) ⟨h.own, h.bel⟩ v0 v1 v2 v3 v4
  exact ⟨hu.1.kept (set_grown u ⟨R, j, none⟩ v) (fun k e => by cases e; exact ⟨far_box h.own.o1 h.res (by decide), far_box h.own.o2 h.res (by decide), far_box h.own.o3 h.res (by decide), far_box h.own.o4 h.res (by decide)⟩), bel_set hu.2 _ _ h.new hu.2.size⟩
/-- The values beside it stay. -/
theorem RX.finVals (h : RX w0 R w p l) {b e n : Nat} {u : Value} {xs : List Value} (hv : w.ownsRow b e 1 u n xs) (he : e ≠ 29) (v0 v1 v2 v3 v4 : Value) : (((((w.setCell ⟨R, 0, none⟩ v0).setCell ⟨R, 1, none⟩ v1).setCell ⟨R, 2, none⟩ v2).setCell ⟨R, 3, none⟩ v3).setCell ⟨R, 4, none⟩ v4).ownsRow b e 1 u n xs :=
  five (fun y => y.ownsRow b e 1 u n xs) R (fun y j v hy => kept_ob hy (set_grown y ⟨R, j, none⟩ v) (fun k e' => by cases e'; exact far_box hv h.res he)) hv v0 v1 v2 v3 v4
theorem res_new {w1 : World} (hb : Below (w.alloc (.cells noCells 29)).heap.size (w.alloc (.cells noCells 29)) w1) : w1.heap[w.heap.size]? = some (.cells noCells 29 (0, 0)) ∧ Below w.heap.size w w1 ∧ w.heap.size + 1 ≤ w1.heap.size := by
  have hs := hb.size
  rw [size_alloc1] at hs
  exact ⟨(hb.block _ (by simp)).trans (heap_alloc_new w _), ((Below.refl _ w).alloc (Nat.le_refl _) _).trans (hb.mono (by simp)), hs⟩
/-- Behind a new cursor and a draw by it. -/
theorem rx_of {w1 w2 : World} {blk : Nat} (hb : Below (w.alloc (.cells noCells 29)).heap.size (w.alloc (.cells noCells 29)) w1) (hk : (w.alloc (.cells noCells 29)).heap.size ≤ blk) (hg : w1.grownBy w2 (some blk)) (ho : Own4 w1.heap.size w2 p l) : RX w w.heap.size w2 p l := by
  obtain ⟨h1, h2, h3⟩ := res_new hb
  rw [size_alloc1] at hk
  exact ⟨h2.grown hg (by omega) (fun k e => by cases e; omega), (hg.block _ (by omega) (fun e => by have := Option.some.inj e; omega)).trans h1, Nat.le_refl _, ho.base (by omega)⟩
end

theorem code_alloc {base : Nat} {w : World} {a : Option Addr} {len : Nat} (hc : CodeAt base w a len) (hb : base ≤ w.heap.size) (o : Obj) : CodeAt base (w.alloc o) a len := hc.below (((Below.refl _ w).alloc (Nat.le_refl _) o).mono hb)

def DpAns (Q : Pc → Prop) (w : World) (e : Ending) (w' : World) : Prop := ∃ (p : Pc) (l : Pl), e = .returned (pcV p l) ∧ Q p ∧ Own4 w.heap.size w' p l ∧ Below w.heap.size w w'
theorem dp_mk {Q : Pc → Prop} {w w' : World} {p : Pc} {l : Pl} (hq : Q p) (h : Own4 w.heap.size w' p l ∧ Below w.heap.size w w') : DpAns Q w (.returned (pcV p l)) w' := ⟨p, l, rfl, hq, h⟩

set_option maxHeartbeats 1600000 in
set_option maxRecDepth 20000 in
theorem drawPiece_any (base : Nat) (w : World) (a : Option Addr) (len cap : Nat) (hc : CodeAt base w a len) (hb : base ≤ w.heap.size) :
    Calls Try.prog 12 #[.slice a len cap] w fun e w' => DpAns Drawn w e w' := by
  have HC := hidOf hc
  clear hc
  go_enter Try.func12, Try.ntmps12
  go_wp2_with fail
  refine (new_any base _ a len cap (code_alloc HC.out hb _) (by simp; omega)).mono ?_
  rintro e w1 ⟨blk, rfl, hbk, hc1, hb1⟩
  have H1 := hidOf (And.intro hc1 (And.intro hb1 hbk))
  clear hc1 hb1 hbk
  go_wp2_with fail
  refine (piece_any base w1 blk a len cap H1.out.1).mono ?_
  rintro e w2 ⟨p, l, rfl, hD, ho, -, hg2⟩
  have X := rx_of H1.out.2.1 H1.out.2.2 hg2 ho
  have HD := hidOf hD
  clear hD ho hg2 H1
  obtain ⟨r0, r1, r2, r3, r4⟩ := X.cells
  have rf0 := X.frozen 0
  have rf1 := X.frozen 1
  have rf2 := X.frozen 2
  have rf3 := X.frozen 3
  have rf4 := X.frozen 4
  go_wp2
  refine bodyPost_ret (v := pcV p l) (by simp [results, Try.results12, go_sem, r0, r1, r2, r3, r4]) rfl (dp_mk HD.out (X.fin _ _ _ _ _))

/-- A piece and values for it. -/
def PvAns (w : World) (e : Ending) (w' : World) : Prop :=
  ∃ (p : Pc) (l : Pl) (vs : List Int) (av : Option Addr) (cv : Nat), e = .returned (.tuple #[pcV p l, .slice av vs.length cv]) ∧ Fit p ∧ vs.length ≤ 10 ∧ Own4 w.heap.size w' p l ∧ w'.ownsRow w.heap.size 3 1 (.slice av vs.length cv) vs.length (intVals vs) ∧ Below w.heap.size w w'
theorem pv_mk {w w' : World} {p : Pc} {l : Pl} {vs : List Int} {av : Option Addr} {cv : Nat} (h1 : Fit p) (h2 : vs.length ≤ 10) (h3 : Own4 w.heap.size w' p l ∧ Below w.heap.size w w') (h4 : w'.ownsRow w.heap.size 3 1 (.slice av vs.length cv) vs.length (intVals vs)) : PvAns w (.returned (.tuple #[pcV p l, .slice av vs.length cv])) w' := ⟨p, l, vs, av, cv, rfl, h1, h2, h3.1, h4, h3.2⟩
theorem RX.drew {w0 : World} {R : Nat} {w : World} {p : Pc} {l : Pl} (h : RX w0 R w p l) : RX w0 R w.drew p l :=
  ⟨h.bel.trans (Below.refl _ w).drew, h.res, h.new, h.own.kept (grownBy_of_below (Below.refl w.heap.size w).drew none) (fun k e => by cases e)⟩
/-- The piece in a box, and what will be told; a draw by the cursor leaves both. -/
structure BX (base : Nat) (w0 : World) (R pb blk : Nat) (a : Option Addr) (len cap : Nat) (w : World) (p : Pc) (l : Pl) : Prop where
  rx : RX w0 R w p l
  cur : Cur base w blk a len cap
  box : w.heap[pb]? = some (.cells (pcCells p l) 29 (0, 0))
  old : blk < pb
  ne : R ≠ blk
  low : w0.heap.size ≤ blk
  apart : R ≠ pb
  own : ∃ B, blk < B ∧ w0.heap.size ≤ B ∧ Own4 B w p l
section
variable {base : Nat} {w0 : World} {R pb blk : Nat} {a : Option Addr} {len cap : Nat} {w w' : World} {p : Pc} {l : Pl}
theorem BX.drew (h : BX base w0 R pb blk a len cap w p l) : BX base w0 R pb blk a len cap w.drew p l := by
  obtain ⟨B, h1, h2, h3⟩ := h.own
  have g : w.grownBy w.drew none := grownBy_of_below (Below.refl w.heap.size w).drew none
  exact ⟨h.rx.drew, h.cur.kept g (fun k e => by cases e), h.box, h.old, h.ne, h.low, h.apart, B, h1, h2, h3.kept g (fun k e => by cases e)⟩
theorem BX.draw (h : BX base w0 R pb blk a len cap w p l) (hc : Cur base w' blk a len cap) (hg : w.grownBy w' (some blk)) : BX base w0 R pb blk a len cap w' p l := by
  obtain ⟨B, h1, h2, h3⟩ := h.own
  have ho : Own4 B w' p l := h3.keptBy hg (fun k e => by cases e; exact h1)
  have hl := (Array.getElem?_eq_some_iff.1 h.box).1
  exact ⟨⟨h.rx.bel.grown hg h.rx.bel.size (fun k e => by cases e; exact h.low), (hg.block R h.rx.lt (fun e => h.ne (Option.some.inj e))).trans h.rx.res, h.rx.new, ho.base h2⟩, hc, (hg.block pb hl (fun e => by have := h.old; have := Option.some.inj e; omega)).trans h.box, h.old, h.ne, h.low, h.apart, B, h1, h2, ho⟩
theorem BX.cells (h : BX base w0 R pb blk a len cap w p l) : w.cell? ⟨pb, 0, none⟩ = some (.int .i64 p.indent) ∧ w.cell? ⟨pb, 1, none⟩ = some (.slice l.a1 p.rules.length l.c1) ∧ w.cell? ⟨pb, 2, none⟩ = some (.slice l.a2 p.chunks.length l.c2) ∧ w.cell? ⟨pb, 3, none⟩ = some (.slice l.a3 p.spans.length l.c3) ∧ w.cell? ⟨pb, 4, none⟩ = some (.slice l.a4 p.ties.length l.c4) :=
  ⟨cell_of_row w _ 0 _ _ _ h.box, cell_of_row w _ 1 _ _ _ h.box, cell_of_row w _ 2 _ _ _ h.box, cell_of_row w _ 3 _ _ _ h.box, cell_of_row w _ 4 _ _ _ h.box⟩
end
theorem bx_of {base : Nat} {w w1 w2 : World} {blk : Nat} {a : Option Addr} {len cap : Nat} {p : Pc} {l : Pl} (hk : (w.alloc (.cells noCells 29)).heap.size ≤ blk) (hc1 : Cur base w1 blk a len cap) (hc : Cur base w2 blk a len cap) (hs : w1.heap.size ≤ w2.heap.size) (ho : Own4 w1.heap.size w2 p l) (X : RX w w.heap.size w2 p l) (hw : w.heap.size ≤ w1.heap.size) : BX base w w.heap.size w2.heap.size blk a len cap (w2.alloc (.cells (pcCells p l) 29)) p l := by
  rw [size_alloc1] at hk
  have h1 := hc1.lt
  exact ⟨X.alloc _, hc.kept (World.grownBy_alloc w2 _ none) (fun k e => by cases e), heap_alloc_new w2 _, by omega, by omega, by omega, by have := X.lt; omega, w1.heap.size, h1, hw, ho.kept (World.grownBy_alloc w2 _ none) (fun k e => by cases e)⟩

set_option maxHeartbeats 4000000 in
set_option maxRecDepth 20000 in
theorem pair_any (base : Nat) (w : World) (a : Option Addr) (len cap : Nat) (hc : CodeAt base w a len) (hb : base ≤ w.heap.size) :
    Calls Try.prog 79 #[.slice a len cap] w fun e w' => PvAns w e w' := by
  have HC := hidOf hc
  clear hc
  go_enter Try.func79, Try.ntmps79
  go_wp2_with fail
  refine (new_any base _ a len cap (code_alloc HC.out hb _) (by simp; omega)).mono ?_
  rintro e w1 ⟨blk, rfl, hbk, hc1, hb1⟩
  have H1 := hidOf (And.intro hc1 (And.intro hb1 hbk))
  clear hc1 hb1 hbk
  go_wp2_with fail
  refine (anyp_any base w1 blk a len cap H1.out.1).mono ?_
  rintro e w2 ⟨p, l, rfl, hD, ho, hc2, hg2⟩
  have Y := bx_of H1.out.2.2 H1.out.1 hc2 hg2.size ho (rx_of H1.out.2.1 H1.out.2.2 hg2 ho) (by have := (res_new H1.out.2.1).2.2; omega)
  have HD := hidOf hD
  clear hD ho hg2 hc2 H1
  go_upto_region 3 with fail
  obtain ⟨pb, hpb⟩ : ∃ pb, pb = w2.heap.size := ⟨_, rfl⟩
  obtain ⟨R, hRr⟩ : ∃ R, R = w.heap.size := ⟨_, rfl⟩
  obtain ⟨W, hW⟩ : ∃ W, W = w2.alloc (.cells (pcCells p l) 29) := ⟨_, rfl⟩
  rw [← hW, ← hpb, ← hRr] at Y
  rw [← hW, ← hpb, ← hRr]
  clear hW hpb hRr
  obtain ⟨b0, b1, b2, b3, b4⟩ := Y.cells
  have Yd := Y.drew
  have hap := Y.apart
  have hap2 := hap.symm
  go_region_law (first
    | (refine step_call (by rfl) 140 _ (by go_simp; try rfl) ((values_any base _ _ blk a len cap p l Yd.cur HD.out Yd.own.choose_spec.2.2 Yd.own.choose_spec.1).mono ?_); rintro e wn ⟨vs, av, cv, rfl, hvl, hvo, -, hcn, hgn⟩; have Yn := Yd.draw hcn hgn; obtain ⟨n0, n1, n2, n3, n4⟩ := Yn.cells; obtain ⟨r0, r1, r2, r3, r4⟩ := Yn.rx.cells; have rf0 := Yn.rx.frozen 0; have rf1 := Yn.rx.frozen 1; have rf2 := Yn.rx.frozen 2; have rf3 := Yn.rx.frozen 3; have rf4 := Yn.rx.frozen 4; refine ⟨_, rfl, ?_⟩))
  all_goals go_wp2
  all_goals refine bodyPost_ret (v := .tuple #[pcV p l, .slice av vs.length cv]) (by simp [results, Try.results79, go_sem, r0, r1, r2, r3, r4]) rfl (pv_mk HD.out hvl (Yn.rx.fin _ _ _ _ _) (Yn.rx.finVals (ownsRow_base hvo (by have := Y.rx.bel.size; exact this)) (by decide) _ _ _ _ _))
end Go.Proofs.Ytokfemlcamnaaaa
