/- The search of impl.BestOf so far: arrays of eight numbers, and what lies where. -/
import Derived.Test.YtbjfkfohkpdlfaaNextP
import Derived.Test.YtbjfkfohkpdlfaaCostR
import Derived.Test.YtbjfkfohkpdlfaaOkI3
import Derived.Test.YtbjfkfohkpdlfaaTieI
import Derived.Deep.CutBlock
import Derived.BigRegion
namespace Go.Proofs.Ytbjfkfohkpdlfaa
open Go.RowKit

/-- An array of eight numbers, all 0. -/
abbrev eight : Array Value := #[.int .i64 0, .int .i64 0, .int .i64 0, .int .i64 0, .int .i64 0, .int .i64 0, .int .i64 0, .int .i64 0]
/-- What lies in such an array behind the first n. -/
def restZ (n : Nat) : List Value := List.replicate (8 - n) (.int .i64 0)
theorem eight_is {n : Nat} (hn : n ≤ 8) : eight.toList = intVals (List.replicate n 0) ++ restZ n := by
  unfold intVals restZ
  rw [List.map_replicate, List.replicate_append_replicate, show n + (8 - n) = 8 by omega]
  rfl
theorem restZ_len {vs : List Int} {n : Nat} (hv : vs.length = n) (hn : n ≤ 8) : (intVals vs ++ restZ n).length = 8 := by
  unfold restZ
  rw [List.length_append, intVals_len, List.length_replicate]
  omega
theorem list8 {xs : List Value} (h : xs.length = 8) : ∃ x0 x1 x2 x3 x4 x5 x6 x7, xs = [x0, x1, x2, x3, x4, x5, x6, x7] := by
  match xs, h with
  | [x0, x1, x2, x3, x4, x5, x6, x7], _ => exact ⟨x0, x1, x2, x3, x4, x5, x6, x7, rfl⟩
theorem ints8 {vs : List Int} {n : Nat} (hv : vs.length = n) (hn : n ≤ 8) : ∃ z0 z1 z2 z3 z4 z5 z6 z7 : Int, intVals vs ++ restZ n = [.int .i64 z0, .int .i64 z1, .int .i64 z2, .int .i64 z3, .int .i64 z4, .int .i64 z5, .int .i64 z6, .int .i64 z7] := by
  have e : intVals vs ++ restZ n = intVals (vs ++ List.replicate (8 - n) 0) := by
    unfold intVals restZ
    rw [List.map_append, List.map_replicate]
  have h : (vs ++ List.replicate (8 - n) 0).length = 8 := by rw [List.length_append, List.length_replicate]; omega
  rw [e]
  match vs ++ List.replicate (8 - n) 0, h with
  | [x0, x1, x2, x3, x4, x5, x6, x7], _ => exact ⟨x0, x1, x2, x3, x4, x5, x6, x7, rfl⟩
/-- All eight are others. -/
theorem put8 {w : World} {base e g : Nat} {ys : List Value} (h : w.ownsRow base e 1 (.slice (some ⟨g, 0, none⟩) 8 8) 8 ys) (x0 x1 x2 x3 x4 x5 x6 x7 : Value) :
    ((((((((w.setCell ⟨g, 0, none⟩ x0).setCell ⟨g, 1, none⟩ x1).setCell ⟨g, 2, none⟩ x2).setCell ⟨g, 3, none⟩ x3).setCell ⟨g, 4, none⟩ x4).setCell ⟨g, 5, none⟩ x5).setCell ⟨g, 6, none⟩ x6).setCell ⟨g, 7, none⟩ x7).ownsRow base e 1 (.slice (some ⟨g, 0, none⟩) 8 8) 8 [x0, x1, x2, x3, x4, x5, x6, x7] ∧
    w.grownBy ((((((((w.setCell ⟨g, 0, none⟩ x0).setCell ⟨g, 1, none⟩ x1).setCell ⟨g, 2, none⟩ x2).setCell ⟨g, 3, none⟩ x3).setCell ⟨g, 4, none⟩ x4).setCell ⟨g, 5, none⟩ x5).setCell ⟨g, 6, none⟩ x6).setCell ⟨g, 7, none⟩ x7) (some g) := by
  have s0 := h.stored 0 x0
  have s1 := s0.1.stored 1 x1
  have s2 := s1.1.stored 2 x2
  have s3 := s2.1.stored 3 x3
  have s4 := s3.1.stored 4 x4
  have s5 := s4.1.stored 5 x5
  have s6 := s5.1.stored 6 x6
  have s7 := s6.1.stored 7 x7
  refine ⟨?_, grownBy_trans (grownBy_trans (grownBy_trans (grownBy_trans (grownBy_trans (grownBy_trans (grownBy_trans s0.2 s1.2) s2.2) s3.2) s4.2) s5.2) s6.2) s7.2⟩
  obtain ⟨y0, y1, y2, y3, y4, y5, y6, y7, rfl⟩ := list8 (show ys.length = 8 from h.1)
  exact s7.1
theorem row_type {w : World} {base e size g n c : Nat} {xs : List Value} (h : w.ownsRow base e size (.slice (some ⟨g, 0, none⟩) n c) n xs) : ∃ cur, w.heap[g]? = some (.cells cur e (0, 0)) := by
  rcases h.2 with ⟨h1, -⟩ | ⟨g', cap, cur, h1, -, h2, -⟩
  · cases h1
  · cases h1
    exact ⟨cur, h2⟩
/-- A slice of an array of eight numbers. -/
theorem arr_to (b n : Nat) (hn : n ≤ 8) (W : World) : (Instr.sliceAt 68 (.pointer (some ⟨b, 0, none⟩)) none (some (.int .i64 (n : Int))) none).run Try.prog W = .ok (.slice (some ⟨b, 0, none⟩) n 8) W := by
  have hl : Try.prog.arrayLen 68 = 8 := by kernel_rfl
  have he : Try.prog.elem 68 = 3 := by kernel_rfl
  rw [run_sliceAt_array_h W 68 ⟨b, 0, none⟩ (by kernel_rfl) .i64 n (by omega) (by rw [hl]; omega), hl, he]
  simp [slicedAt, Try.sizeOf3, Addr.add, go_sem]

abbrev coT : Nat := 34
abbrev zeroCo : Array Value := #[.int .i64 0, .int .i64 0]
abbrev coCells (p : Pc) (wd : Int) (bs : List Int) : Array Value := #[.int .i64 (costOver p bs wd), .int .i64 (costSum p bs)]
abbrev pcBox (p : Pc) (l : Pl) : Array Value := #[.int .i64 p.indent, .slice l.a1 p.rules.length l.c1, .slice l.a2 p.chunks.length l.c2, .slice l.a3 p.spans.length l.c3, .slice l.a4 p.ties.length l.c4]
/-- The search so far: the piece in its box, what will be told, the list that counts, the best one, and what that costs. -/
structure BS (w : World) (p : Pc) (l : Pl) (wd : Int) (N E L : Nat) (wr : World) (vs bs : List Int) : Prop where
  bel : Below w.heap.size w wr
  box : wr.heap[w.heap.size]? = some (.cells (pcBox p l) 29 (0, 0))
  res : wr.heap[w.heap.size + 1]? = some (.cells zeroCo coT (0, 0))
  now : wr.ownsRow (w.heap.size + 2) 68 1 (.slice (some ⟨N, 0, none⟩) 8 8) 8 (intVals vs ++ restZ p.rules.length)
  best : wr.ownsRow (w.heap.size + 2) 68 1 (.slice (some ⟨E, 0, none⟩) 8 8) 8 (intVals bs ++ restZ p.rules.length)
  least : wr.heap[L]? = some (.cells (coCells p wd bs) coT (0, 0))
  two : w.heap.size + 2 ≤ L
  ne : N ≠ E
  vl : vs.length = p.rules.length
  bl : bs.length = p.rules.length

section
variable {w : World} {p : Pc} {l : Pl} {wd : Int} {N E L : Nat} {wr w' : World} {vs bs us : List Int}
theorem BS.nlo (h : BS w p l wd N E L wr vs bs) : w.heap.size + 2 ≤ N := (h.now.lt N rfl).1
theorem BS.elo (h : BS w p l wd N E L wr vs bs) : w.heap.size + 2 ≤ E := (h.best.lt E rfl).1
theorem BS.neL (h : BS w p l wd N E L wr vs bs) : L ≠ N ∧ L ≠ E := by
  constructor
  · intro e
    obtain ⟨cur, h1⟩ := row_type h.now
    rw [← e, h.least] at h1
    cases h1
  · intro e
    obtain ⟨cur, h1⟩ := row_type h.best
    rw [← e, h.least] at h1
    cases h1
theorem BS.cellN (h : BS w p l wd N E L wr vs bs) (j : Nat) (z : Int) (hz : vs[j]? = some z) (h8 : p.rules.length ≤ 8) : wr.cell? ⟨N, j, none⟩ = some (.int .i64 z) := by
  have hj := (List.getElem?_eq_some_iff.1 hz).1
  have := h.vl
  rw [h.now.cellAt j (by omega), List.getElem?_append_left (by rw [intVals_len]; exact hj)]
  unfold intVals
  rw [List.getElem?_map, hz]
  rfl
theorem BS.read (h : BS w p l wd N E L wr vs bs) (h8 : p.rules.length ≤ 8) : readI wr N p.rules.length = vs := by
  rw [← h.vl]
  exact readI_eq (fun j z hz => h.cellN j z hz h8)
theorem BS.kids (h : BS w p l wd N E L wr vs bs) (h8 : p.rules.length ≤ 8) : KidsAt wr (some ⟨N, 0, none⟩) vs := fun _ => ⟨N, 0, rfl, (h.now.lt N rfl).2, fun j z hz => by rw [Nat.zero_add]; exact h.cellN j z hz h8⟩
theorem BS.kidsB (h : BS w p l wd N E L wr vs bs) (h8 : p.rules.length ≤ 8) : KidsAt wr (some ⟨E, 0, none⟩) bs := fun _ => ⟨E, 0, rfl, (h.best.lt E rfl).2, fun j z hz => by
  have hj := (List.getElem?_eq_some_iff.1 hz).1
  have := h.bl
  rw [Nat.zero_add, h.best.cellAt j (by omega), List.getElem?_append_left (by rw [intVals_len]; exact hj)]
  unfold intVals
  rw [List.getElem?_map, hz]
  rfl⟩
/-- More was made. -/
theorem BS.more (h : BS w p l wd N E L wr vs bs) (hb : Below wr.heap.size wr w') : BS w p l wd N E L w' vs bs :=
  ⟨h.bel.trans (hb.mono h.bel.size), (hb.block _ (Array.getElem?_eq_some_iff.1 h.box).1).trans h.box, (hb.block _ (Array.getElem?_eq_some_iff.1 h.res).1).trans h.res, owns_below h.now hb, owns_below h.best hb, (hb.block _ (Array.getElem?_eq_some_iff.1 h.least).1).trans h.least, h.two, h.ne, h.vl, h.bl⟩
/-- The list counts on. -/
theorem BS.step (h : BS w p l wd N E L wr vs bs) (hg : wr.grownBy w' (some N)) (hl : us.length = p.rules.length) (ho : w'.ownsRow (w.heap.size + 2) 68 1 (.slice (some ⟨N, 0, none⟩) 8 8) 8 (intVals us ++ restZ p.rules.length)) : BS w p l wd N E L w' us bs := by
  have hn := h.nlo
  refine ⟨h.bel.grown hg h.bel.size (fun k e => by cases e; omega), (hg.block _ (Array.getElem?_eq_some_iff.1 h.box).1 (fun e => by have := Option.some.inj e; omega)).trans h.box, (hg.block _ (Array.getElem?_eq_some_iff.1 h.res).1 (fun e => by have := Option.some.inj e; omega)).trans h.res, ho, World.ownsRow.kept h.best hg (.inr (fun e => h.ne (Option.some.inj e).symm)), (hg.block _ (Array.getElem?_eq_some_iff.1 h.least).1 (fun e => h.neL.1 (Option.some.inj e))).trans h.least, h.two, h.ne, hl, h.bl⟩
/-- The list that counts is the best one. -/
theorem BS.take (h : BS w p l wd N E L wr vs bs) {x0 x1 x2 x3 x4 x5 x6 x7 : Value} (hx : intVals vs ++ restZ p.rules.length = [x0, x1, x2, x3, x4, x5, x6, x7]) :
    BS w p l wd N E L (((((((((((wr.setCell ⟨E, 0, none⟩ x0).setCell ⟨E, 1, none⟩ x1).setCell ⟨E, 2, none⟩ x2).setCell ⟨E, 3, none⟩ x3).setCell ⟨E, 4, none⟩ x4).setCell ⟨E, 5, none⟩ x5).setCell ⟨E, 6, none⟩ x6).setCell ⟨E, 7, none⟩ x7)).setCell ⟨L, 0, none⟩ (.int .i64 (costOver p vs wd))).setCell ⟨L, 1, none⟩ (.int .i64 (costSum p vs))) vs vs := by
  obtain ⟨o8, g8⟩ := put8 h.best x0 x1 x2 x3 x4 x5 x6 x7
  generalize (((((((wr.setCell ⟨E, 0, none⟩ x0).setCell ⟨E, 1, none⟩ x1).setCell ⟨E, 2, none⟩ x2).setCell ⟨E, 3, none⟩ x3).setCell ⟨E, 4, none⟩ x4).setCell ⟨E, 5, none⟩ x5).setCell ⟨E, 6, none⟩ x6).setCell ⟨E, 7, none⟩ x7 = u at o8 g8
  have hn := h.elo
  have ht := h.two
  have hbel := h.bel.grown g8 h.bel.size (fun k e => by cases e; omega)
  have hbox := (g8.block _ (Array.getElem?_eq_some_iff.1 h.box).1 (fun e => by have := Option.some.inj e; omega)).trans h.box
  have hres := (g8.block _ (Array.getElem?_eq_some_iff.1 h.res).1 (fun e => by have := Option.some.inj e; omega)).trans h.res
  have hnow := World.ownsRow.kept h.now g8 (.inr (fun e => h.ne (Option.some.inj e)))
  have hlea := (g8.block _ (Array.getElem?_eq_some_iff.1 h.least).1 (fun e => h.neL.2 (Option.some.inj e))).trans h.least
  have s1 := heap_setCell_same u L 0 _ _ (.int .i64 (costOver p vs wd)) hlea
  have s2 := heap_setCell_same _ L 1 _ _ (.int .i64 (costSum p vs)) s1
  have hg : u.grownBy ((u.setCell ⟨L, 0, none⟩ (.int .i64 (costOver p vs wd))).setCell ⟨L, 1, none⟩ (.int .i64 (costSum p vs))) (some L) :=
    ⟨rfl, rfl, rfl, by simp, fun k _ hk => (heap_setCell_other _ ⟨L, 1, none⟩ k _ (fun e => hk (by simp [e]))).trans (heap_setCell_other _ ⟨L, 0, none⟩ k _ (fun e => hk (by simp [e])))⟩
  exact ⟨hbel.grown hg hbel.size (fun k e => by cases e; omega), (hg.block _ (Array.getElem?_eq_some_iff.1 hbox).1 (fun e => by have := Option.some.inj e; omega)).trans hbox, (hg.block _ (Array.getElem?_eq_some_iff.1 hres).1 (fun e => by have := Option.some.inj e; omega)).trans hres,
    World.ownsRow.kept hnow hg (.inr (fun e => h.neL.1 (Option.some.inj e).symm)), by rw [hx]; exact World.ownsRow.kept o8 hg (.inr (fun e => h.neL.2 (Option.some.inj e).symm)), s2, ht, h.ne, h.vl, h.vl⟩
end
end Go.Proofs.Ytbjfkfohkpdlfaa
