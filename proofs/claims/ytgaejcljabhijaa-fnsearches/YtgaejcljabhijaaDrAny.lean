/- What spec.l08Any draws: some piece. -/
import Derived.Test.YtgaejcljabhijaaDrPiece
import Derived.Test.YtgaejcljabhijaaFitLib
import Derived.Deep.DeepCutAuto
namespace Go.Proofs.Ytgaejcljabhijaa
open Go.RowKit

theorem Drawn.few {p : Pc} (h : Drawn p) : PcFew p := ⟨by have := h.r5; omega, by have := h.c9; omega, fun j x hx => by have := h.texts j x hx; omega, by have := h.s2; omega, by have := h.t2; omega⟩
theorem Drawn.fit {p : Pc} (h : Drawn p) : Fit p := ⟨h.few, fun j x hx => by have := (h.right.rules.2 j x hx).1; omega, h.r1, by have := h.r5; omega⟩
/-- The end: what is told is written. -/
theorem fit_ans {base : Nat} {w0 : World} {blk pb R : Nat} {a : Option Addr} {len cap : Nat} {w : World} {p : Pc} {l : Pl} (h : DS base w0 blk pb R a len cap w p l) (hf : Fit p) (v0 v1 v2 v3 v4 : Value) {e : Ending} (he : e = .returned (pcV p l)) :
    ∃ (p : Pc) (l : Pl), e = .returned (pcV p l) ∧ Fit p ∧ Own4 w0.heap.size (((((w.setCell ⟨R, 0, none⟩ v0).setCell ⟨R, 1, none⟩ v1).setCell ⟨R, 2, none⟩ v2).setCell ⟨R, 3, none⟩ v3).setCell ⟨R, 4, none⟩ v4) p l ∧ Cur base (((((w.setCell ⟨R, 0, none⟩ v0).setCell ⟨R, 1, none⟩ v1).setCell ⟨R, 2, none⟩ v2).setCell ⟨R, 3, none⟩ v3).setCell ⟨R, 4, none⟩ v4) blk a len cap ∧ w0.grownBy (((((w.setCell ⟨R, 0, none⟩ v0).setCell ⟨R, 1, none⟩ v1).setCell ⟨R, 2, none⟩ v2).setCell ⟨R, 3, none⟩ v3).setCell ⟨R, 4, none⟩ v4) (some blk) := by
  have := h.fin v0 v1 v2 v3 v4
  exact ⟨p, l, he, hf, this⟩
theorem made8 : (madeCells (Value.agg #[.int .i64 0, .int .i64 0]).cells (8 * 2)).toList = rowVals ruCells (List.replicate 8 ⟨0, 0⟩) := by
  simp [madeCells, rowVals, ruCells, Value.cells, List.replicate]
  rfl
theorem made9 : (madeCells (Value.agg #[.int .i64 0, .int .i64 0]).cells (9 * 2)).toList = rowVals ruCells (List.replicate 9 ⟨0, 0⟩) := by
  simp [madeCells, rowVals, ruCells, Value.cells, List.replicate]
  rfl
/-- A list that is not empty lies in a block of its own. -/
theorem at_some {w : World} {b e s n c : Nat} {a : Option Addr} {xs : List Value} (h : w.ownsRow b e s (.slice a n c) n xs) (hn : 0 < n) : ∃ g, a = some ⟨g, 0, none⟩ := owns_at h hn
theorem set_at {α : Type} {P : α → Prop} {xs : List α} {k : Nat} {x' : α} (h : ∀ (j : Nat) (y : α), xs[j]? = some y → P y) (hx : P x') : ∀ (j : Nat) (y : α), (xs.set k x')[j]? = some y → P y := by
  intro j y hy
  rw [List.getElem?_set] at hy
  split at hy
  · split at hy
    · cases hy
      exact hx
    · cases hy
  · exact h j y hy
/-- A piece in a new variable. -/
theorem ds_boxed {base : Nat} {w w3 w4 : World} {blk : Nat} {a : Option Addr} {len cap : Nat} {p : Pc} {l : Pl} (hb : blk < w.heap.size) (hc : Cur base w4 blk a len cap) (hg3 : (w.alloc (.cells noCells 29)).grownBy w3 (some blk)) (hg4 : w3.grownBy w4 none) (ho : Own4 w3.heap.size w4 p l) :
    DS base w blk w4.heap.size w.heap.size a len cap (w4.alloc (.cells (pcCells p l) 29)) p l := by
  have hs3 : w.heap.size + 1 ≤ w3.heap.size := by have := hg3.size; simp at this; omega
  have hs4 := hg4.size
  have hga := World.grownBy_alloc w4 (.cells (pcCells p l) 29) none
  have hg0 : w.grownBy w4 (some blk) := grown_row (grown_row (grown_row (World.grownBy.refl w (some blk)) (World.grownBy_alloc w (.cells noCells 29) none) (fun k e => by cases e)) hg3 (fun k e => .inr e)) hg4 (fun k e => by cases e)
  refine ds_of (hc.kept hga (fun k e => by cases e)) (grown_row hg0 hga (fun k e => by cases e)) (heap_alloc_new w4 _) ?_ hb (by omega) (Nat.le_refl _) (by omega) ((ho.base (by omega)).kept hga (fun k e => by cases e))
  rw [Below.heap_alloc w4 _ _ (by omega), hg4.block w.heap.size (by omega) (by simp), hg3.block w.heap.size (by simp) (fun e => by have := Option.some.inj e; omega)]
  exact heap_alloc_new w _

set_option maxHeartbeats 16000000 in
set_option maxRecDepth 20000 in
theorem anyp_any (base : Nat) (w : World) (blk : Nat) (a : Option Addr) (len cap : Nat) (hc : Cur base w blk a len cap) :
    Calls Try.prog 43 #[.pointer (some ⟨blk, 0, none⟩)] w fun e w' => ∃ (p : Pc) (l : Pl), e = .returned (pcV p l) ∧ Fit p ∧ Own4 w.heap.size w' p l ∧ Cur base w' blk a len cap ∧ w.grownBy w' (some blk) := by
  have hblt := hc.lt
  have HC := hidOf hc
  clear hc
  go_enter Try.func43, Try.ntmps43
  go_wp2_with fail
  refine (below_any base _ blk a len cap 14 (HC.out.kept (World.grownBy_alloc w (.cells noCells 29) none) (fun k e => by cases e)) (by omega) (by omega)).mono ?_
  rintro e w1 ⟨k, hk, rfl, hc1, hg1⟩
  have H1 := hidOf (And.intro hc1 hg1)
  clear hc1 hg1
  go_wp2_with fail
  refine (below_any base _ blk a len cap 60 H1.out.1 (by omega) (by omega)).mono ?_
  rintro e w2 ⟨y, hy, rfl, hc2, hg2⟩
  have H2 := hidOf (And.intro hc2 (H1.out.2.trans hg2))
  clear hc2 hg2 H1
  go_wp2_with fail
  refine (piece_any base w2 blk a len cap H2.out.1).mono ?_
  rintro e w3 ⟨p, l0, rfl, hD, ho3, hc3, hg3⟩
  have H3 := hidOf (And.intro hc3 (H2.out.2.trans hg3))
  have HD := hidOf hD
  have HO := hidOf ho3
  clear hc3 hg3 H2 hD ho3
  go_wp2_with fail
  refine (copy_any p l0 w3 HD.out.few HO.out.is).mono ?_
  rintro e w4 ⟨l, rfl, ho4, hg4⟩
  have D := ds_boxed hblt (H3.out.1.kept hg4 (fun k e => by cases e)) H3.out.2 hg4 ho4
  clear ho4 hg4 HO H3
  go_upto_region 4 with fail
  obtain ⟨pb, hpb⟩ : ∃ pb, pb = w4.heap.size := ⟨_, rfl⟩
  obtain ⟨R, hRr⟩ : ∃ R, R = w.heap.size := ⟨_, rfl⟩
  obtain ⟨W, hW⟩ : ∃ W, W = w4.alloc (.cells (pcCells p l) 29) := ⟨_, rfl⟩
  rw [← hW, ← hpb, ← hRr] at D
  rw [← hW, ← hpb, ← hRr]
  clear hW hpb hRr
  have hch : 0 < p.chunks.length := by have := HD.out.right.chunks.least; omega
  have hc9 := HD.out.c9
  have hi : (y : Int).tmod (p.chunks.length : Int) = ((y % p.chunks.length : Nat) : Int) := rfl
  have hil : y % p.chunks.length < p.chunks.length := Nat.mod_lt _ hch
  obtain ⟨i, hie⟩ : ∃ i, i = y % p.chunks.length := ⟨_, rfl⟩
  rw [← hie] at hi hil
  clear hie
  have hnz : ((p.chunks.length : Int) == 0) = false := by rw [beq_eq_false_iff_ne]; omega
  have hnz2 : ¬ (p.chunks.length : Int) = 0 := by omega
  have hnz3 : ¬ p.chunks.length = 0 := by omega
  obtain ⟨⟨b0, b1, b2, b3, b4⟩, bf⟩ := D.cells
  have bf0 := bf 0
  have bf1 := bf 1
  have bf3 := bf 3
  have bf4 := bf 4
  have hpl := D.pbl
  have hpne : pb ≠ W.heap.size := by omega
  clear bf
  have hks : k = 0 ∨ k = 1 ∨ k = 2 ∨ k = 3 ∨ k = 4 ∨ k = 5 ∨ k = 6 ∨ k = 7 ∨ 8 ≤ k := by omega
  rcases hks with rfl | rfl | rfl | rfl | rfl | rfl | rfl | rfl | hk8
  · have h3 : (y : Int).tmod 3 = ((y % 3 : Nat) : Int) := rfl
    have hr : y % 3 = 0 ∨ y % 3 = 1 ∨ y % 3 = 2 := by omega
    rcases hr with hr | hr | hr
    all_goals rw [hr] at h3
    all_goals go_upto_region 22 with fail
    · skip
      obtain ⟨p', hp'⟩ : ∃ p' : Pc, p' = { p with indent := (-1) } := ⟨_, rfl⟩
      obtain ⟨l', hl'⟩ : ∃ l' : Pl, l' = l := ⟨_, rfl⟩
      obtain ⟨W', hW'⟩ : ∃ W', W' = (W.setCell ⟨pb, 0, none⟩ (.int .i64 (-1))).alloc (.cells #[.int .i64 (-1), .int .i64 60, .int .i64 61] 3) := ⟨_, rfl⟩
      have D' : DS base w blk pb R a len cap W' p' l' := by rw [hW', hp', hl']; exact (D.ind (-1)).alloc _
      have HF : Hid (Fit p') := hidOf (by rw [hp']; exact ⟨⟨HD.out.fit.few.rules, HD.out.fit.few.chunks, HD.out.fit.few.texts, HD.out.fit.few.spans, HD.out.fit.few.ties⟩, HD.out.fit.val, HD.out.fit.r1, HD.out.fit.r9⟩)
      clear D b0 b1 b2 b3 b4 bf0 bf1 bf3 bf4 hpl hpne hp' hl'
      rw [← hW']
      clear hW'
      obtain ⟨⟨b0, b1, b2, b3, b4⟩, -⟩ := D'.cells
      obtain ⟨r0, r1, r2, r3, r4⟩ := D'.resCells
      have rf0 := D'.resFrozen 0
      have rf1 := D'.resFrozen 1
      have rf2 := D'.resFrozen 2
      have rf3 := D'.resFrozen 3
      have rf4 := D'.resFrozen 4
      have hne := D'.ne
      have hne2 := hne.symm
      go_wp2
      refine bodyPost_ret (v := pcV p' l') (by simp [results, Try.results43, go_sem, r0, r1, r2, r3, r4]) rfl (fit_ans D' HF.out _ _ _ _ _ rfl)
    · skip
      obtain ⟨p', hp'⟩ : ∃ p' : Pc, p' = { p with indent := 60 } := ⟨_, rfl⟩
      obtain ⟨l', hl'⟩ : ∃ l' : Pl, l' = l := ⟨_, rfl⟩
      obtain ⟨W', hW'⟩ : ∃ W', W' = (W.setCell ⟨pb, 0, none⟩ (.int .i64 60)).alloc (.cells #[.int .i64 (-1), .int .i64 60, .int .i64 61] 3) := ⟨_, rfl⟩
      have D' : DS base w blk pb R a len cap W' p' l' := by rw [hW', hp', hl']; exact (D.ind 60).alloc _
      have HF : Hid (Fit p') := hidOf (by rw [hp']; exact ⟨⟨HD.out.fit.few.rules, HD.out.fit.few.chunks, HD.out.fit.few.texts, HD.out.fit.few.spans, HD.out.fit.few.ties⟩, HD.out.fit.val, HD.out.fit.r1, HD.out.fit.r9⟩)
      clear D b0 b1 b2 b3 b4 bf0 bf1 bf3 bf4 hpl hpne hp' hl'
      rw [← hW']
      clear hW'
      obtain ⟨⟨b0, b1, b2, b3, b4⟩, -⟩ := D'.cells
      obtain ⟨r0, r1, r2, r3, r4⟩ := D'.resCells
      have rf0 := D'.resFrozen 0
      have rf1 := D'.resFrozen 1
      have rf2 := D'.resFrozen 2
      have rf3 := D'.resFrozen 3
      have rf4 := D'.resFrozen 4
      have hne := D'.ne
      have hne2 := hne.symm
      go_wp2
      refine bodyPost_ret (v := pcV p' l') (by simp [results, Try.results43, go_sem, r0, r1, r2, r3, r4]) rfl (fit_ans D' HF.out _ _ _ _ _ rfl)
    · skip
      obtain ⟨p', hp'⟩ : ∃ p' : Pc, p' = { p with indent := 61 } := ⟨_, rfl⟩
      obtain ⟨l', hl'⟩ : ∃ l' : Pl, l' = l := ⟨_, rfl⟩
      obtain ⟨W', hW'⟩ : ∃ W', W' = (W.setCell ⟨pb, 0, none⟩ (.int .i64 61)).alloc (.cells #[.int .i64 (-1), .int .i64 60, .int .i64 61] 3) := ⟨_, rfl⟩
      have D' : DS base w blk pb R a len cap W' p' l' := by rw [hW', hp', hl']; exact (D.ind 61).alloc _
      have HF : Hid (Fit p') := hidOf (by rw [hp']; exact ⟨⟨HD.out.fit.few.rules, HD.out.fit.few.chunks, HD.out.fit.few.texts, HD.out.fit.few.spans, HD.out.fit.few.ties⟩, HD.out.fit.val, HD.out.fit.r1, HD.out.fit.r9⟩)
      clear D b0 b1 b2 b3 b4 bf0 bf1 bf3 bf4 hpl hpne hp' hl'
      rw [← hW']
      clear hW'
      obtain ⟨⟨b0, b1, b2, b3, b4⟩, -⟩ := D'.cells
      obtain ⟨r0, r1, r2, r3, r4⟩ := D'.resCells
      have rf0 := D'.resFrozen 0
      have rf1 := D'.resFrozen 1
      have rf2 := D'.resFrozen 2
      have rf3 := D'.resFrozen 3
      have rf4 := D'.resFrozen 4
      have hne := D'.ne
      have hne2 := hne.symm
      go_wp2
      refine bodyPost_ret (v := pcV p' l') (by simp [results, Try.results43, go_sem, r0, r1, r2, r3, r4]) rfl (fit_ans D' HF.out _ _ _ _ _ rfl)
  · have h5 : (y : Int).tmod 5 = ((y % 5 : Nat) : Int) := rfl
    obtain ⟨r5, hr5⟩ : ∃ r5, r5 = y % 5 := ⟨_, rfl⟩
    have hr5l : r5 < 5 := by omega
    rw [← hr5] at h5
    clear hr5
    have hrl := HD.out.r1
    obtain ⟨x, hx⟩ : ∃ x, p.rules[0]? = some x := ⟨p.rules[0], List.getElem?_eq_getElem (by omega)⟩
    obtain ⟨g, hg⟩ := at_some D.own.o1 (by omega)
    have ho := D.own.o1
    rw [hg] at ho b1
    have q0 := ho.cellAt 0 (by omega)
    rw [show (rowVals ruCells p.rules)[0]? = some (.int .i64 x.values) from rowVals_at ruCells_len p.rules 0 x hx 0 (by omega)] at q0
    have qf := ho.frozenAt 0
    have hgn : 0 < p.rules.length := by omega
    clear ho
    go_upto_region 22 with fail
    obtain ⟨p', hp'⟩ : ∃ p' : Pc, p' = { p with rules := p.rules.set 0 ⟨(r5 : Int), x.cost⟩ } := ⟨_, rfl⟩
    obtain ⟨l', hl'⟩ : ∃ l' : Pl, l' = l := ⟨_, rfl⟩
    obtain ⟨W', hW'⟩ : ∃ W', W' = W.setCell ⟨g, 0, none⟩ (.int .i64 (r5 : Int)) := ⟨_, rfl⟩
    have D' : DS base w blk pb R a len cap W' p' l' := by rw [hW', hp', hl']; exact D.set1 (k := 0) (j := 0) hg hx (by omega) rfl
    have HF : Hid (Fit p') := hidOf (by rw [hp']; exact ⟨⟨by simpa using HD.out.fit.few.rules, HD.out.fit.few.chunks, HD.out.fit.few.texts, HD.out.fit.few.spans, HD.out.fit.few.ties⟩, set_at HD.out.fit.val ⟨by show 0 ≤ (r5 : Int); omega, by show (r5 : Int) ≤ 4; omega⟩, by simpa using HD.out.fit.r1, by simpa using HD.out.fit.r9⟩)
    clear D b0 b1 b2 b3 b4 bf0 bf1 bf3 bf4 hpl hpne hp' hl' hg hx q0 qf hgn
    rw [← hW']
    clear hW'
    obtain ⟨⟨b0, b1, b2, b3, b4⟩, -⟩ := D'.cells
    obtain ⟨r0, r1, r2, r3, r4⟩ := D'.resCells
    have rf0 := D'.resFrozen 0
    have rf1 := D'.resFrozen 1
    have rf2 := D'.resFrozen 2
    have rf3 := D'.resFrozen 3
    have rf4 := D'.resFrozen 4
    have hne := D'.ne
    have hne2 := hne.symm
    go_wp2
    refine bodyPost_ret (v := pcV p' l') (by simp [results, Try.results43, go_sem, r0, r1, r2, r3, r4]) rfl (fit_ans D' HF.out _ _ _ _ _ rfl)
  · have hgo : True := trivial
    obtain ⟨x, hx⟩ : ∃ x, p.chunks[i]? = some x := ⟨p.chunks[i], List.getElem?_eq_getElem hil⟩
    obtain ⟨g, hg⟩ := at_some D.own.o2 hch
    have ho := D.own.o2
    rw [hg] at ho b2
    have q0 := ho.cellAt (i * 5 + 0) (by omega)
    rw [rowVals_at chCells_len p.chunks i x hx 0 (by omega)] at q0
    have qf := ho.frozenAt (i * 5 + 0)
    rw [Nat.add_zero] at q0 qf
    have hA : (0 : Int) ≤ (i : Int) := by omega
    have hB : (i : Int) < (p.chunks.length : Int) := by omega
    change _ = some _ at q0
    clear ho
    go_upto_region 22 with fail
    obtain ⟨p', hp'⟩ : ∃ p' : Pc, p' = { p with chunks := p.chunks.set i { x with text := ByteArray.mk #[7] } } := ⟨_, rfl⟩
    obtain ⟨l', hl'⟩ : ∃ l' : Pl, l' = l := ⟨_, rfl⟩
    obtain ⟨W', hW'⟩ : ∃ W', W' = W.setCell ⟨g, i * 5, none⟩ (.string (ByteArray.mk #[7])) := ⟨_, rfl⟩
    have D' : DS base w blk pb R a len cap W' p' l' := by rw [hW', hp', hl']; exact D.set2 (k := i) (j := 0) hg hx (by omega) rfl
    have HF : Hid (Fit p') := hidOf (by rw [hp']; exact ⟨⟨HD.out.fit.few.rules, by simpa using HD.out.fit.few.chunks, set_at HD.out.fit.few.texts (by show (1 : Nat) ≤ 1048576; omega), HD.out.fit.few.spans, HD.out.fit.few.ties⟩, HD.out.fit.val, HD.out.fit.r1, HD.out.fit.r9⟩)
    clear D b0 b1 b2 b3 b4 bf0 bf1 bf3 bf4 hpl hpne hp' hl' hg hx q0 qf hA hB
    rw [← hW']
    clear hW'
    obtain ⟨⟨b0, b1, b2, b3, b4⟩, -⟩ := D'.cells
    obtain ⟨r0, r1, r2, r3, r4⟩ := D'.resCells
    have rf0 := D'.resFrozen 0
    have rf1 := D'.resFrozen 1
    have rf2 := D'.resFrozen 2
    have rf3 := D'.resFrozen 3
    have rf4 := D'.resFrozen 4
    have hne := D'.ne
    have hne2 := hne.symm
    go_wp2
    refine bodyPost_ret (v := pcV p' l') (by simp [results, Try.results43, go_sem, r0, r1, r2, r3, r4]) rfl (fit_ans D' HF.out _ _ _ _ _ rfl)
  · have hgo : True := trivial
    have h4 : (y : Int).tmod 4 = ((y % 4 : Nat) : Int) := rfl
    obtain ⟨r4, hr4⟩ : ∃ r4, r4 = y % 4 := ⟨_, rfl⟩
    have hr4l : r4 < 4 := by omega
    rw [← hr4] at h4
    clear hr4
    obtain ⟨x, hx⟩ : ∃ x, p.chunks[i]? = some x := ⟨p.chunks[i], List.getElem?_eq_getElem hil⟩
    obtain ⟨g, hg⟩ := at_some D.own.o2 hch
    have ho := D.own.o2
    rw [hg] at ho b2
    have q0 := ho.cellAt (i * 5 + 2) (by omega)
    rw [rowVals_at chCells_len p.chunks i x hx 2 (by omega)] at q0
    have qf := ho.frozenAt (i * 5 + 2)
    have hA : (0 : Int) ≤ (i : Int) := by omega
    have hB : (i : Int) < (p.chunks.length : Int) := by omega
    change _ = some _ at q0
    clear ho
    go_upto_region 22 with fail
    obtain ⟨p', hp'⟩ : ∃ p' : Pc, p' = { p with chunks := p.chunks.set i { x with frm := (r4 : Int) } } := ⟨_, rfl⟩
    obtain ⟨l', hl'⟩ : ∃ l' : Pl, l' = l := ⟨_, rfl⟩
    obtain ⟨W', hW'⟩ : ∃ W', W' = W.setCell ⟨g, i * 5 + 2, none⟩ (.int .i64 (r4 : Int)) := ⟨_, rfl⟩
    have D' : DS base w blk pb R a len cap W' p' l' := by rw [hW', hp', hl']; exact D.set2 (k := i) (j := 2) hg hx (by omega) rfl
    have HF : Hid (Fit p') := hidOf (by rw [hp']; exact ⟨⟨HD.out.fit.few.rules, by simpa using HD.out.fit.few.chunks, set_at HD.out.fit.few.texts (HD.out.fit.few.texts i x hx), HD.out.fit.few.spans, HD.out.fit.few.ties⟩, HD.out.fit.val, HD.out.fit.r1, HD.out.fit.r9⟩)
    clear D b0 b1 b2 b3 b4 bf0 bf1 bf3 bf4 hpl hpne hp' hl' hg hx q0 qf hA hB
    rw [← hW']
    clear hW'
    obtain ⟨⟨b0, b1, b2, b3, b4⟩, -⟩ := D'.cells
    obtain ⟨r0, r1, r2, r3, r4⟩ := D'.resCells
    have rf0 := D'.resFrozen 0
    have rf1 := D'.resFrozen 1
    have rf2 := D'.resFrozen 2
    have rf3 := D'.resFrozen 3
    have rf4 := D'.resFrozen 4
    have hne := D'.ne
    have hne2 := hne.symm
    go_wp2
    refine bodyPost_ret (v := pcV p' l') (by simp [results, Try.results43, go_sem, r0, r1, r2, r3, r4]) rfl (fit_ans D' HF.out _ _ _ _ _ rfl)
  · have hgo : True := trivial
    have h9 : (y : Int).tmod 9 = ((y % 9 : Nat) : Int) := rfl
    obtain ⟨r9, hr9⟩ : ∃ r9, r9 = y % 9 := ⟨_, rfl⟩
    have hr9l : r9 < 9 := by omega
    rw [← hr9] at h9
    have hw9 : IntKind.i64.wrap ((r9 : Int) - 1) = (r9 : Int) - 1 := IntWalk.i64_in _ ⟨by omega, by omega⟩
    clear hr9
    obtain ⟨x, hx⟩ : ∃ x, p.chunks[i]? = some x := ⟨p.chunks[i], List.getElem?_eq_getElem hil⟩
    obtain ⟨g, hg⟩ := at_some D.own.o2 hch
    have ho := D.own.o2
    rw [hg] at ho b2
    have q0 := ho.cellAt (i * 5 + 1) (by omega)
    rw [rowVals_at chCells_len p.chunks i x hx 1 (by omega)] at q0
    have qf := ho.frozenAt (i * 5 + 1)
    have hA : (0 : Int) ≤ (i : Int) := by omega
    have hB : (i : Int) < (p.chunks.length : Int) := by omega
    change _ = some _ at q0
    clear ho
    go_upto_region 22 with fail
    obtain ⟨p', hp'⟩ : ∃ p' : Pc, p' = { p with chunks := p.chunks.set i { x with rule := (r9 : Int) - 1 } } := ⟨_, rfl⟩
    obtain ⟨l', hl'⟩ : ∃ l' : Pl, l' = l := ⟨_, rfl⟩
    obtain ⟨W', hW'⟩ : ∃ W', W' = W.setCell ⟨g, i * 5 + 1, none⟩ (.int .i64 ((r9 : Int) - 1)) := ⟨_, rfl⟩
    have D' : DS base w blk pb R a len cap W' p' l' := by rw [hW', hp', hl']; exact D.set2 (k := i) (j := 1) hg hx (by omega) rfl
    have HF : Hid (Fit p') := hidOf (by rw [hp']; exact ⟨⟨HD.out.fit.few.rules, by simpa using HD.out.fit.few.chunks, set_at HD.out.fit.few.texts (HD.out.fit.few.texts i x hx), HD.out.fit.few.spans, HD.out.fit.few.ties⟩, HD.out.fit.val, HD.out.fit.r1, HD.out.fit.r9⟩)
    clear D b0 b1 b2 b3 b4 bf0 bf1 bf3 bf4 hpl hpne hp' hl' hg hx q0 qf hA hB
    rw [← hW']
    clear hW'
    obtain ⟨⟨b0, b1, b2, b3, b4⟩, -⟩ := D'.cells
    obtain ⟨r0, r1, r2, r3, r4⟩ := D'.resCells
    have rf0 := D'.resFrozen 0
    have rf1 := D'.resFrozen 1
    have rf2 := D'.resFrozen 2
    have rf3 := D'.resFrozen 3
    have rf4 := D'.resFrozen 4
    have hne := D'.ne
    have hne2 := hne.symm
    go_wp2
    refine bodyPost_ret (v := pcV p' l') (by simp [results, Try.results43, go_sem, r0, r1, r2, r3, r4]) rfl (fit_ans D' HF.out _ _ _ _ _ rfl)
  · have hgo : True := trivial
    have h5 : (y : Int).tmod 5 = ((y % 5 : Nat) : Int) := rfl
    obtain ⟨s5, hs5⟩ : ∃ s5, s5 = y % 5 := ⟨_, rfl⟩
    rw [← hs5] at h5
    clear hs5
    have h7 : (y : Int).tmod 7 = ((y % 7 : Nat) : Int) := rfl
    obtain ⟨s7, hs7⟩ : ∃ s7, s7 = y % 7 := ⟨_, rfl⟩
    rw [← hs7] at h7
    clear hs7
    have h11 : (y : Int).tmod 11 = ((y % 11 : Nat) : Int) := rfl
    obtain ⟨s11, hs11⟩ : ∃ s11, s11 = y % 11 := ⟨_, rfl⟩
    rw [← hs11] at h11
    clear hs11
    obtain ⟨i0, hi0, hz0, hz1, hz2⟩ := info_parts infoSnD
    have hlen : p.spans.length ≤ 2 := HD.out.s2
    go_upto_region 22 with (refine wpList_append_lies _ (by rfl) _ _ _ (by rfl) w.heap.size 112 i0 _ 3 24 Try.underlying26 hi0 hz0 hz1 hz2 rfl (by omega) (.slice l.a3 p.spans.length l.c3) p.spans.length (rowVals snCells p.spans) (by rfl) (D.alloc _).own.o3 ⟨W.heap.size, 0, none⟩ 1 1 (snCells ⟨(s5 : Int), (s7 : Int), (s11 : Int)⟩) (by rfl) (by rfl) (news_new W _ _) (snCells_one _) (by omega) (by unfold maxLen; omega) (by omega) (by have := D.grow.size; simp; omega) (W.heap.size + 1) (by simp) ?_; intro g cc w10 hown3 hgrow3 hat3 hlt3; obtain ⟨g3, gf3⟩ := (D.alloc _).far3 hgrow3)
    obtain ⟨p', hp'⟩ : ∃ p' : Pc, p' = { p with spans := p.spans ++ [⟨(s5 : Int), (s7 : Int), (s11 : Int)⟩] } := ⟨_, rfl⟩
    obtain ⟨l', hl'⟩ : ∃ l' : Pl, l' = { l with a3 := some ⟨g, 0, none⟩, c3 := cc } := ⟨_, rfl⟩
    obtain ⟨W', hW'⟩ : ∃ W', W' = w10.setCell ⟨pb, 3, none⟩ (.slice (some ⟨g, 0, none⟩) (p.spans.length + 1) cc) := ⟨_, rfl⟩
    have D' : DS base w blk pb R a len cap W' p' l' := by rw [hW', hp', hl']; exact (D.alloc _).app3 hown3 hgrow3 (by rw [size_alloc1]; exact hat3)
    have HF : Hid (Fit p') := hidOf (by rw [hp']; exact ⟨⟨HD.out.fit.few.rules, HD.out.fit.few.chunks, HD.out.fit.few.texts, by simp; omega, HD.out.fit.few.ties⟩, HD.out.fit.val, HD.out.fit.r1, HD.out.fit.r9⟩)
    clear D b0 b1 b2 b3 b4 bf0 bf1 bf3 bf4 hpl hpne hp' hl' hown3 hgrow3 hat3 hlt3 g3 gf3
    rw [← hW']
    clear hW'
    obtain ⟨⟨b0, b1, b2, b3, b4⟩, -⟩ := D'.cells
    obtain ⟨r0, r1, r2, r3, r4⟩ := D'.resCells
    have rf0 := D'.resFrozen 0
    have rf1 := D'.resFrozen 1
    have rf2 := D'.resFrozen 2
    have rf3 := D'.resFrozen 3
    have rf4 := D'.resFrozen 4
    have hne := D'.ne
    have hne2 := hne.symm
    go_wp2
    refine bodyPost_ret (v := pcV p' l') (by simp [results, Try.results43, go_sem, r0, r1, r2, r3, r4]) rfl (fit_ans D' HF.out _ _ _ _ _ rfl)
  · have hgo : True := trivial
    have h6 : (y : Int).tmod 6 = ((y % 6 : Nat) : Int) := rfl
    obtain ⟨s6, hs6⟩ : ∃ s6, s6 = y % 6 := ⟨_, rfl⟩
    rw [← hs6] at h6
    clear hs6
    have h5 : (y : Int).tmod 5 = ((y % 5 : Nat) : Int) := rfl
    obtain ⟨s5, hs5⟩ : ∃ s5, s5 = y % 5 := ⟨_, rfl⟩
    rw [← hs5] at h5
    clear hs5
    obtain ⟨i0, hi0, hz0, hz1, hz2⟩ := info_parts infoTiD
    have hlen : p.ties.length ≤ 2 := HD.out.t2
    go_upto_region 22 with (refine wpList_append_lies _ (by rfl) _ _ _ (by rfl) w.heap.size 82 i0 _ 2 16 Try.underlying27 hi0 hz0 hz1 hz2 rfl (by omega) (.slice l.a4 p.ties.length l.c4) p.ties.length (rowVals tiCells p.ties) (by rfl) (D.alloc _).own.o4 ⟨W.heap.size, 0, none⟩ 1 1 (tiCells ⟨(s6 : Int), (s5 : Int)⟩) (by rfl) (by rfl) (news_new W _ _) (tiCells_one _) (by omega) (by unfold maxLen; omega) (by omega) (by have := D.grow.size; simp; omega) (W.heap.size + 1) (by simp) ?_; intro g cc w10 hown3 hgrow3 hat3 hlt3; obtain ⟨g3, gf3⟩ := (D.alloc _).far4 hgrow3)
    obtain ⟨p', hp'⟩ : ∃ p' : Pc, p' = { p with ties := p.ties ++ [⟨(s6 : Int), (s5 : Int)⟩] } := ⟨_, rfl⟩
    obtain ⟨l', hl'⟩ : ∃ l' : Pl, l' = { l with a4 := some ⟨g, 0, none⟩, c4 := cc } := ⟨_, rfl⟩
    obtain ⟨W', hW'⟩ : ∃ W', W' = w10.setCell ⟨pb, 4, none⟩ (.slice (some ⟨g, 0, none⟩) (p.ties.length + 1) cc) := ⟨_, rfl⟩
    have D' : DS base w blk pb R a len cap W' p' l' := by rw [hW', hp', hl']; exact (D.alloc _).app4 hown3 hgrow3 (by rw [size_alloc1]; exact hat3)
    have HF : Hid (Fit p') := hidOf (by rw [hp']; exact ⟨⟨HD.out.fit.few.rules, HD.out.fit.few.chunks, HD.out.fit.few.texts, HD.out.fit.few.spans, by simp; omega⟩, HD.out.fit.val, HD.out.fit.r1, HD.out.fit.r9⟩)
    clear D b0 b1 b2 b3 b4 bf0 bf1 bf3 bf4 hpl hpne hp' hl' hown3 hgrow3 hat3 hlt3 g3 gf3
    rw [← hW']
    clear hW'
    obtain ⟨⟨b0, b1, b2, b3, b4⟩, -⟩ := D'.cells
    obtain ⟨r0, r1, r2, r3, r4⟩ := D'.resCells
    have rf0 := D'.resFrozen 0
    have rf1 := D'.resFrozen 1
    have rf2 := D'.resFrozen 2
    have rf3 := D'.resFrozen 3
    have rf4 := D'.resFrozen 4
    have hne := D'.ne
    have hne2 := hne.symm
    go_wp2
    refine bodyPost_ret (v := pcV p' l') (by simp [results, Try.results43, go_sem, r0, r1, r2, r3, r4]) rfl (fit_ans D' HF.out _ _ _ _ _ rfl)
  · have h2 : (y : Int).tmod 2 = ((y % 2 : Nat) : Int) := rfl
    have hr : y % 2 = 0 ∨ y % 2 = 1 := by omega
    obtain ⟨i0, hi0, hz0, hz1, hz2⟩ := info_parts infoRuD
    rcases hr with hr | hr
    all_goals rw [hr] at h2
    · go_upto_region 22 with (at_make; refine wpList_make_full _ rfl _ _ 24 rfl w.heap.size 69 i0 _ 2 Try.underlying24 hi0 hz0 hz1 .i64 .i64 _ _ 8 rfl rfl rfl rfl (by rw [hz2]; omega) (by unfold maxLen; omega) D.grow.size ?_; intro w10 hown hgrow; obtain ⟨⟨-, c1, -, -, -⟩, cf⟩ := (D.more hgrow).cells; have cf1 := cf 1; clear cf)
      obtain ⟨p', hp'⟩ : ∃ p' : Pc, p' = { p with rules := List.replicate 8 ⟨0, 0⟩ } := ⟨_, rfl⟩
      obtain ⟨l', hl'⟩ : ∃ l' : Pl, l' = { l with a1 := some ⟨W.heap.size, 0, none⟩, c1 := 8 } := ⟨_, rfl⟩
      obtain ⟨W', hW'⟩ : ∃ W', W' = w10.setCell ⟨pb, 1, none⟩ (.slice (some ⟨W.heap.size, 0, none⟩) 8 8) := ⟨_, rfl⟩
      have D' : DS base w blk pb R a len cap W' p' l' := by rw [hW', hp', hl']; exact (D.more hgrow).put1 (rs := List.replicate 8 ⟨0, 0⟩) (by rw [made8] at hown; exact hown)
      have HF : Hid (Fit p') := hidOf (by rw [hp']; exact ⟨⟨by simp, HD.out.fit.few.chunks, HD.out.fit.few.texts, HD.out.fit.few.spans, HD.out.fit.few.ties⟩, fun j z hz => by rw [List.getElem?_replicate] at hz; split at hz <;> cases hz; exact ⟨by decide, by decide⟩, by simp, by simp⟩)
      clear D b0 b1 b2 b3 b4 bf0 bf1 bf3 bf4 hpl hpne hp' hl' hown hgrow c1 cf1
      rw [← hW']
      clear hW'
      obtain ⟨⟨b0, b1, b2, b3, b4⟩, -⟩ := D'.cells
      obtain ⟨r0, r1, r2, r3, r4⟩ := D'.resCells
      have rf0 := D'.resFrozen 0
      have rf1 := D'.resFrozen 1
      have rf2 := D'.resFrozen 2
      have rf3 := D'.resFrozen 3
      have rf4 := D'.resFrozen 4
      have hne := D'.ne
      have hne2 := hne.symm
      go_wp2
      refine bodyPost_ret (v := pcV p' l') (by simp [results, Try.results43, go_sem, r0, r1, r2, r3, r4]) rfl (fit_ans D' HF.out _ _ _ _ _ rfl)
    · go_upto_region 22 with (at_make; refine wpList_make_full _ rfl _ _ 24 rfl w.heap.size 69 i0 _ 2 Try.underlying24 hi0 hz0 hz1 .i64 .i64 _ _ 9 rfl rfl rfl rfl (by rw [hz2]; omega) (by unfold maxLen; omega) D.grow.size ?_; intro w10 hown hgrow; obtain ⟨⟨-, c1, -, -, -⟩, cf⟩ := (D.more hgrow).cells; have cf1 := cf 1; clear cf)
      obtain ⟨p', hp'⟩ : ∃ p' : Pc, p' = { p with rules := List.replicate 9 ⟨0, 0⟩ } := ⟨_, rfl⟩
      obtain ⟨l', hl'⟩ : ∃ l' : Pl, l' = { l with a1 := some ⟨W.heap.size, 0, none⟩, c1 := 9 } := ⟨_, rfl⟩
      obtain ⟨W', hW'⟩ : ∃ W', W' = w10.setCell ⟨pb, 1, none⟩ (.slice (some ⟨W.heap.size, 0, none⟩) 9 9) := ⟨_, rfl⟩
      have D' : DS base w blk pb R a len cap W' p' l' := by rw [hW', hp', hl']; exact (D.more hgrow).put1 (rs := List.replicate 9 ⟨0, 0⟩) (by rw [made9] at hown; exact hown)
      have HF : Hid (Fit p') := hidOf (by rw [hp']; exact ⟨⟨by simp, HD.out.fit.few.chunks, HD.out.fit.few.texts, HD.out.fit.few.spans, HD.out.fit.few.ties⟩, fun j z hz => by rw [List.getElem?_replicate] at hz; split at hz <;> cases hz; exact ⟨by decide, by decide⟩, by simp, by simp⟩)
      clear D b0 b1 b2 b3 b4 bf0 bf1 bf3 bf4 hpl hpne hp' hl' hown hgrow c1 cf1
      rw [← hW']
      clear hW'
      obtain ⟨⟨b0, b1, b2, b3, b4⟩, -⟩ := D'.cells
      obtain ⟨r0, r1, r2, r3, r4⟩ := D'.resCells
      have rf0 := D'.resFrozen 0
      have rf1 := D'.resFrozen 1
      have rf2 := D'.resFrozen 2
      have rf3 := D'.resFrozen 3
      have rf4 := D'.resFrozen 4
      have hne := D'.ne
      have hne2 := hne.symm
      go_wp2
      refine bodyPost_ret (v := pcV p' l') (by simp [results, Try.results43, go_sem, r0, r1, r2, r3, r4]) rfl (fit_ans D' HF.out _ _ _ _ _ rfl)
  · have n0 : ¬ (k : Int) = 0 := by omega
    have n1 : ¬ (k : Int) = 1 := by omega
    have n2 : ¬ (k : Int) = 2 := by omega
    have n3 : ¬ (k : Int) = 3 := by omega
    have n4 : ¬ (k : Int) = 4 := by omega
    have n5 : ¬ (k : Int) = 5 := by omega
    have n6 : ¬ (k : Int) = 6 := by omega
    have n7 : ¬ (k : Int) = 7 := by omega
    go_upto_region 22 with fail
    obtain ⟨W', hW'⟩ : ∃ W', W' = W := ⟨_, rfl⟩
    have D' : DS base w blk pb R a len cap W' p l := by rw [hW']; exact D
    clear D b0 b1 b2 b3 b4 bf0 bf1 bf3 bf4 hpl hpne
    rw [← hW']
    clear hW'
    obtain ⟨⟨b0, b1, b2, b3, b4⟩, -⟩ := D'.cells
    obtain ⟨r0, r1, r2, r3, r4⟩ := D'.resCells
    have rf0 := D'.resFrozen 0
    have rf1 := D'.resFrozen 1
    have rf2 := D'.resFrozen 2
    have rf3 := D'.resFrozen 3
    have rf4 := D'.resFrozen 4
    have hne := D'.ne
    have hne2 := hne.symm
    go_wp2
    refine bodyPost_ret (v := pcV p l) (by simp [results, Try.results43, go_sem, r0, r1, r2, r3, r4]) rfl (fit_ans D' HD.out.fit _ _ _ _ _ rfl)
end Go.Proofs.Ytgaejcljabhijaa
