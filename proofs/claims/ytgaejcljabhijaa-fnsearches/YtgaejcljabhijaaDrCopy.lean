/- spec.l08Copy: the same piece, in memory of its own. -/
import Derived.Test.YtgaejcljabhijaaDrPc
import Derived.Test.YtgaejcljabhijaaDrCall
import Derived.Test.YtgaejcljabhijaaRegPost
import Derived.Test.YtgaejcljabhijaaCopyLib
import Derived.Test.YtgaejcljabhijaaBoxPc
import Derived.Deep.AppendLies
namespace Go.Proofs.Ytgaejcljabhijaa
open Go.RowKit

theorem owns_low {w : World} {b b' e s n : Nat} {v : Value} {xs : List Value} (h : w.ownsRow b e s v n xs) (hb : b' ≤ b) : w.ownsRow b' e s v n xs := by
  refine ⟨h.1, ?_⟩
  rcases h.2 with h1 | ⟨g, cap, cur, hv, hbg, hr⟩
  · exact .inl h1
  · exact .inr ⟨g, cap, cur, hv, by omega, hr⟩
theorem tmps22 (t : Array Value) (h : t.size = 22) : t = #[t.getD 0 undef, t.getD 1 undef, t.getD 2 undef, t.getD 3 undef, t.getD 4 undef, t.getD 5 undef, t.getD 6 undef, t.getD 7 undef, t.getD 8 undef, t.getD 9 undef, t.getD 10 undef, t.getD 11 undef, t.getD 12 undef, t.getD 13 undef, t.getD 14 undef, t.getD 15 undef, t.getD 16 undef, t.getD 17 undef, t.getD 18 undef, t.getD 19 undef, t.getD 20 undef, t.getD 21 undef] := by
  apply Array.ext
  · simp [h]
  · intro i h1 h2
    have hi : i < 22 := by omega
    have : i = 0 ∨ i = 1 ∨ i = 2 ∨ i = 3 ∨ i = 4 ∨ i = 5 ∨ i = 6 ∨ i = 7 ∨ i = 8 ∨ i = 9 ∨ i = 10 ∨ i = 11 ∨ i = 12 ∨ i = 13 ∨ i = 14 ∨ i = 15 ∨ i = 16 ∨ i = 17 ∨ i = 18 ∨ i = 19 ∨ i = 20 ∨ i = 21 := by omega
    rcases this with rfl | rfl | rfl | rfl | rfl | rfl | rfl | rfl | rfl | rfl | rfl | rfl | rfl | rfl | rfl | rfl | rfl | rfl | rfl | rfl | rfl | rfl <;> simp [h]
theorem ownsRow_type {w : World} {b e s n k : Nat} {v : Value} {xs : List Value} (h : w.ownsRow b e s v n xs) (hk : v.ownBlock = some k) : ∃ cur, w.heap[k]? = some (.cells cur e (0, 0)) := by
  rcases h.2 with ⟨hv, _⟩ | ⟨g, cap, cur, hv, hbg, hg, hr⟩
  · subst hv
    cases hk
  · subst hv
    cases hk
    exact ⟨cur, hg⟩
theorem apart_types {w : World} {b e s n : Nat} {v : Value} {xs : List Value} {b' e' s' n' : Nat} {v' : Value} {xs' : List Value} (h : w.ownsRow b e s v n xs) (h' : w.ownsRow b' e' s' v' n' xs') (hne : e ≠ e') : ∀ k, v.ownBlock = some k → v'.ownBlock ≠ some k := fun k hk hk' => by
  obtain ⟨cur, h1⟩ := ownsRow_type h hk
  obtain ⟨cur', h2⟩ := ownsRow_type h' hk'
  rw [h1] at h2
  cases h2
  exact hne rfl
/-- Four lists of four kinds are apart. -/
theorem own4_of {b : Nat} {w : World} {p : Pc} {l : Pl} (o1 : w.ownsRow b 69 2 (.slice l.a1 p.rules.length l.c1) p.rules.length (rowVals ruCells p.rules))
    (o2 : w.ownsRow b 110 5 (.slice l.a2 p.chunks.length l.c2) p.chunks.length (rowVals chCells p.chunks))
    (o3 : w.ownsRow b 112 3 (.slice l.a3 p.spans.length l.c3) p.spans.length (rowVals snCells p.spans))
    (o4 : w.ownsRow b 82 2 (.slice l.a4 p.ties.length l.c4) p.ties.length (rowVals tiCells p.ties)) : Own4 b w p l :=
  ⟨o1, o2, o3, o4, apart_types o1 o2 (by decide), apart_types o1 o3 (by decide), apart_types o1 o4 (by decide), apart_types o2 o3 (by decide), apart_types o2 o4 (by decide), apart_types o3 o4 (by decide)⟩
theorem Own4.base {b b' : Nat} {w : World} {p : Pc} {l : Pl} (h : Own4 b w p l) (hb : b' ≤ b) : Own4 b' w p l :=
  own4_of (owns_low h.o1 hb) (owns_low h.o2 hb) (owns_low h.o3 hb) (owns_low h.o4 hb)

/-- An empty list, just made. -/
def Empt (b e : Nat) (v : Value) (W : World) : Prop := ∃ z, v = .slice (some ⟨z, 0, none⟩) 0 0 ∧ b ≤ z ∧ W.heap[z]? = some (.cells #[] e (0, 0))
def RowOf (b e s n : Nat) (xs : List Value) (v : Value) (W : World) : Prop := ∃ a c, v = .slice a n c ∧ W.ownsRow b e s (.slice a n c) n xs
theorem Empt.grown {b e R : Nat} {v : Value} {W W' : World} (h : Empt b e v W) (hg : W.grownBy W' (some R)) (hR : R < b) : Empt b e v W' := by
  obtain ⟨z, hv, hz, hh⟩ := h
  exact ⟨z, hv, hz, by rw [hg.block z (Array.getElem?_eq_some_iff.1 hh).1 (fun e => by have := Option.some.inj e; omega)]; exact hh⟩
theorem RowOf.grown {b e s n R : Nat} {xs : List Value} {v : Value} {W W' : World} (h : RowOf b e s n xs v W) (hg : W.grownBy W' (some R)) (hR : R < b) : RowOf b e s n xs v W' := by
  obtain ⟨a, c, hv, ho⟩ := h
  exact ⟨a, c, hv, kept_ob ho hg (fun k hk e => by have := (ho.lt k e).1; cases hk; omega)⟩
/-- The copy lies in block R. -/
def CopyIn (b R : Nat) (p : Pc) (W : World) : Prop := ∃ l', BoxAt W R p l' ∧ Own4 b W p l'
theorem Own4.keptR {b R : Nat} {p : Pc} {l : Pl} {W W' : World} (h : Own4 b W p l) (hg : W.grownBy W' (some R)) (hR : R < b) : Own4 b W' p l :=
  h.kept hg (fun k hk => by
    cases hk
    exact ⟨fun e => by have := (h.o1.lt _ e).1; omega, fun e => by have := (h.o2.lt _ e).1; omega, fun e => by have := (h.o3.lt _ e).1; omega, fun e => by have := (h.o4.lt _ e).1; omega⟩)
theorem BoxAt.grown {w w' : World} {b : Nat} {p : Pc} {l : Pl} {g : Option Nat} (h : BoxAt w b p l) (hg : w.grownBy w' g) (hne : some b ≠ g) : BoxAt w' b p l :=
  ⟨Nat.lt_of_lt_of_le h.lt hg.size, by rw [hg.cell_far _ h.lt hne]; exact h.c0, by rw [hg.cell_far _ h.lt hne]; exact h.c1, by rw [hg.cell_far _ h.lt hne]; exact h.c2, by rw [hg.cell_far _ h.lt hne]; exact h.c3, by rw [hg.cell_far _ h.lt hne]; exact h.c4⟩
theorem grown_more {w w' : World} (h : w.grownBy w' none) (g : Option Nat) : w.grownBy w' g := ⟨h.os, h.tape, h.output, h.size, fun i hi _ => h.block i hi (by simp)⟩

def CopyPost (n : Nat) (p : Pc) (l : Pl) (k : Nat) (v : Value) (W : World) : Prop :=
  match k with
  | 0 => v = .pointer (some ⟨n, 0, none⟩)
  | 1 => v = .int .i64 p.indent
  | 2 => Empt (n + 2) 69 v W
  | 3 => v = .pointer (some ⟨n, 1, none⟩)
  | 4 => v = .slice l.a1 p.rules.length l.c1
  | 5 => RowOf (n + 2) 69 2 p.rules.length (rowVals ruCells p.rules) v W
  | 6 => Empt (n + 2) 110 v W
  | 7 => v = .pointer (some ⟨n, 2, none⟩)
  | 8 => v = .slice l.a2 p.chunks.length l.c2
  | 9 => RowOf (n + 2) 110 5 p.chunks.length (rowVals chCells p.chunks) v W
  | 10 => Empt (n + 2) 112 v W
  | 11 => v = .pointer (some ⟨n, 3, none⟩)
  | 12 => v = .slice l.a3 p.spans.length l.c3
  | 13 => RowOf (n + 2) 112 3 p.spans.length (rowVals snCells p.spans) v W
  | 14 => Empt (n + 2) 82 v W
  | 15 => v = .pointer (some ⟨n, 4, none⟩)
  | 16 => v = .slice l.a4 p.ties.length l.c4
  | 17 => RowOf (n + 2) 82 2 p.ties.length (rowVals tiCells p.ties) v W
  | 18 => ∃ l', v = pcV p l' ∧ Own4 (n + 2) W p l'
  | 19 => CopyIn (n + 2) (n + 1) p W
  | _ => True
/-- What holds throughout: w, its new variable for the piece (block n), the one for the answer (block n + 1). -/
structure CopyInv (w : World) (p : Pc) (l : Pl) (W : World) : Prop where
  grow : w.grownBy W none
  box : BoxAt W w.heap.size p l
  size : w.heap.size + 2 ≤ W.heap.size
  res : ∃ cs, W.heap[w.heap.size + 1]? = some (.cells cs 29 (0, 0)) ∧ cs.size = 5
structure CopyStep (w : World) (p : Pc) (W W' : World) : Prop where
  grow : W.grownBy W' (some (w.heap.size + 1))
  told : CopyIn (w.heap.size + 2) (w.heap.size + 1) p W → CopyIn (w.heap.size + 2) (w.heap.size + 1) p W'
theorem CopyInv.more {w : World} {p : Pc} {l : Pl} {W W' : World} (h : CopyInv w p l W) (hg : W.grownBy W' none) : CopyInv w p l W' ∧ CopyStep w p W W' := by
  have hs := h.size
  have hs' := hg.size
  obtain ⟨cs, hr, hcs⟩ := h.res
  refine ⟨⟨h.grow.trans hg, h.box.grown hg (by simp), by omega, cs, by rw [hg.block _ (by omega) (by simp)]; exact hr, hcs⟩, grown_more hg _, ?_⟩
  rintro ⟨l', hb, ho⟩
  exact ⟨l', hb.grown hg (by simp), ho.kept hg (fun k e => by cases e)⟩
/-- The answer's five cells are written. -/
def copied (W : World) (R : Nat) (p : Pc) (l : Pl) : World := ((((W.setCell ⟨R, 0, none⟩ (.int .i64 p.indent)).setCell ⟨R, 1, none⟩ (.slice l.a1 p.rules.length l.c1)).setCell ⟨R, 2, none⟩ (.slice l.a2 p.chunks.length l.c2)).setCell ⟨R, 3, none⟩ (.slice l.a3 p.spans.length l.c3)).setCell ⟨R, 4, none⟩ (.slice l.a4 p.ties.length l.c4)
theorem copied_grown (W : World) (R : Nat) (p : Pc) (l : Pl) : W.grownBy (copied W R p l) (some R) :=
  ((((set_grown W ⟨R, 0, none⟩ _).trans (set_grown _ ⟨R, 1, none⟩ _)).trans (set_grown _ ⟨R, 2, none⟩ _)).trans (set_grown _ ⟨R, 3, none⟩ _)).trans (set_grown _ ⟨R, 4, none⟩ _)
theorem copied_block {W : World} {R : Nat} {p : Pc} {l : Pl} {cs : Array Value} {t : Nat} (h : W.heap[R]? = some (.cells cs t (0, 0))) (hs : cs.size = 5) : (copied W R p l).heap[R]? = some (.cells (pcCells p l) t (0, 0)) := by
  have h5 := heap_setCell_same _ R 4 _ t (.slice l.a4 p.ties.length l.c4) (heap_setCell_same _ R 3 _ t (.slice l.a3 p.spans.length l.c3) (heap_setCell_same _ R 2 _ t (.slice l.a2 p.chunks.length l.c2) (heap_setCell_same _ R 1 _ t (.slice l.a1 p.rules.length l.c1) (heap_setCell_same W R 0 cs t (.int .i64 p.indent) h))))
  have key : ((((cs.setIfInBounds 0 (.int .i64 p.indent)).setIfInBounds 1 (.slice l.a1 p.rules.length l.c1)).setIfInBounds 2 (.slice l.a2 p.chunks.length l.c2)).setIfInBounds 3 (.slice l.a3 p.spans.length l.c3)).setIfInBounds 4 (.slice l.a4 p.ties.length l.c4) = pcCells p l := by
    clear h5 h
    obtain ⟨ts⟩ := cs
    match ts, hs with
    | [_, _, _, _, _], _ => simp [pcCells]
  rw [← key]
  exact h5
theorem CopyInv.copied {w : World} {p : Pc} {l : Pl} {W : World} (h : CopyInv w p l W) (l' : Pl) : CopyInv w p l (copied W (w.heap.size + 1) p l') ∧ BoxAt (copied W (w.heap.size + 1) p l') (w.heap.size + 1) p l' := by
  have hs := h.size
  obtain ⟨cs, hr, hcs⟩ := h.res
  have hb := copied_block (p := p) (l := l') hr hcs
  have hg := copied_grown W (w.heap.size + 1) p l'
  have hs' := hg.size
  refine ⟨⟨grown_row h.grow hg (fun k e => by cases e; exact .inl (by omega)), h.box.grown hg (fun e => by have := Option.some.inj e; omega), by omega, _, hb, rfl⟩, ?_⟩
  exact ⟨by omega, cell_of_row _ _ 0 _ _ _ hb, cell_of_row _ _ 1 _ _ _ hb, cell_of_row _ _ 2 _ _ _ hb, cell_of_row _ _ 3 _ _ _ hb, cell_of_row _ _ 4 _ _ _ hb⟩
theorem copyPost_stab {w : World} {p : Pc} {l : Pl} (k : Nat) (v : Value) (W W' : World) (h : CopyPost w.heap.size p l k v W) (hst : CopyStep w p W W') : CopyPost w.heap.size p l k v W' := by
  have hg := hst.grow
  unfold CopyPost at h ⊢
  split <;> first | exact h | exact Empt.grown h hg (by omega) | exact RowOf.grown h hg (by omega) | exact hst.told h | trivial | skip
  obtain ⟨l', hv, ho⟩ := h
  exact ⟨l', hv, ho.keptR hg (by omega)⟩

set_option maxHeartbeats 4000000 in
set_option maxRecDepth 20000 in
theorem copy_any (p : Pc) (l : Pl) (w : World) (hF : PcFew p) (hp : PcIn w p l) :
    Calls Try.prog 83 #[pcV p l] w fun e w' => ∃ l', e = .returned (pcV p l') ∧ Own4 w.heap.size w' p l' ∧ w.grownBy w' none := by
  show Calls _ _ #[.agg #[.int .i64 p.indent, .slice l.a1 p.rules.length l.c1, .slice l.a2 p.chunks.length l.c2, .slice l.a3 p.spans.length l.c3, .slice l.a4 p.ties.length l.c4]] _ _
  obtain ⟨i1, hi1, hz10, hz11, hz12⟩ := info_parts infoRuD
  obtain ⟨i2, hi2, hz20, hz21, hz22⟩ := info_parts infoChD
  obtain ⟨i3, hi3, hz30, hz31, hz32⟩ := info_parts infoSnD
  obtain ⟨i4, hi4, hz40, hz41, hz42⟩ := info_parts infoTiD
  go_enter Try.func83, Try.ntmps83
  go_wp2
  refine wp_region_posts (by kernel_rfl) (CopyInv w p l) (CopyStep w p) (CopyPost w.heap.size p l) ?_ (by kernel_rfl) (fun k v W W' h _ hst => copyPost_stab k v W W' h hst) ?_ ?_
  case refine_1 =>
    refine ⟨?_, ?_, by simp, ⟨noCells, ?_, rfl⟩⟩
    · exact ((World.grownBy_alloc w _ none).trans (World.grownBy_alloc _ _ none)).trans (grownBy_of_below (Below.refl _ _).drew none)
    · obtain ⟨W, hW, hX, hB, hS⟩ := boxed w p l 29
      rw [hW] at hX
      exact (hX.grown (World.grownBy_alloc _ _ none) (by simp)).grown (grownBy_of_below (Below.refl _ _).drew none) (by simp)
    · have h := heap_alloc_new (w.alloc (.cells #[.int .i64 p.indent, .slice l.a1 p.rules.length l.c1, .slice l.a2 p.chunks.length l.c2, .slice l.a3 p.spans.length l.c3, .slice l.a4 p.ties.length l.c4] 29)) (.cells noCells 29)
      rw [size_alloc1] at h
      exact h
  case refine_2 =>
    intro k o hk a W hI hsz hfix hdep K hK
    match k, hk with
    | 0, hk =>
      cases hk
      have h1 := hfix 1 (by kernel_rfl)
      refine wp_value (v := .pointer (some ⟨w.heap.size, 0, none⟩)) (w' := W) ?_ (hK _ _ (by simp) hI (hI.more (World.grownBy.refl W none)).2 rfl)
      clear hfix hdep hK hk hsz
      go_simp
    | 1, hk =>
      cases hk
      have h3 := hdep 0 _ rfl (by kernel_rfl)
      change a.tmps.getD 3 undef = _ at h3
      have hc := hI.box.c0
      refine wp_value (v := .int .i64 p.indent) (w' := W) ?_ (hK _ _ (by simp) hI (hI.more (World.grownBy.refl W none)).2 rfl)
      clear hfix hdep hK hk hsz
      go_simp
    | 2, hk =>
      cases hk
      have hm := hI.more (World.grownBy_alloc W (.cells #[] 69) none)
      refine wp_value (v := .slice (some ⟨W.heap.size, 0, none⟩) 0 0) (w' := W.alloc (.cells #[] 69)) ?_ (hK _ _ (by simp) hm.1 hm.2 ⟨_, rfl, hI.size, heap_alloc_new W _⟩)
      clear hfix hdep hK hk hsz
      go_simp
    | 3, hk =>
      cases hk
      have h1 := hfix 1 (by kernel_rfl)
      refine wp_value (v := .pointer (some ⟨w.heap.size, 1, none⟩)) (w' := W) ?_ (hK _ _ (by simp) hI (hI.more (World.grownBy.refl W none)).2 rfl)
      clear hfix hdep hK hk hsz
      go_simp
    | 4, hk =>
      cases hk
      have h3 := hdep 3 _ rfl (by kernel_rfl)
      change a.tmps.getD 6 undef = _ at h3
      have hc := hI.box.c1
      refine wp_value (v := .slice l.a1 p.rules.length l.c1) (w' := W) ?_ (hK _ _ (by simp) hI (hI.more (World.grownBy.refl W none)).2 rfl)
      clear hfix hdep hK hk hsz
      go_simp
    | 5, hk =>
      cases hk
      obtain ⟨z, hz, hzn, hzh⟩ := hdep 2 _ rfl (by kernel_rfl)
      have h7 := hdep 4 _ rfl (by kernel_rfl)
      change a.tmps.getD 5 undef = _ at hz
      change a.tmps.getD 7 undef = _ at h7
      refine wp_copy ruCells_len ruCells_one (.tmp 5) (.tmp 7) 24 (by rfl) _ i1 _ 16 Try.underlying24 hi1 hz10 hz11 hz12 rfl (by omega) W (w.heap.size + 2) z hzn hzh _ _ p.rules hz h7 (hp.rules.grown hI.grow (by simp)) hF.rules (by omega) ?_
      intro a' c' W' hown hg
      exact hK _ _ (by simp) (hI.more hg).1 (hI.more hg).2 ⟨a', c', rfl, hown⟩
    | 6, hk =>
      cases hk
      have hm := hI.more (World.grownBy_alloc W (.cells #[] 110) none)
      refine wp_value (v := .slice (some ⟨W.heap.size, 0, none⟩) 0 0) (w' := W.alloc (.cells #[] 110)) ?_ (hK _ _ (by simp) hm.1 hm.2 ⟨_, rfl, hI.size, heap_alloc_new W _⟩)
      clear hfix hdep hK hk hsz
      go_simp
    | 7, hk =>
      cases hk
      have h1 := hfix 1 (by kernel_rfl)
      refine wp_value (v := .pointer (some ⟨w.heap.size, 2, none⟩)) (w' := W) ?_ (hK _ _ (by simp) hI (hI.more (World.grownBy.refl W none)).2 rfl)
      clear hfix hdep hK hk hsz
      go_simp
    | 8, hk =>
      cases hk
      have h3 := hdep 7 _ rfl (by kernel_rfl)
      change a.tmps.getD 10 undef = _ at h3
      have hc := hI.box.c2
      refine wp_value (v := .slice l.a2 p.chunks.length l.c2) (w' := W) ?_ (hK _ _ (by simp) hI (hI.more (World.grownBy.refl W none)).2 rfl)
      clear hfix hdep hK hk hsz
      go_simp
    | 9, hk =>
      cases hk
      obtain ⟨z, hz, hzn, hzh⟩ := hdep 6 _ rfl (by kernel_rfl)
      have h7 := hdep 8 _ rfl (by kernel_rfl)
      change a.tmps.getD 9 undef = _ at hz
      change a.tmps.getD 11 undef = _ at h7
      refine wp_copy chCells_len chCells_one (.tmp 9) (.tmp 11) 25 (by rfl) _ i2 _ 48 Try.underlying25 hi2 hz20 hz21 hz22 rfl (by omega) W (w.heap.size + 2) z hzn hzh _ _ p.chunks hz h7 (hp.chunks.grown hI.grow (by simp)) hF.chunks (by omega) ?_
      intro a' c' W' hown hg
      exact hK _ _ (by simp) (hI.more hg).1 (hI.more hg).2 ⟨a', c', rfl, hown⟩
    | 10, hk =>
      cases hk
      have hm := hI.more (World.grownBy_alloc W (.cells #[] 112) none)
      refine wp_value (v := .slice (some ⟨W.heap.size, 0, none⟩) 0 0) (w' := W.alloc (.cells #[] 112)) ?_ (hK _ _ (by simp) hm.1 hm.2 ⟨_, rfl, hI.size, heap_alloc_new W _⟩)
      clear hfix hdep hK hk hsz
      go_simp
    | 11, hk =>
      cases hk
      have h1 := hfix 1 (by kernel_rfl)
      refine wp_value (v := .pointer (some ⟨w.heap.size, 3, none⟩)) (w' := W) ?_ (hK _ _ (by simp) hI (hI.more (World.grownBy.refl W none)).2 rfl)
      clear hfix hdep hK hk hsz
      go_simp
    | 12, hk =>
      cases hk
      have h3 := hdep 11 _ rfl (by kernel_rfl)
      change a.tmps.getD 14 undef = _ at h3
      have hc := hI.box.c3
      refine wp_value (v := .slice l.a3 p.spans.length l.c3) (w' := W) ?_ (hK _ _ (by simp) hI (hI.more (World.grownBy.refl W none)).2 rfl)
      clear hfix hdep hK hk hsz
      go_simp
    | 13, hk =>
      cases hk
      obtain ⟨z, hz, hzn, hzh⟩ := hdep 10 _ rfl (by kernel_rfl)
      have h7 := hdep 12 _ rfl (by kernel_rfl)
      change a.tmps.getD 13 undef = _ at hz
      change a.tmps.getD 15 undef = _ at h7
      refine wp_copy snCells_len snCells_one (.tmp 13) (.tmp 15) 26 (by rfl) _ i3 _ 24 Try.underlying26 hi3 hz30 hz31 hz32 rfl (by omega) W (w.heap.size + 2) z hzn hzh _ _ p.spans hz h7 (hp.spans.grown hI.grow (by simp)) hF.spans (by omega) ?_
      intro a' c' W' hown hg
      exact hK _ _ (by simp) (hI.more hg).1 (hI.more hg).2 ⟨a', c', rfl, hown⟩
    | 14, hk =>
      cases hk
      have hm := hI.more (World.grownBy_alloc W (.cells #[] 82) none)
      refine wp_value (v := .slice (some ⟨W.heap.size, 0, none⟩) 0 0) (w' := W.alloc (.cells #[] 82)) ?_ (hK _ _ (by simp) hm.1 hm.2 ⟨_, rfl, hI.size, heap_alloc_new W _⟩)
      clear hfix hdep hK hk hsz
      go_simp
    | 15, hk =>
      cases hk
      have h1 := hfix 1 (by kernel_rfl)
      refine wp_value (v := .pointer (some ⟨w.heap.size, 4, none⟩)) (w' := W) ?_ (hK _ _ (by simp) hI (hI.more (World.grownBy.refl W none)).2 rfl)
      clear hfix hdep hK hk hsz
      go_simp
    | 16, hk =>
      cases hk
      have h3 := hdep 15 _ rfl (by kernel_rfl)
      change a.tmps.getD 18 undef = _ at h3
      have hc := hI.box.c4
      refine wp_value (v := .slice l.a4 p.ties.length l.c4) (w' := W) ?_ (hK _ _ (by simp) hI (hI.more (World.grownBy.refl W none)).2 rfl)
      clear hfix hdep hK hk hsz
      go_simp
    | 17, hk =>
      cases hk
      obtain ⟨z, hz, hzn, hzh⟩ := hdep 14 _ rfl (by kernel_rfl)
      have h7 := hdep 16 _ rfl (by kernel_rfl)
      change a.tmps.getD 17 undef = _ at hz
      change a.tmps.getD 19 undef = _ at h7
      refine wp_copy tiCells_len tiCells_one (.tmp 17) (.tmp 19) 27 (by rfl) _ i4 _ 16 Try.underlying27 hi4 hz40 hz41 hz42 rfl (by omega) W (w.heap.size + 2) z hzn hzh _ _ p.ties hz h7 (hp.ties.grown hI.grow (by simp)) hF.ties (by omega) ?_
      intro a' c' W' hown hg
      exact hK _ _ (by simp) (hI.more hg).1 (hI.more hg).2 ⟨a', c', rfl, hown⟩
    | 18, hk =>
      cases hk
      have h4 := hdep 1 _ rfl (by kernel_rfl)
      obtain ⟨a1, c1, h8, o1⟩ := hdep 5 _ rfl (by kernel_rfl)
      obtain ⟨a2, c2, h12, o2⟩ := hdep 9 _ rfl (by kernel_rfl)
      obtain ⟨a3, c3, h16, o3⟩ := hdep 13 _ rfl (by kernel_rfl)
      obtain ⟨a4, c4, h20, o4⟩ := hdep 17 _ rfl (by kernel_rfl)
      change a.tmps.getD 4 undef = _ at h4
      change a.tmps.getD 8 undef = _ at h8
      change a.tmps.getD 12 undef = _ at h12
      change a.tmps.getD 16 undef = _ at h16
      change a.tmps.getD 20 undef = _ at h20
      rw [Array.getD_eq_getD_getElem?] at h4 h8 h12 h16 h20
      refine wp_value (v := pcV p ⟨a1, c1, a2, c2, a3, c3, a4, c4⟩) (w' := W) ?_ (hK _ _ (by simp) hI (hI.more (World.grownBy.refl W none)).2 ⟨⟨a1, c1, a2, c2, a3, c3, a4, c4⟩, rfl, own4_of o1 o2 o3 o4⟩)
      clear hfix hdep hK hk hsz
      go_simp
    | 19, hk =>
      cases hk
      have h2 := hfix 2 (by kernel_rfl)
      obtain ⟨l', h21, ho⟩ := hdep 18 _ rfl (by kernel_rfl)
      change a.tmps.getD 21 undef = _ at h21
      rw [Array.getD_eq_getD_getElem?] at h2 h21
      have hgr : W.grownBy (copied W (w.heap.size + 1) p l') (some (w.heap.size + 1)) := copied_grown _ _ _ _
      have hin := hI.copied l'
      refine wp_skip (w' := copied W (w.heap.size + 1) p l') ?_ (hK _ _ (fun _ => rfl) hin.1 ⟨hgr, fun _ => ⟨l', hin.2, ho.keptR hgr (by omega)⟩⟩ ⟨l', hin.2, ho.keptR hgr (by omega)⟩)
      obtain ⟨cs, hr, hcs⟩ := hI.res
      clear hfix hdep hK hk hsz hgr hin
      unfold copied
      have r0 := cell_of_row W _ 0 _ _ _ hr
      have r1 := cell_of_row W _ 1 _ _ _ hr
      have r2 := cell_of_row W _ 2 _ _ _ hr
      have r3 := cell_of_row W _ 3 _ _ _ hr
      have r4 := cell_of_row W _ 4 _ _ _ hr
      have rf0 := frozen_of_row W _ 0 _ _ hr
      have rf1 := frozen_of_row W _ 1 _ _ hr
      have rf2 := frozen_of_row W _ 2 _ _ hr
      have rf3 := frozen_of_row W _ 3 _ _ hr
      have rf4 := frozen_of_row W _ 4 _ _ hr
      rw [Array.getElem?_eq_getElem (by omega)] at r0 r1 r2 r3 r4
      simp only at h2
      clear hr
      go_simp
    | k + 20, hk => exact absurd (Array.getElem?_eq_some_iff.1 hk).1 (by simp)
  case refine_3 =>
    intro a W hI hd hsz hfix hpost
    have h2 := hfix 2 (by kernel_rfl)
    obtain ⟨l', hb, ho⟩ := hpost 19 _ rfl
    have hgr := hI.grow
    have hd' : a.defers = [] := hd
    have ht := tmps22 a.tmps hsz
    obtain ⟨ts, ds⟩ := a
    dsimp only at ht hd' h2
    subst hd'
    rw [h2] at ht
    clear hpost hfix hsz hd h2
    rw [ht]
    have c0 := hb.c0
    have c1 := hb.c1
    have c2 := hb.c2
    have c3 := hb.c3
    have c4 := hb.c4
    go_wp2
    refine bodyPost_ret (v := pcV p l') (by simp [results, Try.results83, go_sem, c0, c1, c2, c3, c4]) rfl ⟨l', rfl, ho.base (by omega), hgr⟩
end Go.Proofs.Ytgaejcljabhijaa
