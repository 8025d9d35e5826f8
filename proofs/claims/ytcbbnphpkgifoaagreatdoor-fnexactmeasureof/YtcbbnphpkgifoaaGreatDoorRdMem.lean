/- The program's reader in memory: its block, the signs, the nodes; what stays when it goes on. -/
import Derived.Test.YtcbbnphpkgifoaaGreatDoorRdLib
import Derived.Test.YtcbbnphpkgifoaaGreatDoorKaf
import Derived.Laws.Rows
namespace Go.Proofs.YtcbbnphpkgifoaaGreatDoor
open Go.RowKit
abbrev tNode : Nat := 59
abbrev tRd : Nat := 162
abbrev tSp : Nat := 99
abbrev tSg : Nat := 105
abbrev tI : Nat := 3
structure Fr (B : Nat) (w w' : World) : Prop where
 bel : Below B w w'
 keep : ∀ (k : Nat) (cs : Array Value) (T : TypeId) (z : Nat × Nat), w.heap[k]? = some (.cells cs T z) → T ≠ tNode → T ≠ tRd → T ≠ tSp → w'.heap[k]? = some (.cells cs T z)
section
variable {B : Nat} {w w' w1 w2 : World}
theorem Fr.refl (B : Nat) (w : World) : Fr B w w := ⟨Below.refl _ _, fun _ _ _ _ h _ _ _ => h⟩
theorem Fr.trans (h1 : Fr B w w1) (h2 : Fr B w1 w2) : Fr B w w2 := ⟨h1.bel.trans h2.bel, fun k cs T z h a b c => h2.keep k cs T z (h1.keep k cs T z h a b c) a b c⟩
theorem Fr.ofB (h : Below w.heap.size w w') (hB : B ≤ w.heap.size) : Fr B w w' := ⟨h.mono hB, fun k _ _ _ e _ _ _ => (h.block k (Array.getElem?_eq_some_iff.1 e).1).trans e⟩
theorem Fr.size (h : Fr B w w') : w.heap.size ≤ w'.heap.size := h.bel.size
theorem Fr.own (h : Fr B w w') {b e s n : Nat} {v : Value} {l : List Value} (ho : w.ownsRow b e s v n l) (h1 : e ≠ tNode) (h2 : e ≠ tRd) (h3 : e ≠ tSp) : w'.ownsRow b e s v n l := by
 refine ⟨ho.1, ?_⟩
 rcases ho.2 with hn | ⟨g, cap, cur, e1, e2, e3, rest⟩
 ·exact .inl hn
 ·exact .inr ⟨g, cap, cur, e1, e2, h.keep g cur e (0, 0) e3 h1 h2 h3, rest⟩
theorem Fr.ints (h : Fr B w w') {b n : Nat} {v : Value} {l : List Value} (ho : w.ownsRow b tI 1 v n l) : w'.ownsRow b tI 1 v n l := h.own ho (by decide) (by decide) (by decide)
theorem Fr.set {g : Nat} {cs : Array Value} {T : Nat} (hg : w.heap[g]? = some (.cells cs T (0, 0))) (hT : T = tNode ∨ T = tRd ∨ T = tSp) (hB : B ≤ g) (o : Nat) (v : Value) : Fr B w (w.setCell ⟨g, o, none⟩ v) := by
 refine ⟨(Below.refl B w).setCell hB _, fun k cs' T' z h a b c => ?_⟩
 rw [heap_setCell_other w ⟨g, o, none⟩ k v ?_]
 ·exact h
 ·intro e
  rw [show k = g from e, hg] at h
  injection h with h
  injection h with _ h _
  subst h
  rcases hT with h | h | h
  ·exact a h
  ·exact b h
  ·exact c h
theorem Fr.grow {b s n : Nat} {v : Value} {l : List Value} (ho : w.ownsRow b tNode s v n l) (hg : w.grownBy w' v.ownBlock) (hB : B ≤ w.heap.size) (hb : B ≤ b) : Fr B w w' := by
 refine ⟨⟨hg.os, hg.tape, hg.output, hg.size, fun k hk => hg.block k (by omega) (fun e => ?_)⟩, fun k cs T z h a _ _ => ?_⟩
 ·have := (ho.lt k e.symm).1
  omega
 ·rw [hg.block k (Array.getElem?_eq_some_iff.1 h).1 (fun e => ?_)]
  ·exact h
  ·rcases ho.2 with ⟨rfl, _⟩ | ⟨g, cap, cur, rfl, _, e3, _⟩
   ·cases e
   ·have : k = g := by injection e
    subst this
    rw [e3] at h
    injection h with h
    injection h with _ h _
    exact a h.symm
end
structure RdW (B g : Nat) (xs : List Sg) (A : Nat → Prop) (w : World) (s : Ps) : Prop where
 low : B ≤ g
 pos : s.p ≤ xs.length
 few : s.ns.length ≤ 300
 mem : ∃ sa sc na nc qs en, w.heap[g]? = some (.cells #[.slice sa (xs.length + 1) sc, .int .i64 s.p, .int .i64 s.d, .slice na s.ns.length nc] tRd (0, 0)) ∧ w.ownsRow B tSg 4 (.slice sa (xs.length + 1) sc) (xs.length + 1) (sgVals (xs ++ [en])) ∧ Nds w B na nc qs ∧ qs.map Np.nd = s.ns ∧ en.text = ByteArray.empty ∧ en.kind = 0 ∧ en.blank = false ∧ ∀ q ∈ qs, ∀ b, (Value.slice q.a q.nd.kids.length q.c).ownBlock = some b → ¬ A b
structure Rd (B g : Nat) (xs : List Sg) (A : Nat → Prop) (w : World) (s : Ps) : Prop extends RdW B g xs A w s where
 deep : s.d ≤ 20
section
variable {B g : Nat} {xs : List Sg} {A : Nat → Prop} {w w' : World} {s : Ps}
theorem RdW.lt (h : RdW B g xs A w s) : g < w.heap.size := by
 obtain ⟨sa, sc, na, nc, qs, en, h1, -⟩ := h.mem
 exact (Array.getElem?_eq_some_iff.1 h1).1
theorem RdW.base (h : RdW B g xs A w s) : B ≤ w.heap.size := by
 have := h.lt
 have := h.low
 omega
theorem RdW.kept (h : RdW B g xs A w s) (hb : Below w.heap.size w w') : RdW B g xs A w' s := by
 obtain ⟨sa, sc, na, nc, qs, en, h1, h2, h3, h4⟩ := h.mem
 exact ⟨h.low, h.pos, h.few, sa, sc, na, nc, qs, en, (hb.block g h.lt).trans h1, owns_below h2 hb, h3.below hb, h4⟩
theorem Rd.below (h : Rd B g xs A w s) (hb : Below w.heap.size w w') : Rd B g xs A w' s := ⟨h.toRdW.kept hb, h.deep⟩
theorem Rd.drew (h : Rd B g xs A w s) : Rd B g xs A w.drew s := h.below (below_drewN w 1)
theorem RdW.cells (h : RdW B g xs A w s) : ∃ sa sc na nc, w.cell? ⟨g, 0, none⟩ = some (.slice sa (xs.length + 1) sc) ∧ w.cell? ⟨g, 1, none⟩ = some (.int .i64 s.p) ∧ w.cell? ⟨g, 2, none⟩ = some (.int .i64 s.d) ∧ w.cell? ⟨g, 3, none⟩ = some (.slice na s.ns.length nc) ∧ (∀ o, w.frozen? ⟨g, o, none⟩ = false) := by
 obtain ⟨sa, sc, na, nc, qs, en, h1, -⟩ := h.mem
 exact ⟨sa, sc, na, nc, cell_of_row w g 0 _ _ _ h1, cell_of_row w g 1 _ _ _ h1, cell_of_row w g 2 _ _ _ h1, cell_of_row w g 3 _ _ _ h1, fun o => frozen_of_row w g o _ _ h1⟩
theorem sg_at (xs : List Sg) (en : Sg) (h1 : en.text = ByteArray.empty) (h2 : en.kind = 0) (h3 : en.blank = false) (p : Nat) (hp : p ≤ xs.length) : ∃ x, (xs ++ [en])[p]? = some x ∧ x.text = txt xs p ∧ x.kind = knd xs p ∧ x.blank = blk xs p := by
 rcases Nat.lt_or_ge p xs.length with h | h
 ·refine ⟨xs[p], by rw [List.getElem?_append_left h, List.getElem?_eq_getElem h], ?_, ?_, ?_⟩
  ·unfold txt; rw [List.getElem?_eq_getElem h]
  ·unfold knd; rw [List.getElem?_eq_getElem h]
  ·unfold blk; rw [List.getElem?_eq_getElem h]
 ·have : p = xs.length := by omega
  subst this
  refine ⟨en, by simp, ?_, ?_, ?_⟩
  ·rw [txt_past (Nat.le_refl _)]; exact h1
  ·rw [knd_past (Nat.le_refl _)]; exact h2
  ·unfold blk; rw [List.getElem?_eq_none (Nat.le_refl _)]; exact h3
theorem RdW.sign (h : RdW B g xs A w s) (p : Nat) (hp : p ≤ xs.length) : ∃ b sc pl, b < w.heap.size ∧ w.cell? ⟨g, 0, none⟩ = some (.slice (some ⟨b, 0, none⟩) (xs.length + 1) sc) ∧ w.cell? ⟨g, 1, none⟩ = some (.int .i64 s.p) ∧ w.cell? ⟨b, p * 4, none⟩ = some (.int .i64 (knd xs p)) ∧ w.cell? ⟨b, p * 4 + 1, none⟩ = some (.string (txt xs p)) ∧ w.cell? ⟨b, p * 4 + 2, none⟩ = some (.int .i64 pl) ∧ w.cell? ⟨b, p * 4 + 3, none⟩ = some (.bool (blk xs p)) := by
 obtain ⟨sa, sc, na, nc, qs, en, h1, h2, -, -, e1, e2, e3, -⟩ := h.mem
 obtain ⟨x, hx, x1, x2, x3⟩ := sg_at xs en e1 e2 e3 p hp
 obtain ⟨b, rfl⟩ := owns_at h2 (by omega)
 have hc := fun j (hj : j < 4) => (h2.cellAt (p * 4 + j) (by omega)).trans (sgVals_at (xs ++ [en]) p x hx j hj)
 refine ⟨b, sc, x.place, (h2.lt b rfl).2, cell_of_row w g 0 _ _ _ h1, cell_of_row w g 1 _ _ _ h1, ?_, ?_, ?_, ?_⟩
 ·rw [← x2]; exact hc 0 (by omega)
 ·rw [← x1]; exact hc 1 (by omega)
 ·exact hc 2 (by omega)
 ·rw [← x3]; exact hc 3 (by omega)
theorem Rd.setP (h : Rd B g xs A w s) (p : Nat) (hp : p ≤ xs.length) : Rd B g xs A (w.setCell ⟨g, 1, none⟩ (.int .i64 p)) ⟨p, s.d, s.ns⟩ ∧ Fr B w (w.setCell ⟨g, 1, none⟩ (.int .i64 p)) := by
 obtain ⟨sa, sc, na, nc, qs, en, h1, h2, h3, h4⟩ := h.mem
 have hF : Fr B w (w.setCell ⟨g, 1, none⟩ (.int .i64 p)) := Fr.set h1 (.inr (.inl rfl)) h.low 1 _
 have hgr : w.grownBy (w.setCell ⟨g, 1, none⟩ (.int .i64 p)) (some g) := ⟨rfl, rfl, rfl, by simp, fun k _ hk => heap_setCell_other w _ k _ (fun e => hk (by rw [e]))⟩
 refine ⟨⟨⟨h.low, hp, h.few, sa, sc, na, nc, qs, en, ?_, hF.own h2 (by decide) (by decide) (by decide), ⟨h3.row.kept hgr ?_, fun q hq => hF.ints (h3.each q hq)⟩, h4⟩, h.deep⟩, hF⟩
 ·rw [heap_setCell_same w g 1 _ _ _ h1]
  rfl
 ·rcases h3.row.2 with ⟨e, _⟩ | ⟨k, cap, cur, e, _, e3, _⟩
  ·rw [e]; exact .inl rfl
  ·right
   rw [e]
   intro e'
   have : k = g := by injection e'
   subst this
   rw [h1] at e3
   injection e3 with e3
   injection e3 with _ e3 _
   exact absurd e3 (by decide)
theorem RdW.setW (h : RdW B g xs A w s) (d : Nat) : RdW B g xs A (w.setCell ⟨g, 2, none⟩ (.int .i64 d)) ⟨s.p, d, s.ns⟩ ∧ Fr B w (w.setCell ⟨g, 2, none⟩ (.int .i64 d)) := by
 obtain ⟨sa, sc, na, nc, qs, en, h1, h2, h3, h4⟩ := h.mem
 have hF : Fr B w (w.setCell ⟨g, 2, none⟩ (.int .i64 d)) := Fr.set h1 (.inr (.inl rfl)) h.low 2 _
 have hgr : w.grownBy (w.setCell ⟨g, 2, none⟩ (.int .i64 d)) (some g) := ⟨rfl, rfl, rfl, by simp, fun k _ hk => heap_setCell_other w _ k _ (fun e => hk (by rw [e]))⟩
 refine ⟨⟨h.low, h.pos, h.few, sa, sc, na, nc, qs, en, ?_, hF.own h2 (by decide) (by decide) (by decide), ⟨h3.row.kept hgr ?_, fun q hq => hF.ints (h3.each q hq)⟩, h4⟩, hF⟩
 ·rw [heap_setCell_same w g 2 _ _ _ h1]
  rfl
 ·rcases h3.row.2 with ⟨e, _⟩ | ⟨k, cap, cur, e, _, e3, _⟩
  ·rw [e]; exact .inl rfl
  ·right
   rw [e]
   intro e'
   have : k = g := by injection e'
   subst this
   rw [h1] at e3
   injection e3 with e3
   injection e3 with _ e3 _
   exact absurd e3 (by decide)
theorem Rd.setD (h : Rd B g xs A w s) (d : Nat) (hd : d ≤ 20) : Rd B g xs A (w.setCell ⟨g, 2, none⟩ (.int .i64 d)) ⟨s.p, d, s.ns⟩ ∧ Fr B w (w.setCell ⟨g, 2, none⟩ (.int .i64 d)) := ⟨⟨(h.toRdW.setW d).1, hd⟩, (h.toRdW.setW d).2⟩
theorem gkeep {w2 : World} {cs : Array Value} {na : Option Addr} {nc n m : Nat} {l : List Value} (h1 : w.heap[g]? = some (.cells cs tRd (0, 0))) (h3 : w.ownsRow B tNode 4 (.slice na n nc) m l) (hg : w.grownBy w2 (Value.slice na n nc).ownBlock) : w2.heap[g]? = some (.cells cs tRd (0, 0)) := by
 rw [hg.block g (Array.getElem?_eq_some_iff.1 h1).1 (fun e => ?_)]
 ·exact h1
 ·rcases h3.2 with ⟨e', _⟩ | ⟨k, cap, cur, e', _, e3', _⟩
  ·rw [e'] at e; cases e
  ·rw [e'] at e
   have : g = k := by injection e
   subst this
   rw [h1] at e3'
   injection e3' with e3'
   injection e3' with _ e3' _
   exact absurd e3' (by decide)
theorem Rd.added {w2 : World} {sa na : Option Addr} {sc nc : Nat} {qs : List Np} {en : Sg} (h : Rd B g xs A w s) (h1 : w.heap[g]? = some (.cells #[.slice sa (xs.length + 1) sc, .int .i64 s.p, .int .i64 s.d, .slice na s.ns.length nc] tRd (0, 0))) (h2 : w.ownsRow B tSg 4 (.slice sa (xs.length + 1) sc) (xs.length + 1) (sgVals (xs ++ [en]))) (h3 : Nds w B na nc qs) (h4 : qs.map Np.nd = s.ns) (e1 : en.text = ByteArray.empty) (e2 : en.kind = 0) (e3 : en.blank = false) (e4 : ∀ q ∈ qs, ∀ b, (Value.slice q.a q.nd.kids.length q.c).ownBlock = some b → ¬ A b)
  (q : Np) (hq : ∀ b, (Value.slice q.a q.nd.kids.length q.c).ownBlock = some b → ¬ A b) (ho : w.ownsRow B tI 1 (.slice q.a q.nd.kids.length q.c) q.nd.kids.length (intVals q.nd.kids)) (hn : s.ns.length ≠ 300) {na' : Option Addr} {nc' : Nat} (hg : w.grownBy w2 (Value.slice na qs.length nc).ownBlock) (hw : w2.ownsRow B tNode 4 (.slice na' (s.ns.length + 1) nc') (s.ns.length + 1) (rowVals npCells qs ++ npCells q)) :
  Rd B g xs A (w2.setCell ⟨g, 3, none⟩ (.slice na' (s.ns.length + 1) nc')) ⟨s.p, s.d, s.ns ++ [q.nd]⟩ ∧ Fr B w (w2.setCell ⟨g, 3, none⟩ (.slice na' (s.ns.length + 1) nc')) := by
 have hl : qs.length = s.ns.length := by rw [← h4]; simp
 have hF1 : Fr B w w2 := Fr.grow h3.row hg h.base (Nat.le_refl _)
 have hb2 : w2.heap[g]? = some (.cells #[.slice sa (xs.length + 1) sc, .int .i64 s.p, .int .i64 s.d, .slice na s.ns.length nc] tRd (0, 0)) := by
  rw [hg.block g h.lt (fun e => ?_)]
  ·exact h1
  ·rcases h3.row.2 with ⟨e', _⟩ | ⟨k, cap, cur, e', _, e3', _⟩
   ·rw [e'] at e; cases e
   ·rw [e'] at e
    have : g = k := by injection e
    subst this
    rw [h1] at e3'
    injection e3' with e3'
    injection e3' with _ e3' _
    exact absurd e3' (by decide)
 have hF2 : Fr B w2 (w2.setCell ⟨g, 3, none⟩ (.slice na' (s.ns.length + 1) nc')) := Fr.set hb2 (.inr (.inl rfl)) h.low 3 _
 have hF := hF1.trans hF2
 have hgr : w2.grownBy (w2.setCell ⟨g, 3, none⟩ (.slice na' (s.ns.length + 1) nc')) (some g) := ⟨rfl, rfl, rfl, by simp, fun k _ hk => heap_setCell_other w2 _ k _ (fun e => hk (by rw [e]))⟩
 refine ⟨⟨⟨h.low, h.pos, ?_, sa, sc, na', nc', qs ++ [q], en, ?_, hF.own h2 (by decide) (by decide) (by decide), ⟨?_, fun r hr => ?_⟩, by simp [h4], e1, e2, e3, fun r hr => ?_⟩, h.deep⟩, hF⟩
 ·have := h.few
  simp
  omega
 ·rw [heap_setCell_same w2 g 3 _ _ _ hb2, List.length_append]
  rfl
 ·rw [List.length_append, rowVals_app, rowVals_one, hl]
  refine hw.kept hgr ?_
  rcases hw.2 with ⟨e', _⟩ | ⟨k, cap, cur, e', _, e3', _⟩
  ·rw [e']; exact .inl rfl
  ·right
   rw [e']
   intro e
   have : k = g := by injection e
   subst this
   rw [hb2] at e3'
   injection e3' with e3'
   injection e3' with _ e3' _
   exact absurd e3' (by decide)
 ·rcases List.mem_append.1 hr with hr | hr
  ·exact hF.ints (h3.each r hr)
  ·have : r = q := by simpa using hr
   subst this
   exact hF.ints ho
 ·rcases List.mem_append.1 hr with hr | hr
  ·exact e4 r hr
  ·have : r = q := by simpa using hr
   subst this
   exact hq
end
theorem Fr.growI {B : Nat} {w w1 w2 : World} {v : Value} (h : Fr B w w1) (hB : B ≤ w.heap.size) (hg : w1.grownBy w2 v.ownBlock) (hv : ∀ b, v.ownBlock = some b → w.heap.size ≤ b) : Fr B w w2 := by
 have hs := h.size
 refine ⟨h.bel.trans ⟨hg.os, hg.tape, hg.output, hg.size, fun k hk => hg.block k (by omega) (fun e => ?_)⟩, fun k cs T z hk a b c => ?_⟩
 ·have := hv k e.symm
  omega
 ·have h1 := h.keep k cs T z hk a b c
  rw [hg.block k (Array.getElem?_eq_some_iff.1 h1).1 (fun e => ?_)]
  ·exact h1
  ·have := hv k e.symm
   have := (Array.getElem?_eq_some_iff.1 hk).1
   omega
theorem Rd.growI {B g b n : Nat} {xs : List Sg} {A A' : Nat → Prop} {w w2 : World} {s : Ps} {v : Value} {l : List Value} (h : Rd B g xs A w s) (ho : w.ownsRow b tI 1 v n l) (hg : w.grownBy w2 v.ownBlock) (hv : ∀ k, v.ownBlock = some k → A k) (hA : ∀ k, A' k → A k ∨ w.heap.size ≤ k) : Rd B g xs A' w2 s := by
 obtain ⟨sa, sc, na, nc, qs, en, h1, h2, h3, h4, e1, e2, e3, e4⟩ := h.mem
 refine ⟨⟨h.low, h.pos, h.few, sa, sc, na, nc, qs, en, ?_, h2.kept hg ?_, ⟨h3.row.kept hg ?_, fun q hq => (h3.each q hq).kept hg ?_⟩, h4, e1, e2, e3, fun q hq k hk hk' => ?_⟩, h.deep⟩
 ·rw [hg.block g h.lt (fun e => ?_)]
  ·exact h1
  ·rcases ho.2 with ⟨rfl, _⟩ | ⟨k, cap, cur, rfl, _, e3', _⟩
   ·cases e
   ·have : g = k := by injection e
    subst this
    rw [h1] at e3'
    injection e3' with e3'
    injection e3' with _ e3' _
    exact absurd e3' (by decide)
 ·exact types_apart h2 ho (by decide)
 ·exact types_apart h3.row ho (by decide)
 ·cases hb : (Value.slice q.a q.nd.kids.length q.c).ownBlock with
  | none => exact .inl rfl
  | some k =>
   right
   intro e
   exact e4 q hq k hb (hv k e.symm)
 ·rcases hA k hk' with h5 | h5
  ·exact e4 q hq k hk h5
  ·have := ((h3.each q hq).lt k hk).2
   omega
theorem Rd.avoid {B g : Nat} {xs : List Sg} {A A' : Nat → Prop} {w : World} {s : Ps} (h : Rd B g xs A w s) (hA : ∀ k, A' k → A k ∨ w.heap.size ≤ k) : Rd B g xs A' w s := by
 obtain ⟨sa, sc, na, nc, qs, en, h1, h2, h3, h4, e1, e2, e3, e4⟩ := h.mem
 refine ⟨⟨h.low, h.pos, h.few, sa, sc, na, nc, qs, en, h1, h2, h3, h4, e1, e2, e3, fun q hq k hk hk' => ?_⟩, h.deep⟩
 rcases hA k hk' with h5 | h5
 ·exact e4 q hq k hk h5
 ·have := ((h3.each q hq).lt k hk).2
  omega
theorem npVals_set : ∀ (qs : List Np) (k : Nat) (q : Np) (b : Bool), qs[k]? = some q → (rowVals npCells qs).set (k * 4 + 3) (.bool b) = rowVals npCells (qs.set k ⟨⟨q.nd.kind, q.nd.text, q.nd.kids, b⟩, q.a, q.c⟩)
 | [], k, q, b, h => by simp at h
 | p :: qs, 0, q, b, h => by
  have e : p = q := by simpa using h
  subst e
  rfl
 | p :: qs, k + 1, q, b, h => by
  have ih := npVals_set qs k q b (by simpa using h)
  show (npCells p ++ rowVals npCells qs).set ((k + 1) * 4 + 3) _ = npCells p ++ rowVals npCells (qs.set k _)
  rw [← ih, show (k + 1) * 4 + 3 = k * 4 + 3 + 4 by omega]
  rfl
theorem Rd.blank {B g : Nat} {xs : List Sg} {A : Nat → Prop} {w : World} {s : Ps} (h : Rd B g xs A w s) (k : Nat) (hk : k < s.ns.length) : ∃ nb nc b0, nb < w.heap.size ∧ w.cell? ⟨g, 3, none⟩ = some (.slice (some ⟨nb, 0, none⟩) s.ns.length nc) ∧ w.cell? ⟨nb, k * 4 + 3, none⟩ = some (.bool b0) ∧ w.frozen? ⟨nb, k * 4 + 3, none⟩ = false ∧ ∀ b, Rd B g xs A (w.setCell ⟨nb, k * 4 + 3, none⟩ (.bool b)) (setBl s k b) ∧ Fr B w (w.setCell ⟨nb, k * 4 + 3, none⟩ (.bool b)) := by
 obtain ⟨sa, sc, na, nc, qs, en, h1, h2, h3, h4, e1, e2, e3, e4⟩ := h.mem
 have hl : qs.length = s.ns.length := by rw [← h4]; simp
 have hrow := h3.row
 obtain ⟨nb, rfl⟩ := owns_at hrow (by omega)
 obtain ⟨q, hq⟩ : ∃ q, qs[k]? = some q := ⟨_, List.getElem?_eq_getElem (by omega)⟩
 have hnb := hrow.lt nb rfl
 have hc3 : w.cell? ⟨nb, k * 4 + 3, none⟩ = some (.bool q.nd.blank) := (hrow.cellAt (k * 4 + 3) (by omega)).trans (rowVals_at npCells_len qs k q hq 3 (by omega))
 refine ⟨nb, nc, q.nd.blank, hnb.2, cell_of_row w g 3 _ _ _ h1, hc3, hrow.frozenAt _, fun b => ?_⟩
 have st := hrow.stored (k * 4 + 3) (.bool b)
 rw [npVals_set qs k q b hq] at st
 have hns : s.ns[k]? = some q.nd := by rw [← h4, List.getElem?_map, hq]; rfl
 have hF : Fr B w (w.setCell ⟨nb, k * 4 + 3, none⟩ (.bool b)) := by
  rcases hrow.2 with ⟨e', _⟩ | ⟨k', cap, cur, e', _, e3', _⟩
  ·cases e'
  ·have : nb = k' := by injection e' with e' _ _; injection e' with e'; injection e'
   subst this
   exact Fr.set e3' (.inl rfl) hnb.1 _ _
 have hbn : g ≠ nb := by
  rintro rfl
  rcases hrow.2 with ⟨e', _⟩ | ⟨k', cap, cur, e', _, e3', _⟩
  ·cases e'
  ·have : g = k' := by injection e' with e' _ _; injection e' with e'; injection e'
   subst this
   rw [h1] at e3'
   injection e3' with e3'
   injection e3' with _ e3' _
   exact absurd e3' (by decide)
 have hsl : (setBl s k b).ns.length = s.ns.length := by
  unfold setBl
  rw [hns]
  simp
 refine ⟨⟨⟨h.low, h.pos, ?_, sa, sc, some ⟨nb, 0, none⟩, nc, qs.set k ⟨⟨q.nd.kind, q.nd.text, q.nd.kids, b⟩, q.a, q.c⟩, en, ?_, hF.own h2 (by decide) (by decide) (by decide), ⟨?_, fun r hr => ?_⟩, ?_, e1, e2, e3, fun r hr => ?_⟩, h.deep⟩, hF⟩
 ·rw [hsl]; exact h.few
 ·rw [heap_setCell_other w _ g _ hbn, hsl]
  exact h1
 ·rw [List.length_set]
  exact st.1
 ·rcases List.mem_or_eq_of_mem_set hr with hr | rfl
  ·exact hF.ints (h3.each r hr)
  ·exact hF.ints (h3.each q (List.mem_of_getElem? hq))
 ·show (qs.set k _).map Np.nd = (match s.ns[k]? with | some x => s.ns.set k ⟨x.kind, x.text, x.kids, b⟩ | none => s.ns)
  rw [hns, List.map_set, h4]
 ·rcases List.mem_or_eq_of_mem_set hr with hr | rfl
  ·exact e4 r hr
  ·exact e4 q (List.mem_of_getElem? hq)
def Flt (e : Ending) : Prop := ∃ pl : Int, e = .panicked [{ v := .iface 158 (.agg #[.int .i64 pl]), recovered := false }]
def PostR {α : Type} (B g : Nat) (xs : List Sg) (A : Nat → Prop) (w : World) (V : α → Ps → Ending → World → Prop) (o : Option (α × Ps)) (e : Ending) (w' : World) : Prop :=
 match o with
 | none => Fr B w w' ∧ Flt e
 | some (a, s) => V a s e w' ∧ Rd B g xs A w' s ∧ Fr B w w'
abbrev VN : Nat → Ps → Ending → World → Prop := fun k s e _ => e = .returned (.int .i64 k) ∧ k < s.ns.length
abbrev VU : Unit → Ps → Ending → World → Prop := fun _ _ e _ => e = .returned (.tuple #[])
abbrev VT : ByteArray → Ps → Ending → World → Prop := fun t _ e _ => e = .returned (.string t)
def And1 (A : Nat → Prop) (v : Value) : Nat → Prop := fun b => A b ∨ v.ownBlock = some b
theorem And1.lt {A : Nat → Prop} {w W : World} {v : Value} {b e s n : Nat} {l : List Value} (hA : ∀ k, A k → k < w.heap.size) (hs : w.heap.size ≤ W.heap.size) (ho : W.ownsRow b e s v n l) : ∀ k, And1 A v k → k < W.heap.size := fun k hk => by
 rcases hk with h | h
 ·have := hA k h
  omega
 ·exact (ho.lt k h).2
abbrev VL (B g : Nat) (xs : List Sg) (A : Nat → Prop) (n : Nat) : List Int → Ps → Ending → World → Prop := fun ks s e w' => ∃ a c, e = .returned (.slice a ks.length c) ∧ w'.ownsRow n tI 1 (.slice a ks.length c) ks.length (intVals ks) ∧ Rd B g xs (And1 A (.slice a ks.length c)) w' s ∧ ks.length ≤ 3001
theorem bnd_some {α β : Type} {x : Rs α} {f : α → Ps → Rs β} {o : Option (β × Ps)} (h : bnd x f = some o) : (x = some none ∧ o = none) ∨ ∃ a s, x = some (some (a, s)) ∧ f a s = some o := by
 match x, h with
 | none, h => cases h
 | some none, h => left; exact ⟨rfl, by injection h with h; exact h.symm⟩
 | some (some (a, s)), h => exact .inr ⟨a, s, rfl, h⟩
def Reads (B g : Nat) (xs : List Sg) (K : Nat) (O : Ps → Rs Nat) : Prop := ∀ (A : Nat → Prop) (W : World) (s : Ps) (o : Option (Nat × Ps)), (∀ b, A b → b < W.heap.size) → Rd B g xs A W s → O s = some o → Calls Tryz.prog K #[.pointer (some ⟨g, 0, none⟩)] W (PostR B g xs A W VN o)
theorem PostR.into {α : Type} {B g : Nat} {xs : List Sg} {A : Nat → Prop} {w w1 w' : World} {V : α → Ps → Ending → World → Prop} {o : Option (α × Ps)} {e : Ending} (h : PostR B g xs A w1 V o e w') (hF : Fr B w w1) : PostR B g xs A w V o e w' := by
 match o, h with
 | none, h => exact ⟨hF.trans h.1, h.2⟩
 | some (_, _), h => exact ⟨h.1, h.2.1, hF.trans h.2.2⟩
end Go.Proofs.YtcbbnphpkgifoaaGreatDoor
