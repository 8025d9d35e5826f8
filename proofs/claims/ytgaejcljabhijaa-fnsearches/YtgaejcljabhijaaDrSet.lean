/- A piece that is being drawn: its indent, one of its rules or chunks, or all its rules are others. -/
import Derived.Test.YtgaejcljabhijaaDrApp
import Derived.Test.YtgaejcljabhijaaDrCopy
namespace Go.Proofs.Ytgaejcljabhijaa
open Go.RowKit

theorem rowVals_set {α : Type} {cells : α → List Value} {s : Nat} (hs : ∀ x, (cells x).length = s) : ∀ (xs : List α) (k : Nat) (x x' : α) (j : Nat) (v : Value), xs[k]? = some x → j < s → cells x' = (cells x).set j v → rowVals cells (xs.set k x') = (rowVals cells xs).set (k * s + j) v
  | [], k, x, x', j, v, h, _, _ => by simp at h
  | y :: xs, 0, x, x', j, v, h, hj, hc => by
    have e : y = x := by simpa using h
    subst e
    show cells x' ++ rowVals cells xs = (cells y ++ rowVals cells xs).set (0 * s + j) v
    rw [Nat.zero_mul, Nat.zero_add, List.set_append_left _ _ (by rw [hs]; exact hj), hc]
  | y :: xs, k + 1, x, x', j, v, h, hj, hc => by
    have ih := rowVals_set hs xs k x x' j v (by simpa using h) hj hc
    show cells y ++ rowVals cells (xs.set k x') = (cells y ++ rowVals cells xs).set ((k + 1) * s + j) v
    rw [Nat.succ_mul, List.set_append_right _ _ (by rw [hs]; omega), hs, show k * s + s + j - s = k * s + j by omega, ih]
theorem far_box {w : World} {b e s n : Nat} {v : Value} {xs : List Value} {pb : Nat} {cs : Array Value} (h : w.ownsRow b e s v n xs) (hb : w.heap[pb]? = some (.cells cs 29 (0, 0))) (hne : e ≠ 29) : v.ownBlock ≠ some pb := fun hk => by
  obtain ⟨cur, h1⟩ := ownsRow_type h hk
  rw [hb] at h1
  cases h1
  exact hne rfl

section
variable {base : Nat} {w0 : World} {blk pb R : Nat} {a : Option Addr} {len cap : Nat} {w w' : World} {p : Pc} {l : Pl}

theorem ds_of (cur : Cur base w blk a len cap) (grow : w0.grownBy w (some blk)) (box : w.heap[pb]? = some (.cells (pcCells p l) 29 (0, 0)))
    (res : w.heap[R]? = some (.cells noCells 29 (0, 0))) (old : blk < w0.heap.size) (npb : w0.heap.size ≤ pb) (nR : w0.heap.size ≤ R) (ne : pb ≠ R) (own : Own4 w0.heap.size w p l) : DS base w0 blk pb R a len cap w p l :=
  ⟨cur, grow, box, res, old, npb, nR, ne, own, fun k hk => ⟨fun e => far_box own.o1 box (by decide) (e ▸ hk), fun e => far_box own.o1 res (by decide) (e ▸ hk)⟩, fun k hk => ⟨fun e => far_box own.o2 box (by decide) (e ▸ hk), fun e => far_box own.o2 res (by decide) (e ▸ hk)⟩,
    fun k hk => ⟨fun e => far_box own.o3 box (by decide) (e ▸ hk), fun e => far_box own.o3 res (by decide) (e ▸ hk)⟩, fun k hk => ⟨fun e => far_box own.o4 box (by decide) (e ▸ hk), fun e => far_box own.o4 res (by decide) (e ▸ hk)⟩⟩
/-- Another indent. -/
theorem DS.ind (h : DS base w0 blk pb R a len cap w p l) (i : Int) : DS base w0 blk pb R a len cap (w.setCell ⟨pb, 0, none⟩ (.int .i64 i)) { p with indent := i } l := by
  have hs := set_grown w ⟨pb, 0, none⟩ (.int .i64 i)
  have hco := h.cur.own
  have hol := h.old
  have hnp := h.npb
  refine ds_of (h.cur.kept hs (fun k e => by cases e; exact ⟨by show base ≤ pb; omega, by show pb ≠ blk; omega⟩)) (grown_row h.grow hs (fun k e => by cases e; exact .inl hnp)) (heap_setCell_same w pb 0 _ _ _ h.box) ?_ hol hnp h.nR h.ne ?_
  · rw [heap_setCell_other w ⟨pb, 0, none⟩ R _ (Ne.symm h.ne)]
    exact h.res
  · have ho := h.own.kept hs (fun k e => by cases e; exact ⟨fun e => (h.f1 _ e).1 rfl, fun e => (h.f2 _ e).1 rfl, fun e => (h.f3 _ e).1 rfl, fun e => (h.f4 _ e).1 rfl⟩)
    exact own4_of ho.o1 ho.o2 ho.o3 ho.o4
/-- All its rules are others. -/
theorem DS.put1 (h : DS base w0 blk pb R a len cap w p l) {rs : List Ru} {a1 : Option Addr} {c1 : Nat} (o : w.ownsRow w0.heap.size 69 2 (.slice a1 rs.length c1) rs.length (rowVals ruCells rs)) :
    DS base w0 blk pb R a len cap (w.setCell ⟨pb, 1, none⟩ (.slice a1 rs.length c1)) { p with rules := rs } { l with a1 := a1, c1 := c1 } := by
  have hs := set_grown w ⟨pb, 1, none⟩ (.slice a1 rs.length c1)
  have hco := h.cur.own
  have hol := h.old
  have hnp := h.npb
  refine ds_of (h.cur.kept hs (fun k e => by cases e; exact ⟨by show base ≤ pb; omega, by show pb ≠ blk; omega⟩)) (grown_row h.grow hs (fun k e => by cases e; exact .inl hnp)) (heap_setCell_same w pb 1 _ _ _ h.box) ?_ hol hnp h.nR h.ne ?_
  · rw [heap_setCell_other w ⟨pb, 1, none⟩ R _ (Ne.symm h.ne)]
    exact h.res
  · have ho := h.own.kept hs (fun k e => by cases e; exact ⟨fun e => (h.f1 _ e).1 rfl, fun e => (h.f2 _ e).1 rfl, fun e => (h.f3 _ e).1 rfl, fun e => (h.f4 _ e).1 rfl⟩)
    exact own4_of (kept_ob o hs (fun k e => by cases e; exact far_box o h.box (by decide))) ho.o2 ho.o3 ho.o4
/-- One of the rules is another. -/
theorem DS.set1 (h : DS base w0 blk pb R a len cap w p l) {g k j : Nat} {x x' : Ru} {v : Value} (ha : l.a1 = some ⟨g, 0, none⟩) (hx : p.rules[k]? = some x) (hj : j < 2) (hc : ruCells x' = (ruCells x).set j v) :
    DS base w0 blk pb R a len cap (w.setCell ⟨g, k * 2 + j, none⟩ v) { p with rules := p.rules.set k x' } l := by
  have ho := h.own.o1
  have hob : ob1 p l = some g := by show (Value.slice l.a1 _ _).ownBlock = _; rw [ha]; rfl
  rw [ha] at ho
  have hst := ho.stored (k * 2 + j) v
  have hg1 := (h.f1 g hob).1
  have hg2 := (h.f1 g hob).2
  have hgl := (h.own.o1.lt g hob).1
  have hco := h.cur.own
  have hol := h.old
  refine ds_of (h.cur.kept hst.2 (fun k e => by cases e; exact ⟨by omega, by omega⟩)) (grown_row h.grow hst.2 (fun k e => by cases e; exact .inl hgl)) ?_ ?_ hol h.npb h.nR h.ne (own4_of (by show World.ownsRow _ _ _ _ (.slice _ (p.rules.set k x').length _) (p.rules.set k x').length (rowVals ruCells (p.rules.set k x')); rw [rowVals_set ruCells_len _ _ _ _ _ _ hx hj hc, List.length_set, ha]; exact hst.1) (kept_ob h.own.o2 hst.2 (fun k e => by cases e; exact h.own.d12 g hob)) (kept_ob h.own.o3 hst.2 (fun k e => by cases e; exact h.own.d13 g hob)) (kept_ob h.own.o4 hst.2 (fun k e => by cases e; exact h.own.d14 g hob)))
  · rw [hst.2.block pb h.pbl (fun e => hg1 (Option.some.inj e).symm), h.box]
    unfold pcCells
    dsimp only
    rw [List.length_set]
  · rw [hst.2.block R h.Rl (fun e => hg2 (Option.some.inj e).symm)]
    exact h.res
/-- One of the chunks is another. -/
theorem DS.set2 (h : DS base w0 blk pb R a len cap w p l) {g k j : Nat} {x x' : Ch} {v : Value} (ha : l.a2 = some ⟨g, 0, none⟩) (hx : p.chunks[k]? = some x) (hj : j < 5) (hc : chCells x' = (chCells x).set j v) :
    DS base w0 blk pb R a len cap (w.setCell ⟨g, k * 5 + j, none⟩ v) { p with chunks := p.chunks.set k x' } l := by
  have ho := h.own.o2
  have hob : ob2 p l = some g := by show (Value.slice l.a2 _ _).ownBlock = _; rw [ha]; rfl
  rw [ha] at ho
  have hst := ho.stored (k * 5 + j) v
  have hg1 := (h.f2 g hob).1
  have hg2 := (h.f2 g hob).2
  have hgl := (h.own.o2.lt g hob).1
  have hco := h.cur.own
  have hol := h.old
  refine ds_of (h.cur.kept hst.2 (fun k e => by cases e; exact ⟨by omega, by omega⟩)) (grown_row h.grow hst.2 (fun k e => by cases e; exact .inl hgl)) ?_ ?_ hol h.npb h.nR h.ne (own4_of (kept_ob h.own.o1 hst.2 (fun k e => by cases e; exact fun e => h.own.d12 g e hob)) (by show World.ownsRow _ _ _ _ (.slice _ (p.chunks.set k x').length _) (p.chunks.set k x').length (rowVals chCells (p.chunks.set k x')); rw [rowVals_set chCells_len _ _ _ _ _ _ hx hj hc, List.length_set, ha]; exact hst.1) (kept_ob h.own.o3 hst.2 (fun k e => by cases e; exact h.own.d23 g hob)) (kept_ob h.own.o4 hst.2 (fun k e => by cases e; exact h.own.d24 g hob)))
  · rw [hst.2.block pb h.pbl (fun e => hg1 (Option.some.inj e).symm), h.box]
    unfold pcCells
    dsimp only
    rw [List.length_set]
  · rw [hst.2.block R h.Rl (fun e => hg2 (Option.some.inj e).symm)]
    exact h.res
end
end Go.Proofs.Ytgaejcljabhijaa
