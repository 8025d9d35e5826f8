/- An editing in memory: take, put and do. -/
import Derived.Test.YtdlpepmdjbmmmaaEdF
import Derived.Test.YtdlpepmdjbmmmaaAppPl
import Derived.Test.YtdlpepmdjbmmmaaStepCall
import Derived.Test.YtdlpepmdjbmmmaaApLib
import Derived.Deep.RegionLaw
namespace Go.Proofs.Ytdlpepmdjbmmmaa
open Go.RowKit

/-- Lines that lie in a world from which all goes out. -/
def LftAt (w0 : World) (v : Value) (ls : List ByteArray) : Prop :=
  ∃ (a : Option Addr) (c : Nat), v = .slice a ls.length c ∧ ls.length ≤ c ∧ (0 < ls.length → ∃ b off, a = some ⟨b, off, none⟩ ∧ b < w0.heap.size ∧ ∀ k t, ls[k]? = some t → w0.cell? ⟨b, off + k, none⟩ = some (.string t))
/-- An editing in memory. -/
structure Wk (w0 W : World) (g : Nat) (ls ds : List ByteArray) : Prop where
  below : Below w0.heap.size w0 W
  far : w0.heap.size ≤ g ∧ g < W.heap.size
  row : ∃ lv dv, W.heap[g]? = some (.cells #[lv, dv] 58 (0, 0)) ∧ LftAt w0 lv ls ∧ W.ownsRow w0.heap.size 9 1 dv ds.length (strVals ds) ∧ dv.ownBlock ≠ some g

theorem Wk.more {w0 W W' : World} {g : Nat} {ls ds : List ByteArray} (h : Wk w0 W g ls ds) (hb : Below W.heap.size W W') : Wk w0 W' g ls ds := by
  obtain ⟨h1, h2, lv, dv, h3, h4, h5, h6⟩ := h
  exact ⟨h1.trans (hb.mono h1.size), ⟨h2.1, Nat.lt_of_lt_of_le h2.2 hb.size⟩, lv, dv, (hb.block g h2.2).trans h3, h4, owns_below h5 hb, h6⟩
theorem set_grown (w : World) (g i : Nat) (v : Value) : w.grownBy (w.setCell ⟨g, i, none⟩ v) (some g) := ⟨rfl, rfl, rfl, by simp, fun k _ hk => heap_setCell_other _ ⟨g, i, none⟩ k _ (fun e => hk (by simp [e]))⟩
theorem Wk.setL {w0 w : World} {g : Nat} {ls ds : List ByteArray} {lv dv lv' : Value} (hb : Below w0.heap.size w0 w) (hf : w0.heap.size ≤ g ∧ g < w.heap.size) (hr : w.heap[g]? = some (.cells #[lv, dv] 58 (0, 0))) (hl : LftAt w0 lv' ls) (ho : w.ownsRow w0.heap.size 9 1 dv ds.length (strVals ds)) (hne : dv.ownBlock ≠ some g) : Wk w0 (w.setCell ⟨g, 0, none⟩ lv') g ls ds := by
  have s1 := heap_setCell_same w g 0 _ _ lv' hr
  have hg : w.grownBy (w.setCell ⟨g, 0, none⟩ lv') (some g) := ⟨rfl, rfl, rfl, by simp, fun k _ hk => heap_setCell_other _ ⟨g, 0, none⟩ k _ (fun e => hk (by simp [e]))⟩
  refine ⟨hb.grown hg hb.size (fun k e => by cases e; exact hf.1), ⟨hf.1, by simpa using hf.2⟩, lv', dv, by simpa using s1, hl, World.ownsRow.kept ho hg (.inr hne), hne⟩
theorem Wk.setD {w0 w : World} {g : Nat} {ls ds : List ByteArray} {lv dv dv' : Value} (hb : Below w0.heap.size w0 w) (hf : w0.heap.size ≤ g ∧ g < w.heap.size) (hr : w.heap[g]? = some (.cells #[lv, dv] 58 (0, 0))) (hl : LftAt w0 lv ls) (ho : w.ownsRow w0.heap.size 9 1 dv' ds.length (strVals ds)) (hne : dv'.ownBlock ≠ some g) : Wk w0 (w.setCell ⟨g, 1, none⟩ dv') g ls ds := by
  have s1 := heap_setCell_same w g 1 _ _ dv' hr
  have hg : w.grownBy (w.setCell ⟨g, 1, none⟩ dv') (some g) := ⟨rfl, rfl, rfl, by simp, fun k _ hk => heap_setCell_other _ ⟨g, 1, none⟩ k _ (fun e => hk (by simp [e]))⟩
  refine ⟨hb.grown hg hb.size (fun k e => by cases e; exact hf.1), ⟨hf.1, by simpa using hf.2⟩, lv, dv', by simpa using s1, hl, World.ownsRow.kept ho hg (.inr hne), hne⟩

set_option maxHeartbeats 3000000 in
theorem iTake_yes (w0 w : World) (g : Nat) (t : ByteArray) (ls ds : List ByteArray) (hL : ls.length ≤ 4194304) (hW : Wk w0 w g (t :: ls) ds) :
    Calls Try.prog 56 #[.pointer (some ⟨g, 0, none⟩), .string t] w fun e w' => e = .returned (.bool true) ∧ Wk w0 w' g ls ds ∧ w.grownBy w' (some g) := by
  obtain ⟨hb, hf, lv, dv, hr, hl, ho, hne⟩ := hW
  obtain ⟨a, c, rfl, hc, h⟩ := hl
  obtain ⟨b, off, rfl, hlt, hcs⟩ := h (by simp)
  have c0 : w.cell? ⟨g, 0, none⟩ = some (.slice (some ⟨b, off, none⟩) (t :: ls).length c) := cell_of_row w _ 0 _ _ _ hr
  have f0 := frozen_of_row w _ 0 _ _ hr
  have x0 : w.cell? ⟨b, off, none⟩ = some (.string t) := (hb.cell (p := ⟨b, off, none⟩) hlt).trans (hcs 0 t rfl)
  have hn : (t :: ls).length = ls.length + 1 := rfl
  rw [hn] at c0 hc
  have ht : (t.toList != t.toList) = false := by simp
  have HR := hidOf hr
  have HC := hidOf hcs
  clear h hr hcs
  go_enter Try.func56, Try.ntmps56
  go_wp2
  · go_ret
    refine ⟨rfl, Wk.setL hb hf HR.out ⟨_, _, rfl, by omega, fun h => by omega⟩ ho hne, set_grown w g 0 _⟩
  · go_ret
    refine ⟨rfl, Wk.setL hb hf HR.out ⟨_, _, rfl, by omega, fun h => ⟨b, off + 1, rfl, hlt, fun k y hy => ?_⟩⟩ ho hne, set_grown w g 0 _⟩
    have := HC.out (k + 1) y (by simpa using hy)
    rw [show off + 1 + k = off + (k + 1) by omega]
    exact this

set_option maxHeartbeats 3000000 in
theorem iTake_nil (w0 w : World) (g : Nat) (t : ByteArray) (ds : List ByteArray) (hW : Wk w0 w g [] ds) :
    Calls Try.prog 56 #[.pointer (some ⟨g, 0, none⟩), .string t] w fun e w' => e = .returned (.bool false) ∧ Wk w0 w' g [] ds := by
  have HW := hidOf hW
  obtain ⟨hb, hf, lv, dv, hr, hl, ho, hne⟩ := hW
  obtain ⟨a, c, rfl, hc, h⟩ := hl
  have c0 : w.cell? ⟨g, 0, none⟩ = some (.slice a 0 c) := cell_of_row w _ 0 _ _ _ hr
  clear h hr ho hb
  go_enter Try.func56, Try.ntmps56
  go_wp2
  go_ret
  exact ⟨rfl, HW.out⟩

set_option maxHeartbeats 3000000 in
theorem iTake_no (w0 w : World) (g : Nat) (t y : ByteArray) (ls ds : List ByteArray) (hL : ls.length ≤ 4194304) (hy : y ≠ t) (hW : Wk w0 w g (y :: ls) ds) :
    Calls Try.prog 56 #[.pointer (some ⟨g, 0, none⟩), .string t] w fun e w' => e = .returned (.bool false) ∧ Wk w0 w' g (y :: ls) ds := by
  have HW := hidOf hW
  obtain ⟨hb, hf, lv, dv, hr, hl, ho, hne⟩ := hW
  obtain ⟨a, c, rfl, hc, h⟩ := hl
  obtain ⟨b, off, rfl, hlt, hcs⟩ := h (by simp)
  have c0 : w.cell? ⟨g, 0, none⟩ = some (.slice (some ⟨b, off, none⟩) (y :: ls).length c) := cell_of_row w _ 0 _ _ _ hr
  have x0 : w.cell? ⟨b, off, none⟩ = some (.string y) := (hb.cell (p := ⟨b, off, none⟩) hlt).trans (hcs 0 y rfl)
  have hn : (y :: ls).length = ls.length + 1 := rfl
  rw [hn] at c0 hc
  have ht : (y.toList == t.toList) = false := by rw [str_beq, decide_eq_false hy]
  clear h hr hcs ho hb
  go_enter Try.func56, Try.ntmps56
  go_wp2
  go_ret
  exact ⟨rfl, HW.out⟩

theorem infoStrA : (Try.prog.info? 9).map (fun i => (i.zero, i.size, i.bytes)) = some (some (.string ByteArray.empty), 1, 16) := by kernel_rfl
set_option maxHeartbeats 6000000 in
theorem iPut (w0 w : World) (g : Nat) (t : ByteArray) (ls ds : List ByteArray) (hD : ds.length ≤ 4194304) (ht : t.size ≤ 4194304) (hW : Wk w0 w g ls ds) :
    Calls Try.prog 57 #[.pointer (some ⟨g, 0, none⟩), .string t] w fun e w' => e = .returned (.bool true) ∧ Wk w0 w' g ls (ds ++ [t]) := by
  obtain ⟨hb, hf, lv, dv, hr, hl, ho, hne⟩ := hW
  obtain ⟨i0, hi, hz0, hz1, hz2⟩ := info_parts infoStrA
  obtain ⟨a1, k1, rfl⟩ := owns_slice ho
  have c1 : w.cell? ⟨g, 1, none⟩ = some (.slice a1 ds.length k1) := cell_of_row w _ 1 _ _ _ hr
  have f1 := frozen_of_row w _ 1 _ _ hr
  obtain ⟨hfa, hfb⟩ := hf
  have hsz := hb.size
  have qc := fun W => ed_clone t W (by omega)
  go_enter Try.func57, Try.ntmps57
  go_wp2
  go_region_law (first
    | (refine step_append_own2 rfl _ _ 24 rfl w0.heap.size 9 i0 (.string ByteArray.empty) 1 16 Try.underlying24 hi hz0 hz1 hz2 rfl (by decide) _ _ _ rfl (o2.alloc _) ⟨w2.heap.size, 0, none⟩ 1 1 [.string t] rfl rfl (cell_one_new w2 _ _) (fun x hx => by simp at hx; subst hx; rfl) (by unfold maxLen; omega) (by omega) (by simp; omega) ?_; intro v' w3 hown3 hgrow3 hpl3; obtain ⟨a', c', rfl⟩ := owns_slice hown3; have r3 : w3.heap[g]? = some (.cells #[lv, .slice a1 ds.length k1] 58 (0, 0)) := (hgrow3.block g (by simp; omega) (fun e => hne e.symm)).trans ((Below.heap_alloc w2 _ g (by omega)).trans r2); have f3 := frozen_of_row w3 _ 1 _ _ r3; have c3 : w3.cell? ⟨g, 1, none⟩ = some (.slice a1 ds.length k1) := cell_of_row w3 _ 1 _ _ _ r3)
    | (refine step_call (by rfl) 55 _ (by go_simp; try rfl) ((qc _).mono ?_); rintro e w2 ⟨rfl, hb2⟩; have hs2 : w.heap.size ≤ w2.heap.size := hb2.size; have o2 : w2.ownsRow w0.heap.size 9 1 (.slice a1 ds.length k1) ds.length (strVals ds) := owns_below (w := w.drew) ho.drew hb2; have r2 : w2.heap[g]? = some (.cells #[lv, .slice a1 ds.length k1] 58 (0, 0)) := (hb2.block g hfb).trans hr; have c2 : w2.cell? ⟨g, 1, none⟩ = some (.slice a1 ds.length k1) := cell_of_row w2 _ 1 _ _ _ r2; have c2a : ∀ ob, (w2.alloc ob).cell? ⟨g, 1, none⟩ = some (.slice a1 ds.length k1) := (fun ob => (World.cell?_alloc_old _ _ _ (by show g ≠ w2.heap.size; omega)).trans c2); refine ⟨_, rfl, ?_⟩))
  all_goals
    have hne3 : (Value.slice a' (ds.length + 1) c').ownBlock ≠ some g := fun e => (hpl3 g e).elim hne (fun h => by simp at h; omega)
    have hB2 : Below w0.heap.size w0 w2 := hb.trans ((show Below w.heap.size w w2 from ⟨hb2.os, hb2.tape, hb2.output, hb2.size, hb2.block⟩).mono hsz)
    have hB3 : Below w0.heap.size w0 w3 := (hB2.alloc hB2.size _).grown hgrow3 (by simp; omega) (fun q hq => (o2.lt q hq).1)
    have HE := hidOf (Wk.setD (ds := ds ++ [t]) hB3 ⟨hfa, by have := hgrow3.size; simp at this; omega⟩ r3 hl (by simpa [strVals] using hown3) hne3)
    go_wp2
    go_ret
    exact ⟨rfl, HE.out⟩
end Go.Proofs.Ytdlpepmdjbmmmaa
