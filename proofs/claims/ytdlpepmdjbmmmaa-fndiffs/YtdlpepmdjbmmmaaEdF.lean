/- What editFrom answers: the edit that a value behind the interface stands for. -/
import Derived.Test.YtdlpepmdjbmmmaaShelf
import Derived.Test.YtdlpepmdjbmmmaaEdI
import Derived.Test.YtdlpepmdjbmmmaaToEd
import Derived.Lib.AppendIntMem
import Derived.WalkKit
import Derived.Laws.OwnMore
namespace Go.Proofs.Ytdlpepmdjbmmmaa
open Go.RowKit

theorem ed_clone (s : ByteArray) (w : World) (h : s.size ≤ 8388608) :
    Calls Try.prog 55 #[.string s] w fun e w' => e = .returned (.string s) ∧ Below w.heap.size w w' := by
  go_enter Try.func55, Try.ntmps55
  go_wp2_with fail
  refine (Try.stringslite_Clone s _ (by omega)).mono ?_
  rintro e w1 ⟨rfl, hb⟩
  go_wp2
  go_ret
  exact ⟨rfl, hb⟩
theorem two_set {w W : World} {g : Nat} {T : TypeId} {a b : Value} (k l : Value) (hb : Below w.heap.size w W) (hg : w.heap.size ≤ g) (hf : W.heap[g]? = some (.cells #[a, b] T (0, 0))) :
    ((W.setCell ⟨g, 0, none⟩ k).setCell ⟨g, 1, none⟩ l).heap[g]? = some (.cells #[k, l] T (0, 0)) ∧ Below w.heap.size w ((W.setCell ⟨g, 0, none⟩ k).setCell ⟨g, 1, none⟩ l) := by
  have s1 := heap_setCell_same W g 0 _ _ k hf
  have s2 := heap_setCell_same _ g 1 _ _ l s1
  refine ⟨by simpa using s2, ?_⟩
  exact (hb.setCell (by simpa using hg) _).setCell (by simpa using hg) _

set_option maxHeartbeats 1600000 in
theorem fromK (x : Ed) (w : World) (hx : x.line.size ≤ 8388608) : Calls Try.prog 40 #[ifK x.line] w fun e w' => e = .returned (.agg #[.int .i64 (1), .string x.line]) ∧ Below w.heap.size w w' := by
  have a0 := fun w => taKK (.agg #[.string x.line]) w
  go_enter Try.func40, Try.ntmps40
  go_wp2_with fail
  refine (lineK x.line _).mono ?_
  rintro e w1 ⟨rfl, hb1⟩
  have hs1 := hb1.size
  go_wp2_with fail
  refine (ed_clone x.line _ hx).mono ?_
  rintro e w2 ⟨rfl, hb2⟩
  have hs2 := hb2.size
  have F0 : w2.heap[w.heap.size]? = some (.cells #[.int .i64 0, .string ⟨#[]⟩] 55 (0, 0)) := (hb2.block _ (by simp at hs1; omega)).trans ((hb1.block _ (by simp)).trans (heap_alloc_new w _))
  have hB2 : Below w.heap.size w w2 := ((Below.refl _ w).alloc (Nat.le_refl _) _).trans ((hb1.trans (hb2.mono hs1)).mono (by simp))
  have c0 : w2.cell? ⟨w.heap.size, 0, none⟩ = some (.int .i64 0) := cell_of_row w2 _ 0 _ _ _ F0
  have c1 : w2.cell? ⟨w.heap.size, 1, none⟩ = some (.string ⟨#[]⟩) := cell_of_row w2 _ 1 _ _ _ F0
  have f0 := frozen_of_row w2 _ 0 _ _ F0
  have f1 := frozen_of_row w2 _ 1 _ _ F0
  have hlt : w.heap.size < w2.heap.size := by simp at hs1; omega
  have hne : w.heap.size ≠ w2.heap.size := by omega
  have hne' : w.heap.size ≠ w2.heap.size + 1 := by omega
  have HF := hidOf F0
  clear F0
  go_wp2
  obtain ⟨R1, R2⟩ := two_set (.int .i64 (1)) (.string x.line) hB2 (Nat.le_refl _) HF.out
  have hB3 := R2.alloc (by simp; omega) (.cells #[.int .i64 (1), .string x.line] 55)
  have hB4 := hB3.alloc (by simp; omega) (.cells #[.string x.line] 68)
  have F4 := (Below.heap_alloc _ (.cells #[.string x.line] 68) w.heap.size (by simp; omega)).trans ((Below.heap_alloc _ (.cells #[.int .i64 (1), .string x.line] 55) w.heap.size (by simp; omega)).trans R1)
  refine bodyPost_ret (results_cell_row rfl _ _ w.heap.size 55 #[.int .i64 (1), .string x.line] (0, 0) _ rfl F4 Try.underlying55 rfl infoEd.1) rfl ?_
  exact ⟨rfl, hB4⟩
set_option maxHeartbeats 1600000 in
theorem fromD (x : Ed) (w : World) (hx : x.line.size ≤ 8388608) : Calls Try.prog 40 #[ifD x.line] w fun e w' => e = .returned (.agg #[.int .i64 (2), .string x.line]) ∧ Below w.heap.size w w' := by
  have a0 := fun w => taDK (.agg #[.string x.line]) w
  have a1 := fun w => taDD (.agg #[.string x.line]) w
  go_enter Try.func40, Try.ntmps40
  go_wp2_with fail
  refine (lineD x.line _).mono ?_
  rintro e w1 ⟨rfl, hb1⟩
  have hs1 := hb1.size
  go_wp2_with fail
  refine (ed_clone x.line _ hx).mono ?_
  rintro e w2 ⟨rfl, hb2⟩
  have hs2 := hb2.size
  have F0 : w2.heap[w.heap.size]? = some (.cells #[.int .i64 0, .string ⟨#[]⟩] 55 (0, 0)) := (hb2.block _ (by simp at hs1; omega)).trans ((hb1.block _ (by simp)).trans (heap_alloc_new w _))
  have hB2 : Below w.heap.size w w2 := ((Below.refl _ w).alloc (Nat.le_refl _) _).trans ((hb1.trans (hb2.mono hs1)).mono (by simp))
  have c0 : w2.cell? ⟨w.heap.size, 0, none⟩ = some (.int .i64 0) := cell_of_row w2 _ 0 _ _ _ F0
  have c1 : w2.cell? ⟨w.heap.size, 1, none⟩ = some (.string ⟨#[]⟩) := cell_of_row w2 _ 1 _ _ _ F0
  have f0 := frozen_of_row w2 _ 0 _ _ F0
  have f1 := frozen_of_row w2 _ 1 _ _ F0
  have hlt : w.heap.size < w2.heap.size := by simp at hs1; omega
  have hne : w.heap.size ≠ w2.heap.size := by omega
  have hne' : w.heap.size ≠ w2.heap.size + 1 := by omega
  have HF := hidOf F0
  clear F0
  go_wp2
  obtain ⟨R1, R2⟩ := two_set (.int .i64 (2)) (.string x.line) hB2 (Nat.le_refl _) HF.out
  have hB3 := R2.alloc (by simp; omega) (.cells #[.int .i64 (2), .string x.line] 55)
  have hB4 := hB3.alloc (by simp; omega) (.cells #[.string x.line] 78)
  have F4 := (Below.heap_alloc _ (.cells #[.string x.line] 78) w.heap.size (by simp; omega)).trans ((Below.heap_alloc _ (.cells #[.int .i64 (2), .string x.line] 55) w.heap.size (by simp; omega)).trans R1)
  refine bodyPost_ret (results_cell_row rfl _ _ w.heap.size 55 #[.int .i64 (2), .string x.line] (0, 0) _ rfl F4 Try.underlying55 rfl infoEd.1) rfl ?_
  exact ⟨rfl, hB4⟩
set_option maxHeartbeats 1600000 in
theorem fromA (x : Ed) (w : World) (hx : x.line.size ≤ 8388608) : Calls Try.prog 40 #[ifA x.line] w fun e w' => e = .returned (.agg #[.int .i64 (3), .string x.line]) ∧ Below w.heap.size w w' := by
  have a0 := fun w => taAK (.agg #[.string x.line]) w
  have a1 := fun w => taAD (.agg #[.string x.line]) w
  have a2 := fun w => taAA (.agg #[.string x.line]) w
  go_enter Try.func40, Try.ntmps40
  go_wp2_with fail
  refine (lineA x.line _).mono ?_
  rintro e w1 ⟨rfl, hb1⟩
  have hs1 := hb1.size
  go_wp2_with fail
  refine (ed_clone x.line _ hx).mono ?_
  rintro e w2 ⟨rfl, hb2⟩
  have hs2 := hb2.size
  have F0 : w2.heap[w.heap.size]? = some (.cells #[.int .i64 0, .string ⟨#[]⟩] 55 (0, 0)) := (hb2.block _ (by simp at hs1; omega)).trans ((hb1.block _ (by simp)).trans (heap_alloc_new w _))
  have hB2 : Below w.heap.size w w2 := ((Below.refl _ w).alloc (Nat.le_refl _) _).trans ((hb1.trans (hb2.mono hs1)).mono (by simp))
  have c0 : w2.cell? ⟨w.heap.size, 0, none⟩ = some (.int .i64 0) := cell_of_row w2 _ 0 _ _ _ F0
  have c1 : w2.cell? ⟨w.heap.size, 1, none⟩ = some (.string ⟨#[]⟩) := cell_of_row w2 _ 1 _ _ _ F0
  have f0 := frozen_of_row w2 _ 0 _ _ F0
  have f1 := frozen_of_row w2 _ 1 _ _ F0
  have hlt : w.heap.size < w2.heap.size := by simp at hs1; omega
  have hne : w.heap.size ≠ w2.heap.size := by omega
  have hne' : w.heap.size ≠ w2.heap.size + 1 := by omega
  have HF := hidOf F0
  clear F0
  go_wp2
  obtain ⟨R1, R2⟩ := two_set (.int .i64 (3)) (.string x.line) hB2 (Nat.le_refl _) HF.out
  have hB3 := R2.alloc (by simp; omega) (.cells #[.int .i64 (3), .string x.line] 55)
  have hB4 := hB3.alloc (by simp; omega) (.cells #[.string x.line] 79)
  have F4 := (Below.heap_alloc _ (.cells #[.string x.line] 79) w.heap.size (by simp; omega)).trans ((Below.heap_alloc _ (.cells #[.int .i64 (3), .string x.line] 55) w.heap.size (by simp; omega)).trans R1)
  refine bodyPost_ret (results_cell_row rfl _ _ w.heap.size 55 #[.int .i64 (3), .string x.line] (0, 0) _ rfl F4 Try.underlying55 rfl infoEd.1) rfl ?_
  exact ⟨rfl, hB4⟩
set_option maxHeartbeats 1600000 in
theorem fromS (x : Ed) (w : World) (hx : x.line.size ≤ 8388608) : Calls Try.prog 40 #[ifS x.kind x.line] w fun e w' => e = .returned (.agg #[.int .i64 (x.kind), .string x.line]) ∧ Below w.heap.size w w' := by
  have a0 := fun w => taSK (.agg #[.int .i64 x.kind, .string x.line]) w
  have a1 := fun w => taSD (.agg #[.int .i64 x.kind, .string x.line]) w
  have a2 := fun w => taSA (.agg #[.int .i64 x.kind, .string x.line]) w
  have a3 := fun w => taSS (.agg #[.int .i64 x.kind, .string x.line]) w
  go_enter Try.func40, Try.ntmps40
  go_wp2_with fail
  refine (lineS x.kind x.line _).mono ?_
  rintro e w1 ⟨rfl, hb1⟩
  have hs1 := hb1.size
  go_wp2_with fail
  refine (ed_clone x.line _ hx).mono ?_
  rintro e w2 ⟨rfl, hb2⟩
  have hs2 := hb2.size
  have F0 : w2.heap[w.heap.size]? = some (.cells #[.int .i64 0, .string ⟨#[]⟩] 55 (0, 0)) := (hb2.block _ (by simp at hs1; omega)).trans ((hb1.block _ (by simp)).trans (heap_alloc_new w _))
  have hB2 : Below w.heap.size w w2 := ((Below.refl _ w).alloc (Nat.le_refl _) _).trans ((hb1.trans (hb2.mono hs1)).mono (by simp))
  have c0 : w2.cell? ⟨w.heap.size, 0, none⟩ = some (.int .i64 0) := cell_of_row w2 _ 0 _ _ _ F0
  have c1 : w2.cell? ⟨w.heap.size, 1, none⟩ = some (.string ⟨#[]⟩) := cell_of_row w2 _ 1 _ _ _ F0
  have f0 := frozen_of_row w2 _ 0 _ _ F0
  have f1 := frozen_of_row w2 _ 1 _ _ F0
  have hlt : w.heap.size < w2.heap.size := by simp at hs1; omega
  have hne : w.heap.size ≠ w2.heap.size := by omega
  have hne' : w.heap.size ≠ w2.heap.size + 1 := by omega
  have HF := hidOf F0
  clear F0
  go_wp2
  obtain ⟨R1, R2⟩ := two_set (.int .i64 (x.kind)) (.string x.line) hB2 (Nat.le_refl _) HF.out
  have hB3 := R2.alloc (by simp; omega) (.cells #[.int .i64 (x.kind), .string x.line] 55)
  have hB4 := hB3.alloc (by simp; omega) (.cells #[.int .i64 x.kind, .string x.line] 83)
  have F4 := (Below.heap_alloc _ (.cells #[.int .i64 x.kind, .string x.line] 83) w.heap.size (by simp; omega)).trans ((Below.heap_alloc _ (.cells #[.int .i64 (x.kind), .string x.line] 55) w.heap.size (by simp; omega)).trans R1)
  refine bodyPost_ret (results_cell_row rfl _ _ w.heap.size 55 #[.int .i64 (x.kind), .string x.line] (0, 0) _ rfl F4 Try.underlying55 rfl infoEd.1) rfl ?_
  exact ⟨rfl, hB4⟩
theorem iFrom_any (x : Ed) (w : World) (hx : x.line.size ≤ 8388608) : Calls Try.prog 40 #[ifE x] w fun e w' => e = .returned (.agg #[.int .i64 x.kind, .string x.line]) ∧ Below w.heap.size w w' := by
  by_cases h1 : x.kind = 1
  · rw [ifE_1 h1, h1]
    exact fromK x w hx
  by_cases h2 : x.kind = 2
  · rw [ifE_2 h2, h2]
    exact fromD x w hx
  by_cases h3 : x.kind = 3
  · rw [ifE_3 h3, h3]
    exact fromA x w hx
  · rw [ifE_4 h1 h2 h3]
    exact fromS x w hx
end Go.Proofs.Ytdlpepmdjbmmmaa
