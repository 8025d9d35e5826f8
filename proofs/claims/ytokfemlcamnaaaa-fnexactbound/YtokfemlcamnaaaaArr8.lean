/- Arrays of eight numbers. -/
import Derived.Test.YtokfemlcamnaaaaInfoT
import Derived.Deep.CutBlock
import Derived.BigRegion
namespace Go.Proofs.Ytokfemlcamnaaaa
open Go.RowKit

/-- An array of eight numbers, all 0. -/
abbrev eight : Array Value := #[.int .i64 0, .int .i64 0, .int .i64 0, .int .i64 0, .int .i64 0, .int .i64 0, .int .i64 0, .int .i64 0]
/-- What lies in such an array behind the first n. -/
def restZ (n : Nat) : List Value := List.replicate (8 - n) (.int .i64 0)
theorem eight_is {n : Nat} (hn : n ≤ 8) : eight.toList = intVals (List.replicate n 0) ++ restZ n := by
  unfold intVals restZ
  rw [List.map_replicate, List.replicate_append_replicate, show n + (8 - n) = 8 by omega]
  rfl
theorem restZ_len {vs : List Int} {n : Nat} (hv : vs.length = n) (hn : n ≤ 8) : (intVals vs ++ restZ n).length = 8 := by
  unfold restZ
  rw [List.length_append, intVals_len, List.length_replicate]
  omega
theorem list8 {xs : List Value} (h : xs.length = 8) : ∃ x0 x1 x2 x3 x4 x5 x6 x7, xs = [x0, x1, x2, x3, x4, x5, x6, x7] := by
  match xs, h with
  | [x0, x1, x2, x3, x4, x5, x6, x7], _ => exact ⟨x0, x1, x2, x3, x4, x5, x6, x7, rfl⟩
theorem ints8 {vs : List Int} {n : Nat} (hv : vs.length = n) (hn : n ≤ 8) : ∃ z0 z1 z2 z3 z4 z5 z6 z7 : Int, intVals vs ++ restZ n = [.int .i64 z0, .int .i64 z1, .int .i64 z2, .int .i64 z3, .int .i64 z4, .int .i64 z5, .int .i64 z6, .int .i64 z7] := by
  have e : intVals vs ++ restZ n = intVals (vs ++ List.replicate (8 - n) 0) := by
    unfold intVals restZ
    rw [List.map_append, List.map_replicate]
  have h : (vs ++ List.replicate (8 - n) 0).length = 8 := by rw [List.length_append, List.length_replicate]; omega
  rw [e]
  match vs ++ List.replicate (8 - n) 0, h with
  | [x0, x1, x2, x3, x4, x5, x6, x7], _ => exact ⟨x0, x1, x2, x3, x4, x5, x6, x7, rfl⟩
/-- All eight are others. -/
theorem put8 {w : World} {base e g : Nat} {ys : List Value} (h : w.ownsRow base e 1 (.slice (some ⟨g, 0, none⟩) 8 8) 8 ys) (x0 x1 x2 x3 x4 x5 x6 x7 : Value) :
    ((((((((w.setCell ⟨g, 0, none⟩ x0).setCell ⟨g, 1, none⟩ x1).setCell ⟨g, 2, none⟩ x2).setCell ⟨g, 3, none⟩ x3).setCell ⟨g, 4, none⟩ x4).setCell ⟨g, 5, none⟩ x5).setCell ⟨g, 6, none⟩ x6).setCell ⟨g, 7, none⟩ x7).ownsRow base e 1 (.slice (some ⟨g, 0, none⟩) 8 8) 8 [x0, x1, x2, x3, x4, x5, x6, x7] ∧
    w.grownBy ((((((((w.setCell ⟨g, 0, none⟩ x0).setCell ⟨g, 1, none⟩ x1).setCell ⟨g, 2, none⟩ x2).setCell ⟨g, 3, none⟩ x3).setCell ⟨g, 4, none⟩ x4).setCell ⟨g, 5, none⟩ x5).setCell ⟨g, 6, none⟩ x6).setCell ⟨g, 7, none⟩ x7) (some g) := by
  have s0 := h.stored 0 x0
  have s1 := s0.1.stored 1 x1
  have s2 := s1.1.stored 2 x2
  have s3 := s2.1.stored 3 x3
  have s4 := s3.1.stored 4 x4
  have s5 := s4.1.stored 5 x5
  have s6 := s5.1.stored 6 x6
  have s7 := s6.1.stored 7 x7
  refine ⟨?_, grownBy_trans (grownBy_trans (grownBy_trans (grownBy_trans (grownBy_trans (grownBy_trans (grownBy_trans s0.2 s1.2) s2.2) s3.2) s4.2) s5.2) s6.2) s7.2⟩
  obtain ⟨y0, y1, y2, y3, y4, y5, y6, y7, rfl⟩ := list8 (show ys.length = 8 from h.1)
  exact s7.1
theorem row_type {w : World} {base e size g n c : Nat} {xs : List Value} (h : w.ownsRow base e size (.slice (some ⟨g, 0, none⟩) n c) n xs) : ∃ cur, w.heap[g]? = some (.cells cur e (0, 0)) := by
  rcases h.2 with ⟨h1, -⟩ | ⟨g', cap, cur, h1, -, h2, -⟩
  · cases h1
  · cases h1
    exact ⟨cur, h2⟩
/-- A slice of an array of eight numbers. -/
theorem arr_to (b n : Nat) (hn : n ≤ 8) (W : World) : (Instr.sliceAt 117 (.pointer (some ⟨b, 0, none⟩)) none (some (.int .i64 (n : Int))) none).run Try.prog W = .ok (.slice (some ⟨b, 0, none⟩) n 8) W := by
  have hl : Try.prog.arrayLen 117 = 8 := by kernel_rfl
  have he : Try.prog.elem 117 = 3 := by kernel_rfl
  rw [run_sliceAt_array_h W 117 ⟨b, 0, none⟩ (by kernel_rfl) .i64 n (by omega) (by rw [hl]; omega), hl, he]
  simp [slicedAt, Try.sizeOf3, Addr.add, go_sem]
end Go.Proofs.Ytokfemlcamnaaaa
