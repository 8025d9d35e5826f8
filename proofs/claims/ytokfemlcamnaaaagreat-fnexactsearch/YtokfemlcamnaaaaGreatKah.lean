/- Right values of the first rules, and zeros behind them: these cost nothing. -/
import Derived.Test.YtokfemlcamnaaaaGreatRenLib
import Derived.Test.YtokfemlcamnaaaaGreatKag
import Derived.Test.YtokfemlcamnaaaaGreatProg
import Derived.Test.YtokfemlcamnaaaaGreatKaa
import Derived.Deep.CutBlock
import Derived.BigRegion
import Derived.BigQuiet
import Derived.Deep.QuietTactic
namespace Go.Proofs.YtokfemlcamnaaaaGreat
open Go.RowKit

/-- Right values of the first rules. -/
def PreV (rs : List Ru) (u : List Int) : Prop := u.length ≤ rs.length ∧ ∀ (j : Nat) (z : Int) (y : Ru), u[j]? = some z → rs[j]? = some y → 0 ≤ z ∧ z < y.values
theorem pre_add {rs : List Ru} {u : List Int} {k : Nat} {y : Ru} (h : PreV rs u) (hy : rs[u.length]? = some y) (hk : (k : Int) < y.values) : PreV rs (u ++ [(k : Int)]) := by
  have hl := (List.getElem?_eq_some_iff.1 hy).1
  refine ⟨by simp; omega, fun j z y' hz hy' => ?_⟩
  by_cases e : j = u.length
  · subst e
    rw [hy] at hy'
    cases hy'
    have : z = (k : Int) := by simpa using hz.symm
    omega
  · have hj := (List.getElem?_eq_some_iff.1 hz).1
    simp at hj
    rw [List.getElem?_append_left (by omega)] at hz
    exact h.2 j z y' hz hy'
theorem getD_pre {u t : List Int} {k : Nat} (h : k < u.length) : (u ++ t).getD k 0 = u.getD k 0 := by
  rw [List.getD_eq_getElem?_getD, List.getD_eq_getElem?_getD, List.getElem?_append_left h]
theorem vcost_zero : ∀ (rs : List Ru) (n : Nat), vcost rs (List.replicate n 0) = 0
  | [], n => by rw [vcost]
  | r :: rs, 0 => by rw [List.replicate_zero, vcost]
  | r :: rs, n + 1 => by rw [List.replicate_succ, vcost, vcost_zero rs n]; omega
theorem vcost_more : ∀ (rs : List Ru) (u : List Int) (n : Nat), vcost rs (u ++ List.replicate n 0) = vcost rs u
  | rs, [], n => by
    rw [List.nil_append, vcost_zero]
    cases rs <;> simp [vcost]
  | [], v :: u, n => by simp [vcost]
  | r :: rs, v :: u, n => by rw [List.cons_append, vcost, vcost, vcost_more rs u n]
theorem getD_zero (u : List Int) (n k : Nat) : (u ++ List.replicate n 0).getD k 0 = u.getD k 0 := by
  by_cases h : k < u.length
  · exact getD_pre h
  · rw [List.getD_eq_getElem?_getD, List.getD_eq_getElem?_getD, List.getElem?_append_right (by omega), List.getElem?_eq_none (l := u) (by omega), List.getElem?_replicate]
    split <;> rfl
theorem spl_zero (u : List Int) (n : Nat) (x : Ch) : spl (u ++ List.replicate n 0) x = spl u x := by
  unfold spl
  rw [getD_zero]
theorem scost_zero (cs : List Ch) (u : List Int) (n : Nat) : ∀ (xs : List Sn), scost cs (u ++ List.replicate n 0) xs = scost cs u xs
  | [] => by rw [scost, scost]
  | x :: xs => by
    rw [scost, scost, scost_zero cs u n xs]
    have : snSpl cs (u ++ List.replicate n 0) x = snSpl cs u x := by
      unfold snSpl
      congr 1
      funext y
      exact spl_zero u n y
    rw [this]
/-- Zeros behind the first values cost nothing. -/
theorem sum_zero (p : Pc) (u : List Int) (n : Nat) : costSum p (u ++ List.replicate n 0) = costSum p u := by
  unfold costSum
  rw [vcost_more, scost_zero]
/-- The first values, and zeros: right values. -/
theorem pre_full {p : Pc} (hR : Right p) {u : List Int} (h : PreV p.rules u) : ValOk p (u ++ List.replicate (p.rules.length - u.length) 0) := by
  have hl := h.1
  refine ⟨by simp; omega, fun j z y hz hy => ?_⟩
  have hy2 := (hR.rules.2 j y hy).1
  by_cases e : j < u.length
  · rw [List.getElem?_append_left e] at hz
    have := h.2 j z y hz hy
    omega
  · rw [List.getElem?_append_right (by omega), List.getElem?_replicate] at hz
    split at hz
    · cases hz
      omega
    · cases hz
theorem pre_nn {rs : List Ru} {u : List Int} (h : PreV rs u) : ∀ z ∈ u, 0 ≤ z := fun z hz => by
  obtain ⟨j, hj⟩ := List.mem_iff_getElem?.1 hz
  have hl := (List.getElem?_eq_some_iff.1 hj).1
  have := h.1
  obtain ⟨y, hy⟩ : ∃ y, rs[j]? = some y := ⟨_, List.getElem?_eq_getElem (by omega)⟩
  exact (h.2 j z y hj hy).1
end Go.Proofs.YtokfemlcamnaaaaGreat
/- What the type of whole numbers is. -/
namespace Go.Proofs.YtokfemlcamnaaaaGreat
open Go.RowKit

theorem infoIntT : (Tryz.prog.info? 3).map (fun i => (i.zero, i.size, i.bytes)) = some (some (.int .i64 0), 1, 8) := by kernel_rfl
end Go.Proofs.YtokfemlcamnaaaaGreat
/- Arrays of eight numbers. -/
namespace Go.Proofs.YtokfemlcamnaaaaGreat
open Go.RowKit

/-- An array of eight numbers, all 0. -/
abbrev eight : Array Value := #[.int .i64 0, .int .i64 0, .int .i64 0, .int .i64 0, .int .i64 0, .int .i64 0, .int .i64 0, .int .i64 0]
/-- What lies in such an array behind the first n. -/
def restZ (n : Nat) : List Value := List.replicate (8 - n) (.int .i64 0)
theorem eight_is {n : Nat} (hn : n ≤ 8) : eight.toList = intVals (List.replicate n 0) ++ restZ n := by
  unfold intVals restZ
  rw [List.map_replicate, List.replicate_append_replicate, show n + (8 - n) = 8 by omega]
  rfl
theorem restZ_len {vs : List Int} {n : Nat} (hv : vs.length = n) (hn : n ≤ 8) : (intVals vs ++ restZ n).length = 8 := by
  unfold restZ
  rw [List.length_append, intVals_len, List.length_replicate]
  omega
theorem list8 {xs : List Value} (h : xs.length = 8) : ∃ x0 x1 x2 x3 x4 x5 x6 x7, xs = [x0, x1, x2, x3, x4, x5, x6, x7] := by
  match xs, h with
  | [x0, x1, x2, x3, x4, x5, x6, x7], _ => exact ⟨x0, x1, x2, x3, x4, x5, x6, x7, rfl⟩
theorem ints8 {vs : List Int} {n : Nat} (hv : vs.length = n) (hn : n ≤ 8) : ∃ z0 z1 z2 z3 z4 z5 z6 z7 : Int, intVals vs ++ restZ n = [.int .i64 z0, .int .i64 z1, .int .i64 z2, .int .i64 z3, .int .i64 z4, .int .i64 z5, .int .i64 z6, .int .i64 z7] := by
  have e : intVals vs ++ restZ n = intVals (vs ++ List.replicate (8 - n) 0) := by
    unfold intVals restZ
    rw [List.map_append, List.map_replicate]
  have h : (vs ++ List.replicate (8 - n) 0).length = 8 := by rw [List.length_append, List.length_replicate]; omega
  rw [e]
  match vs ++ List.replicate (8 - n) 0, h with
  | [x0, x1, x2, x3, x4, x5, x6, x7], _ => exact ⟨x0, x1, x2, x3, x4, x5, x6, x7, rfl⟩
/-- All eight are others. -/
theorem put8 {w : World} {base e g : Nat} {ys : List Value} (h : w.ownsRow base e 1 (.slice (some ⟨g, 0, none⟩) 8 8) 8 ys) (x0 x1 x2 x3 x4 x5 x6 x7 : Value) :
    ((((((((w.setCell ⟨g, 0, none⟩ x0).setCell ⟨g, 1, none⟩ x1).setCell ⟨g, 2, none⟩ x2).setCell ⟨g, 3, none⟩ x3).setCell ⟨g, 4, none⟩ x4).setCell ⟨g, 5, none⟩ x5).setCell ⟨g, 6, none⟩ x6).setCell ⟨g, 7, none⟩ x7).ownsRow base e 1 (.slice (some ⟨g, 0, none⟩) 8 8) 8 [x0, x1, x2, x3, x4, x5, x6, x7] ∧
    w.grownBy ((((((((w.setCell ⟨g, 0, none⟩ x0).setCell ⟨g, 1, none⟩ x1).setCell ⟨g, 2, none⟩ x2).setCell ⟨g, 3, none⟩ x3).setCell ⟨g, 4, none⟩ x4).setCell ⟨g, 5, none⟩ x5).setCell ⟨g, 6, none⟩ x6).setCell ⟨g, 7, none⟩ x7) (some g) := by
  have s0 := h.stored 0 x0
  have s1 := s0.1.stored 1 x1
  have s2 := s1.1.stored 2 x2
  have s3 := s2.1.stored 3 x3
  have s4 := s3.1.stored 4 x4
  have s5 := s4.1.stored 5 x5
  have s6 := s5.1.stored 6 x6
  have s7 := s6.1.stored 7 x7
  refine ⟨?_, grownBy_trans (grownBy_trans (grownBy_trans (grownBy_trans (grownBy_trans (grownBy_trans (grownBy_trans s0.2 s1.2) s2.2) s3.2) s4.2) s5.2) s6.2) s7.2⟩
  obtain ⟨y0, y1, y2, y3, y4, y5, y6, y7, rfl⟩ := list8 (show ys.length = 8 from h.1)
  exact s7.1
theorem row_type {w : World} {base e size g n c : Nat} {xs : List Value} (h : w.ownsRow base e size (.slice (some ⟨g, 0, none⟩) n c) n xs) : ∃ cur, w.heap[g]? = some (.cells cur e (0, 0)) := by
  rcases h.2 with ⟨h1, -⟩ | ⟨g', cap, cur, h1, -, h2, -⟩
  · cases h1
  · cases h1
    exact ⟨cur, h2⟩
/-- A slice of an array of eight numbers. -/
theorem arr_to (b n : Nat) (hn : n ≤ 8) (W : World) : (Instr.sliceAt 133 (.pointer (some ⟨b, 0, none⟩)) none (some (.int .i64 (n : Int))) none).run Tryz.prog W = .ok (.slice (some ⟨b, 0, none⟩) n 8) W := by
  have hl : Tryz.prog.arrayLen 133 = 8 := by kernel_rfl
  have he : Tryz.prog.elem 133 = 3 := by kernel_rfl
  rw [run_sliceAt_array_h W 133 ⟨b, 0, none⟩ (by kernel_rfl) .i64 n (by omega) (by rw [hl]; omega), hl, he]
  simp [slicedAt, Tryz.sizeOf3, Addr.add, go_sem]
end Go.Proofs.YtokfemlcamnaaaaGreat
/- What impl.CountOf and spec.CountOf answer. -/
namespace Go.Proofs.YtokfemlcamnaaaaGreat
open Go.RowKit

set_option maxHeartbeats 1600000 in
theorem iIn_any (x a b : Int) (w : World) : Calls Tryz.prog 54 #[.int .i64 x, .int .i64 a, .int .i64 b] w fun e w' => e = .returned (.bool (inB x a b)) ∧ w' = w := by
  by_cases h1 : a ≤ x
  · by_cases h2 : x ≤ b
    · rw [inB_yes h1 h2]
      go_enter Tryz.func54, Tryz.ntmps54
      go_wp2
      go_ret
      exact ⟨rfl, rfl⟩
    · rw [inB_no (fun h => h2 h.2)]
      go_enter Tryz.func54, Tryz.ntmps54
      go_wp2
      go_ret
      exact ⟨rfl, rfl⟩
  · rw [inB_no (fun h => h1 h.1)]
    go_enter Tryz.func54, Tryz.ntmps54
    go_wp2
    go_ret
    exact ⟨rfl, rfl⟩

set_option maxHeartbeats 1600000 in
theorem sIn_any (x a b : Int) (w : World) : Calls Tryz.prog 43 #[.int .i64 x, .int .i64 a, .int .i64 b] w fun e w' => e = .returned (.bool (inB x a b)) ∧ w' = w := by
  by_cases h1 : a ≤ x
  · by_cases h2 : x ≤ b
    · rw [inB_yes h1 h2]
      go_enter Tryz.func43, Tryz.ntmps43
      go_wp2
      go_ret
      exact ⟨rfl, rfl⟩
    · rw [inB_no (fun h => h2 h.2)]
      go_enter Tryz.func43, Tryz.ntmps43
      go_wp2
      go_ret
      exact ⟨rfl, rfl⟩
  · rw [inB_no (fun h => h1 h.1)]
    go_enter Tryz.func43, Tryz.ntmps43
    go_wp2
    go_ret
    exact ⟨rfl, rfl⟩
end Go.Proofs.YtokfemlcamnaaaaGreat
