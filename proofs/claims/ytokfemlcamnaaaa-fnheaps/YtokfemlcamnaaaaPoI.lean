/- What the heap's pop answers. -/
import Derived.Test.YtokfemlcamnaaaaDnI
import Derived.Test.YtokfemlcamnaaaaInfoSt
import Derived.Laws.IdiomCopy
namespace Go.Proofs.Ytokfemlcamnaaaa
open Go.RowKit

/-- A block of another type lies apart. -/
theorem far_row {w : World} {B e s n b t : Nat} {v : Value} {xs : List Value} {cur : Array Value} {z : Nat × Nat} (h : w.ownsRow B e s v n xs) (hb : w.heap[b]? = some (.cells cur t z)) (hne : e ≠ t) : v.ownBlock = none ∨ v.ownBlock ≠ some b := by
  rcases h.2 with ⟨rfl, _⟩ | ⟨g, cap, cur, rfl, _, hg, _⟩
  · exact .inl rfl
  · right
    intro e
    have e' : g = b := by injection e
    subst e'
    rw [hg] at hb
    cases hb
    exact hne rfl
/-- 'clear' of one state. -/
theorem run_clear1 (w : World) (b o c ty : Nat) (hc0 : (w.cell? ⟨b, o, none⟩).isSome = true) (hc1 : (w.cell? ⟨b, o + 1, none⟩).isSome = true) (f0 : w.frozen? ⟨b, o, none⟩ = false) (f1 : w.frozen? ⟨b, o + 1, none⟩ = false) :
    (Builtin.clear_ #[54] ty #[.slice (some ⟨b, o, none⟩) 1 c]).run Try.prog w = .ok (.tuple #[]) ((w.setCell ⟨b, o, none⟩ (.slice none 0 0)).setCell ⟨b, o + 1, none⟩ (.int .i64 0)) := by
  obtain ⟨i0, hi, hz0, hz1, hz2⟩ := info_parts infoSt.2
  have hv : ∀ w : World, (zeroValue 57).run Try.prog w = .ok (.agg #[.slice none 0 0, .int .i64 0]) w := fun w => by
    simp [zeroValue, typeInfo, hi, hz0]
  have hst := run_storeCells_cells (P := Try.prog) b o [.slice none 0 0, .int .i64 0] 0 w (fun j hj => by
    match j, hj with
    | 0, _ => simpa using hc0
    | 1, _ => simpa using hc1) (fun j hj => by
    match j, hj with
    | 0, _ => simpa using f0
    | 1, _ => simpa using f1) (by intro v hv; simp at hv; rcases hv with rfl | rfl <;> rfl)
  simp only [Nat.add_zero] at hst
  have hzc : (Builtin.zeroCells (Value.agg #[.slice none 0 0, .int .i64 0]).cells 1).toList = [.slice none 0 0, .int .i64 0] := by first | kernel_rfl | (simp [Builtin.zeroCells, Value.cells, Array.range, List.range, List.range.loop])
  simp [Builtin.clear_, run_underlying Try.underlying54, hv, hzc, hst, World.setCells]
/-- The list without its last. -/
theorem row_less {w : World} {B g c e s n m : Nat} {xs : List Value} (h : w.ownsRow B e s (.slice (some ⟨g, 0, none⟩) n c) n xs) (hm : m ≤ n) : w.ownsRow B e s (.slice (some ⟨g, 0, none⟩) m c) m (xs.take (m * s)) := by
  have hms : m * s ≤ n * s := Nat.mul_le_mul_right s hm
  rcases h.2 with ⟨h', _⟩ | ⟨g', cap', cur, h', hb, hg, hnc, hcm, hcs, htake⟩
  · simp at h'
  · simp only [Value.slice.injEq, Option.some.injEq, Addr.mk.injEq, and_true, true_and] at h'
    obtain ⟨rfl, rfl⟩ := h'
    refine ⟨by rw [List.length_take, h.1]; omega, .inr ⟨g, c, cur, rfl, hb, hg, Nat.le_trans hm hnc, hcm, hcs, ?_⟩⟩
    rw [← htake, List.take_take]
    congr 1
    omega
theorem rowVals_take : ∀ (ps : List Sp) (m : Nat), (rowVals spCells ps).take (m * 2) = rowVals spCells (ps.take m)
  | ps, 0 => by simp [rowVals]
  | [], m + 1 => by simp [rowVals]
  | p :: ps, m + 1 => by
    show (spCells p ++ rowVals spCells ps).take ((m + 1) * 2) = spCells p ++ rowVals spCells (ps.take m)
    rw [← rowVals_take ps m, show (m + 1) * 2 = m * 2 + 2 by omega]
    rfl
/-- The last one in the first's place, its own place cleared, the list shorter by one. -/
theorem Own.cut {w w3 : World} {B g c : Nat} {ps : List Sp} {y : Sp} {m : Nat} (h : Own w B (some ⟨g, 0, none⟩) c ps) (hm : ps.length = m + 1) (hy : ps[m]? = some y)
    (hr : w3.ownsRow B 57 2 (.slice (some ⟨g, 0, none⟩) (ps.set 0 y).length c) (ps.set 0 y).length (rowVals spCells (ps.set 0 y))) (hg3 : w.grownBy w3 (some g)) :
    Own ((w3.setCell ⟨g, m * 2, none⟩ (.slice none 0 0)).setCell ⟨g, m * 2 + 1, none⟩ (.int .i64 0)) B (some ⟨g, 0, none⟩) c (cutL ps) ∧ w.grownBy ((w3.setCell ⟨g, m * 2, none⟩ (.slice none 0 0)).setCell ⟨g, m * 2 + 1, none⟩ (.int .i64 0)) (some g) := by
  have s0 := hr.stored (m * 2) (.slice none 0 0)
  have s1 := s0.1.stored (m * 2 + 1) (.int .i64 0)
  have hg := grownBy_trans hg3 (grownBy_trans s0.2 s1.2)
  have hcut : cutL ps = (ps.set 0 y).take m := by rw [cutL_of (y := y) (by rw [hm]; exact hy), hm]; rfl
  have hlc : (cutL ps).length = m := by rw [cutL_len, hm]; rfl
  have hat : ∀ (i : Nat) (p : Sp), (cutL ps)[i]? = some p → ∃ j, ps[j]? = some p ∧ (j = if i = 0 then m else i) ∧ i < m := by
    intro i p hp
    have hi := (List.getElem?_eq_some_iff.1 hp).1
    rw [hlc] at hi
    rw [hcut, List.getElem?_take, if_pos hi] at hp
    by_cases e : i = 0
    · subst e
      rw [List.getElem?_set_self (by omega)] at hp
      cases hp
      exact ⟨m, hy, by simp, hi⟩
    · rw [List.getElem?_set_ne (by omega)] at hp
      exact ⟨i, hp, by simp [e], hi⟩
  refine ⟨⟨?_, ?_, ?_⟩, hg⟩
  · have r2 := row_less s1.1 (show m ≤ (ps.set 0 y).length by simp; omega)
    rw [hlc, hcut, ← rowVals_take]
    rw [List.take_set_of_le (by omega), List.take_set_of_le (by omega)] at r2
    exact r2
  · intro p hp
    obtain ⟨i, hi⟩ := List.mem_iff_getElem?.1 hp
    obtain ⟨j, hj, -, -⟩ := hat i p hi
    have hmem := List.mem_of_getElem? hj
    exact (h.each p hmem).kept hg (types_apart (h.each p hmem) h.row (by decide))
  · intro i j p q hij hp hq
    obtain ⟨k, hk, ek, him⟩ := hat i p hp
    obtain ⟨l, hl, el, hjm⟩ := hat j q hq
    refine h.apart k l p q ?_ hk hl
    subst ek el
    split <;> split <;> omega
/-- The last one in the first's place, the list shorter by one. -/
theorem Own.cut0 {w w3 : World} {B g c : Nat} {ps : List Sp} {y : Sp} {m : Nat} (h : Own w B (some ⟨g, 0, none⟩) c ps) (hm : ps.length = m + 1) (hy : ps[m]? = some y)
    (hr : w3.ownsRow B 57 2 (.slice (some ⟨g, 0, none⟩) (ps.set 0 y).length c) (ps.set 0 y).length (rowVals spCells (ps.set 0 y))) (hg3 : w.grownBy w3 (some g)) :
    Own w3 B (some ⟨g, 0, none⟩) c (cutL ps) := by
  have hg := hg3
  have hcut : cutL ps = (ps.set 0 y).take m := by rw [cutL_of (y := y) (by rw [hm]; exact hy), hm]; rfl
  have hlc : (cutL ps).length = m := by rw [cutL_len, hm]; rfl
  have hat : ∀ (i : Nat) (p : Sp), (cutL ps)[i]? = some p → ∃ j, ps[j]? = some p ∧ (j = if i = 0 then m else i) ∧ i < m := by
    intro i p hp
    have hi := (List.getElem?_eq_some_iff.1 hp).1
    rw [hlc] at hi
    rw [hcut, List.getElem?_take, if_pos hi] at hp
    by_cases e : i = 0
    · subst e
      rw [List.getElem?_set_self (by omega)] at hp
      cases hp
      exact ⟨m, hy, by simp, hi⟩
    · rw [List.getElem?_set_ne (by omega)] at hp
      exact ⟨i, hp, by simp [e], hi⟩
  refine ⟨?_, ?_, ?_⟩
  · have r2 := row_less hr (show m ≤ (ps.set 0 y).length by simp; omega)
    rw [hlc, hcut, ← rowVals_take]
    exact r2
  · intro p hp
    obtain ⟨i, hi⟩ := List.mem_iff_getElem?.1 hp
    obtain ⟨j, hj, -, -⟩ := hat i p hi
    have hmem := List.mem_of_getElem? hj
    exact (h.each p hmem).kept hg (types_apart (h.each p hmem) h.row (by decide))
  · intro i j p q hij hp hq
    obtain ⟨k, hk, ek, him⟩ := hat i p hp
    obtain ⟨l, hl, el, hjm⟩ := hat j q hq
    refine h.apart k l p q ?_ hk hl
    subst ek el
    split <;> split <;> omega
end Go.Proofs.Ytokfemlcamnaaaa
