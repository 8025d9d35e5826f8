/- A piece of the laws' own that came in: what it holds. -/
import Derived.Test.YtokfemlcamnaaaaOpenRow
import Derived.Test.YtokfemlcamnaaaaPcLib
namespace Go.Proofs.Ytokfemlcamnaaaa
open Go.RowKit Go.Deep

theorem ci : Try.prog.cellsOf 3 = 1 := by kernel_rfl
theorem cb : Try.prog.cellsOf 4 = 1 := by kernel_rfl
theorem cst : Try.prog.cellsOf 9 = 1 := by kernel_rfl
theorem csp : Try.prog.cellsOf 172 = 4 := by kernel_rfl
theorem c42 : Try.prog.cellsOf 73 = 1 := by kernel_rfl
theorem c43 : Try.prog.cellsOf 74 = 1 := by kernel_rfl
theorem c44 : Try.prog.cellsOf 75 = 1 := by kernel_rfl
theorem c45 : Try.prog.cellsOf 76 = 1 := by kernel_rfl

section
variable {H : Type} {enc : TypeId × Value → H} {w : World} {base : Nat} {spare : Nat → Bool} {held : Bool} {fuel : Nat} {cs : List Value} {x : DataW H × List MemPlace}

set_option maxRecDepth 100000 in
theorem open_rule (hl : cs.length = 2) (h : DataW.trod enc Try.prog w base spare held fuel 176 cs = some x) : ∃ q : Ru, True ∧ ∀ j, j < 2 → cs[j]? = (ruCells q)[j]? := by
  obtain ⟨xs, k, hk, hxy, _, hxl, hf⟩ := DataW.trod_struct Try.underlying176 h
  match xs, hxl, cs, hl with
  | [y0, y1], _, [v0, v1], _ =>
    have g0 := hf 0 _ rfl
    have g1 := hf 1 _ rfl
    simp [ci] at g0 g1
    obtain ⟨z0, e0, _⟩ := DataW.trod_int Try.underlying3 g0
    obtain ⟨z1, e1, _⟩ := DataW.trod_int Try.underlying3 g1
    refine ⟨⟨z0, z1⟩, trivial, fun j hj => ?_⟩
    match j, hj with
    | 0, _ => simpa [ruCells] using e0
    | 1, _ => simpa [ruCells] using e1

set_option maxRecDepth 100000 in
theorem open_tie (hl : cs.length = 2) (h : DataW.trod enc Try.prog w base spare held fuel 181 cs = some x) : ∃ q : Ti, True ∧ ∀ j, j < 2 → cs[j]? = (tiCells q)[j]? := by
  obtain ⟨xs, k, hk, hxy, _, hxl, hf⟩ := DataW.trod_struct Try.underlying181 h
  match xs, hxl, cs, hl with
  | [y0, y1], _, [v0, v1], _ =>
    have g0 := hf 0 _ rfl
    have g1 := hf 1 _ rfl
    simp [ci] at g0 g1
    obtain ⟨z0, e0, _⟩ := DataW.trod_int Try.underlying3 g0
    obtain ⟨z1, e1, _⟩ := DataW.trod_int Try.underlying3 g1
    refine ⟨⟨z0, z1⟩, trivial, fun j hj => ?_⟩
    match j, hj with
    | 0, _ => simpa [tiCells] using e0
    | 1, _ => simpa [tiCells] using e1

set_option maxRecDepth 100000 in
theorem open_span (hl : cs.length = 3) (h : DataW.trod enc Try.prog w base spare held fuel 179 cs = some x) : ∃ q : Sn, True ∧ ∀ j, j < 3 → cs[j]? = (snCells q)[j]? := by
  obtain ⟨xs, k, hk, hxy, _, hxl, hf⟩ := DataW.trod_struct Try.underlying179 h
  match xs, hxl, cs, hl with
  | [y0, y1, y2], _, [v0, v1, v2], _ =>
    have g0 := hf 0 _ rfl
    have g1 := hf 1 _ rfl
    have g2 := hf 2 _ rfl
    simp [ci] at g0 g1 g2
    obtain ⟨z0, e0, _⟩ := DataW.trod_int Try.underlying3 g0
    obtain ⟨z1, e1, _⟩ := DataW.trod_int Try.underlying3 g1
    obtain ⟨z2, e2, _⟩ := DataW.trod_int Try.underlying3 g2
    refine ⟨⟨z0, z1, z2⟩, trivial, fun j hj => ?_⟩
    match j, hj with
    | 0, _ => simpa [snCells] using e0
    | 1, _ => simpa [snCells] using e1
    | 2, _ => simpa [snCells] using e2

set_option maxRecDepth 100000 in
theorem open_chunk (hl : cs.length = 5) (h : DataW.trod enc Try.prog w base spare held fuel 174 cs = some x) : ∃ q : Ch, q.text.size ≤ maxLen ∧ ∀ j, j < 5 → cs[j]? = (chCells q)[j]? := by
  obtain ⟨xs, k, hk, hxy, _, hxl, hf⟩ := DataW.trod_struct Try.underlying174 h
  match xs, hxl, cs, hl with
  | [y0, y1], _, [v0, v1, v2, v3, v4], _ =>
    have g0 := hf 0 _ rfl
    have g1 := hf 1 _ rfl
    simp [cst, csp] at g0 g1
    obtain ⟨z0, e0, _, hsz⟩ := DataW.trod_string Try.underlying9 g0
    obtain ⟨zs, k2, hk2, hxy2, _, hzl, hf2⟩ := DataW.trod_struct Try.underlying172 g1
    match zs, hzl with
    | [u0, u1, u2, u3], _ =>
      have f0 := hf2 0 _ rfl
      have f1 := hf2 1 _ rfl
      have f2 := hf2 2 _ rfl
      have f3 := hf2 3 _ rfl
      simp [ci, cb] at f0 f1 f2 f3
      obtain ⟨z1, e1, _⟩ := DataW.trod_int Try.underlying3 f0
      obtain ⟨z2, e2, _⟩ := DataW.trod_int Try.underlying3 f1
      obtain ⟨z3, e3, _⟩ := DataW.trod_bool Try.underlying4 f2
      obtain ⟨z4, e4, _⟩ := DataW.trod_int Try.underlying3 f3
      refine ⟨⟨z0, z1, z2, z3, z4⟩, hsz, fun j hj => ?_⟩
      match j, hj with
      | 0, _ => simpa [chCells] using e0
      | 1, _ => simpa [chCells] using e1
      | 2, _ => simpa [chCells] using e2
      | 3, _ => simpa [chCells] using e3
      | 4, _ => simpa [chCells] using e4

set_option maxRecDepth 100000 in
theorem open_piece (hl : cs.length = 5) (h : DataW.trod enc Try.prog w base spare held fuel 78 cs = some x) : ∃ (p : Pc) (l : Pl), PcOk p ∧ PcIn w p l ∧ Value.agg cs.toArray = pcV p l := by
  obtain ⟨xs, k, hk, hxy, _, hxl, hf⟩ := DataW.trod_struct Try.underlying78 h
  match xs, hxl, cs, hl with
  | [y0, y1, y2, y3, y4], _, [v0, v1, v2, v3, v4], _ =>
    have g0 := hf 0 _ rfl
    have g1 := hf 1 _ rfl
    have g2 := hf 2 _ rfl
    have g3 := hf 3 _ rfl
    have g4 := hf 4 _ rfl
    simp [ci, c42, c43, c44, c45] at g0 g1 g2 g3 g4
    haveI : Inhabited Ru := ⟨⟨0, 0⟩⟩
    haveI : Inhabited Ti := ⟨⟨0, 0⟩⟩
    haveI : Inhabited Sn := ⟨⟨0, 0, 0⟩⟩
    haveI : Inhabited Ch := ⟨⟨ByteArray.empty, 0, 0, false, 0⟩⟩
    obtain ⟨z0, e0, _⟩ := DataW.trod_int Try.underlying3 g0
    obtain ⟨a1, n1, c1, x1, e1, l1, m1, -, r1⟩ := open_rows (Q := fun _ => True) ruCells_len (by omega) Try.underlying73 (by kernel_rfl) (fun n cs' y hl h => open_rule hl h) g1
    obtain ⟨a2, n2, c2, x2, e2, l2, m2, q2, r2⟩ := open_rows (Q := fun q : Ch => q.text.size ≤ maxLen) chCells_len (by omega) Try.underlying74 (by kernel_rfl) (fun n cs' y hl h => open_chunk hl h) g2
    obtain ⟨a3, n3, c3, x3, e3, l3, m3, -, r3⟩ := open_rows (Q := fun _ => True) snCells_len (by omega) Try.underlying75 (by kernel_rfl) (fun n cs' y hl h => open_span hl h) g3
    obtain ⟨a4, n4, c4, x4, e4, l4, m4, -, r4⟩ := open_rows (Q := fun _ => True) tiCells_len (by omega) Try.underlying76 (by kernel_rfl) (fun n cs' y hl h => open_tie hl h) g4
    subst m1 m2 m3 m4
    simp at e0 e1 e2 e3 e4
    subst e0 e1 e2 e3 e4
    unfold maxLen at *
    exact ⟨⟨z0, x1, x2, x3, x4⟩, ⟨a1, c1, a2, c2, a3, c3, a4, c4⟩, ⟨by show x1.length ≤ _; omega, by show x2.length ≤ _; omega, fun y hy => by have := q2 y hy; omega, by show x3.length ≤ _; omega, by show x4.length ≤ _; omega⟩, ⟨r1, r2, r3, r4⟩, rfl⟩
end
end Go.Proofs.Ytokfemlcamnaaaa
