/- A list of flat structs that came in: what its cells hold, said once for all of them. -/
import Derived.Test.YtghfpcjgionbaaaProg
import Derived.Test.YtghfpcjgionbaaaRowLib
import Derived.Deep.Slices
import Derived.ProofKit
import Derived.Test.YtghfpcjgionbaaaPcLib
namespace Go.Proofs.Ytghfpcjgionbaaa
open Go.RowKit Go.Deep

theorem plain_addr {w : World} {a : Addr} {v : Value} (h : w.cell? a = some v) : ∃ b o, a = ⟨b, o, none⟩ ∧ b < w.heap.size := by
  obtain ⟨b, off, sp⟩ := a
  have hsp : sp = none := by
    cases sp with
    | none => rfl
    | some y =>
      rw [World.cell?] at h
      split at h <;> simp at h
  subst hsp
  refine ⟨b, off, rfl, ?_⟩
  rcases Nat.lt_or_ge b w.heap.size with h' | h'
  · exact h'
  · rw [World.cell?] at h
    simp [Array.getElem?_eq_none h'] at h
theorem add_plain (b o j : Nat) : (⟨b, o, none⟩ : Addr).add j = ⟨b, o + j, none⟩ := by unfold Addr.add; split <;> simp_all

theorem open_rows {α : Type} [Inhabited α] {s : Nat} {cells : α → List Value} {Q : α → Prop} (hs : ∀ x, (cells x).length = s) (hs0 : 0 < s) {H : Type} {enc : TypeId × Value → H} {w : World} {base : Nat} {spare : Nat → Bool} {held : Bool} {fuel : Nat} {cs : List Value} {x : DataW H × List MemPlace} {t e : TypeId}
    (ht : Try.prog.underlying t = some (.slice e)) (ce : Try.prog.cellsOf e = s)
    (one : ∀ (n : Nat) (cs' : List Value) (y : DataW H × List MemPlace), cs'.length = s → DataW.trod enc Try.prog w base spare held n e cs' = some y → ∃ q : α, Q q ∧ ∀ j, j < s → cs'[j]? = (cells q)[j]?)
    (h : DataW.trod enc Try.prog w base spare held fuel t cs = some x) :
    ∃ (a : Option Addr) (len cap : Nat) (xs : List α), cs = [.slice a len cap] ∧ len ≤ maxLen ∧ xs.length = len ∧ (∀ y ∈ xs, Q y) ∧ RowsAt s cells w a xs := by
  rcases open_slice ht h with h0 | ⟨a, len, cap, m, n, D, Pl, rfl, hb, hl, hm, hmm, rfl, hx⟩
  · exact ⟨none, 0, 0, [], h0.1, Nat.zero_le _, rfl, (fun y hy => by cases hy), rowsAt_nil⟩
  have hlm : len ≤ m := by rw [hmm]; split <;> omega
  have each : ∀ i, i < len → ∃ q : α, Q q ∧ ∀ j, j < s → w.cell? ((a.add (i * s)).add j) = (cells q)[j]? := by
    intro i hi
    obtain ⟨cs', h1, h2⟩ := hx i (by omega)
    rw [ce] at h1
    obtain ⟨_, hlen, hcell⟩ := World.cells?_some h1
    obtain ⟨q, hq, hc⟩ := one _ cs' _ hlen h2
    exact ⟨q, hq, fun j hj => by rw [hcell j hj]; exact hc j hj⟩
  obtain ⟨q, hq⟩ := choose_lt each
  refine ⟨some a, len, cap, (List.range len).map q, rfl, Nat.le_trans hl hm, by simp, ?_, fun hn => ?_⟩
  · intro y hy
    obtain ⟨i, hi, rfl⟩ := List.mem_map.1 hy
    exact (hq i (List.mem_range.1 hi)).1
  · have hn' : 0 < len := by simpa using hn
    have hc0 := (hq 0 hn').2 0 hs0
    rw [add_add] at hc0
    have e0 : a.add (0 * s + 0) = a := by simp [Addr.add]
    rw [e0] at hc0
    have h00 : 0 < (cells (q 0)).length := by rw [hs]; exact hs0
    rw [List.getElem?_eq_getElem h00] at hc0
    obtain ⟨b, o, rfl, hlt⟩ := plain_addr hc0
    refine ⟨b, o, rfl, hlt, fun k y hy j hj => ?_⟩
    have hk : k < len := by have := (List.getElem?_eq_some_iff.1 hy).1; simpa using this
    have hyk : q k = y := by simpa [List.getElem?_map, List.getElem?_range hk] using hy
    have hc := (hq k hk).2 j hj
    rw [hyk, add_add, add_plain, ← Nat.add_assoc] at hc
    exact hc
end Go.Proofs.Ytghfpcjgionbaaa
/- A piece of the laws' own that came in: what it holds. -/
namespace Go.Proofs.Ytghfpcjgionbaaa
open Go.RowKit Go.Deep

theorem ci : Try.prog.cellsOf 3 = 1 := by kernel_rfl
theorem cb : Try.prog.cellsOf 4 = 1 := by kernel_rfl
theorem cst : Try.prog.cellsOf 9 = 1 := by kernel_rfl
theorem csp : Try.prog.cellsOf 122 = 4 := by kernel_rfl
theorem c42 : Try.prog.cellsOf 48 = 1 := by kernel_rfl
theorem c43 : Try.prog.cellsOf 49 = 1 := by kernel_rfl
theorem c44 : Try.prog.cellsOf 50 = 1 := by kernel_rfl
theorem c45 : Try.prog.cellsOf 51 = 1 := by kernel_rfl

section
variable {H : Type} {enc : TypeId × Value → H} {w : World} {base : Nat} {spare : Nat → Bool} {held : Bool} {fuel : Nat} {cs : List Value} {x : DataW H × List MemPlace}

set_option maxRecDepth 100000 in
theorem open_rule (hl : cs.length = 2) (h : DataW.trod enc Try.prog w base spare held fuel 126 cs = some x) : ∃ q : Ru, True ∧ ∀ j, j < 2 → cs[j]? = (ruCells q)[j]? := by
  obtain ⟨xs, k, hk, hxy, _, hxl, hf⟩ := DataW.trod_struct Try.underlying126 h
  match xs, hxl, cs, hl with
  | [y0, y1], _, [v0, v1], _ =>
    have g0 := hf 0 _ rfl
    have g1 := hf 1 _ rfl
    simp [ci] at g0 g1
    obtain ⟨z0, e0, _⟩ := DataW.trod_int Try.underlying3 g0
    obtain ⟨z1, e1, _⟩ := DataW.trod_int Try.underlying3 g1
    refine ⟨⟨z0, z1⟩, trivial, fun j hj => ?_⟩
    match j, hj with
    | 0, _ => simpa [ruCells] using e0
    | 1, _ => simpa [ruCells] using e1

set_option maxRecDepth 100000 in
theorem open_tie (hl : cs.length = 2) (h : DataW.trod enc Try.prog w base spare held fuel 131 cs = some x) : ∃ q : Ti, True ∧ ∀ j, j < 2 → cs[j]? = (tiCells q)[j]? := by
  obtain ⟨xs, k, hk, hxy, _, hxl, hf⟩ := DataW.trod_struct Try.underlying131 h
  match xs, hxl, cs, hl with
  | [y0, y1], _, [v0, v1], _ =>
    have g0 := hf 0 _ rfl
    have g1 := hf 1 _ rfl
    simp [ci] at g0 g1
    obtain ⟨z0, e0, _⟩ := DataW.trod_int Try.underlying3 g0
    obtain ⟨z1, e1, _⟩ := DataW.trod_int Try.underlying3 g1
    refine ⟨⟨z0, z1⟩, trivial, fun j hj => ?_⟩
    match j, hj with
    | 0, _ => simpa [tiCells] using e0
    | 1, _ => simpa [tiCells] using e1

set_option maxRecDepth 100000 in
theorem open_span (hl : cs.length = 3) (h : DataW.trod enc Try.prog w base spare held fuel 129 cs = some x) : ∃ q : Sn, True ∧ ∀ j, j < 3 → cs[j]? = (snCells q)[j]? := by
  obtain ⟨xs, k, hk, hxy, _, hxl, hf⟩ := DataW.trod_struct Try.underlying129 h
  match xs, hxl, cs, hl with
  | [y0, y1, y2], _, [v0, v1, v2], _ =>
    have g0 := hf 0 _ rfl
    have g1 := hf 1 _ rfl
    have g2 := hf 2 _ rfl
    simp [ci] at g0 g1 g2
    obtain ⟨z0, e0, _⟩ := DataW.trod_int Try.underlying3 g0
    obtain ⟨z1, e1, _⟩ := DataW.trod_int Try.underlying3 g1
    obtain ⟨z2, e2, _⟩ := DataW.trod_int Try.underlying3 g2
    refine ⟨⟨z0, z1, z2⟩, trivial, fun j hj => ?_⟩
    match j, hj with
    | 0, _ => simpa [snCells] using e0
    | 1, _ => simpa [snCells] using e1
    | 2, _ => simpa [snCells] using e2

set_option maxRecDepth 100000 in
theorem open_chunk (hl : cs.length = 5) (h : DataW.trod enc Try.prog w base spare held fuel 124 cs = some x) : ∃ q : Ch, q.text.size ≤ maxLen ∧ ∀ j, j < 5 → cs[j]? = (chCells q)[j]? := by
  obtain ⟨xs, k, hk, hxy, _, hxl, hf⟩ := DataW.trod_struct Try.underlying124 h
  match xs, hxl, cs, hl with
  | [y0, y1], _, [v0, v1, v2, v3, v4], _ =>
    have g0 := hf 0 _ rfl
    have g1 := hf 1 _ rfl
    simp [cst, csp] at g0 g1
    obtain ⟨z0, e0, _, hsz⟩ := DataW.trod_string Try.underlying9 g0
    obtain ⟨zs, k2, hk2, hxy2, _, hzl, hf2⟩ := DataW.trod_struct Try.underlying122 g1
    match zs, hzl with
    | [u0, u1, u2, u3], _ =>
      have f0 := hf2 0 _ rfl
      have f1 := hf2 1 _ rfl
      have f2 := hf2 2 _ rfl
      have f3 := hf2 3 _ rfl
      simp [ci, cb] at f0 f1 f2 f3
      obtain ⟨z1, e1, _⟩ := DataW.trod_int Try.underlying3 f0
      obtain ⟨z2, e2, _⟩ := DataW.trod_int Try.underlying3 f1
      obtain ⟨z3, e3, _⟩ := DataW.trod_bool Try.underlying4 f2
      obtain ⟨z4, e4, _⟩ := DataW.trod_int Try.underlying3 f3
      refine ⟨⟨z0, z1, z2, z3, z4⟩, hsz, fun j hj => ?_⟩
      match j, hj with
      | 0, _ => simpa [chCells] using e0
      | 1, _ => simpa [chCells] using e1
      | 2, _ => simpa [chCells] using e2
      | 3, _ => simpa [chCells] using e3
      | 4, _ => simpa [chCells] using e4

set_option maxRecDepth 100000 in
theorem open_piece (hl : cs.length = 5) (h : DataW.trod enc Try.prog w base spare held fuel 53 cs = some x) : ∃ (p : Pc) (l : Pl), PcOk p ∧ PcIn w p l ∧ Value.agg cs.toArray = pcV p l := by
  obtain ⟨xs, k, hk, hxy, _, hxl, hf⟩ := DataW.trod_struct Try.underlying53 h
  match xs, hxl, cs, hl with
  | [y0, y1, y2, y3, y4], _, [v0, v1, v2, v3, v4], _ =>
    have g0 := hf 0 _ rfl
    have g1 := hf 1 _ rfl
    have g2 := hf 2 _ rfl
    have g3 := hf 3 _ rfl
    have g4 := hf 4 _ rfl
    simp [ci, c42, c43, c44, c45] at g0 g1 g2 g3 g4
    haveI : Inhabited Ru := ⟨⟨0, 0⟩⟩
    haveI : Inhabited Ti := ⟨⟨0, 0⟩⟩
    haveI : Inhabited Sn := ⟨⟨0, 0, 0⟩⟩
    haveI : Inhabited Ch := ⟨⟨ByteArray.empty, 0, 0, false, 0⟩⟩
    obtain ⟨z0, e0, _⟩ := DataW.trod_int Try.underlying3 g0
    obtain ⟨a1, n1, c1, x1, e1, l1, m1, -, r1⟩ := open_rows (Q := fun _ => True) ruCells_len (by omega) Try.underlying48 (by kernel_rfl) (fun n cs' y hl h => open_rule hl h) g1
    obtain ⟨a2, n2, c2, x2, e2, l2, m2, q2, r2⟩ := open_rows (Q := fun q : Ch => q.text.size ≤ maxLen) chCells_len (by omega) Try.underlying49 (by kernel_rfl) (fun n cs' y hl h => open_chunk hl h) g2
    obtain ⟨a3, n3, c3, x3, e3, l3, m3, -, r3⟩ := open_rows (Q := fun _ => True) snCells_len (by omega) Try.underlying50 (by kernel_rfl) (fun n cs' y hl h => open_span hl h) g3
    obtain ⟨a4, n4, c4, x4, e4, l4, m4, -, r4⟩ := open_rows (Q := fun _ => True) tiCells_len (by omega) Try.underlying51 (by kernel_rfl) (fun n cs' y hl h => open_tie hl h) g4
    subst m1 m2 m3 m4
    simp at e0 e1 e2 e3 e4
    subst e0 e1 e2 e3 e4
    unfold maxLen at *
    exact ⟨⟨z0, x1, x2, x3, x4⟩, ⟨a1, c1, a2, c2, a3, c3, a4, c4⟩, ⟨by show x1.length ≤ _; omega, by show x2.length ≤ _; omega, fun y hy => by have := q2 y hy; omega, by show x3.length ≤ _; omega, by show x4.length ≤ _; omega⟩, ⟨r1, r2, r3, r4⟩, rfl⟩
end
end Go.Proofs.Ytghfpcjgionbaaa
