/- Lists of states that are made: one more state in a row of their own, and what a call that makes states or lists of them tells. -/
import Derived.Test.YtokfemlcamnaaaaGreatStLib
namespace Go.Proofs.YtokfemlcamnaaaaGreat
open Go.RowKit

/-- A state, its Vals in memory of their own. -/
def SvAns (x : St) (w : World) (e : Ending) (w' : World) : Prop :=
  ∃ a c, e = .returned (.agg #[.slice a x.vals.length c, .int .i64 x.sum]) ∧ w'.ownsRow w.heap.size 3 1 (.slice a x.vals.length c) x.vals.length (intVals x.vals) ∧ Below w.heap.size w w'
/-- A list of states, in memory of its own. -/
def StsAns (xs : List St) (w : World) (e : Ending) (w' : World) : Prop :=
  ∃ a c ps, e = .returned (.slice a ps.length c) ∧ ps.map Sp.st = xs ∧ Own w' w.heap.size a c ps ∧ Below w.heap.size w w'
theorem grown_set (w : World) (p : Addr) (u : Value) : w.grownBy (w.setCell p u) (some p.block) :=
  ⟨rfl, rfl, rfl, by simp, fun k _ hk => heap_setCell_other w p k u (fun e => hk (by simp [e]))⟩
theorem own_put {w : World} {B e s n : Nat} {v : Value} {xs : List Value} (h : w.ownsRow B e s v n xs) (p : Addr) (u : Value) (hne : v.ownBlock = none ∨ v.ownBlock ≠ some p.block) : (w.setCell p u).ownsRow B e s v n xs := h.kept (grown_set w p u) hne
theorem Own.blk_lt {w : World} {B : Nat} {a : Option Addr} {c : Nat} {ps : List Sp} (h : Own w B a c ps) {p : Sp} (hp : p ∈ ps) {g : Nat} (hg : p.blk = some g) : B ≤ g ∧ g < w.heap.size := (h.each p hp).lt g hg
/-- A made row, of which the first states are there. -/
structure Made (w : World) (B g n : Nat) (ps : List Sp) : Prop where
  row : ∃ zs, w.ownsRow B 54 2 (.slice (some ⟨g, 0, none⟩) n n) n zs ∧ zs.take (ps.length * 2) = rowVals spCells ps
  each : ∀ p ∈ ps, w.ownsRow B 3 1 (.slice p.a p.st.vals.length p.c) p.st.vals.length (intVals p.st.vals)
  apart : ∀ (i j : Nat) (p q : Sp), i ≠ j → ps[i]? = some p → ps[j]? = some q → ∀ g, p.blk = some g → q.blk ≠ some g
theorem Made.below {w w' : World} {B g n : Nat} {ps : List Sp} (h : Made w B g n ps) (hb : Below w.heap.size w w') : Made w' B g n ps := by
  obtain ⟨zs, h1, h2⟩ := h.row
  exact ⟨⟨zs, owns_below h1 hb, h2⟩, fun p hp => owns_below (h.each p hp) hb, h.apart⟩
theorem Made.own {w : World} {B g n : Nat} {ps : List Sp} (h : Made w B g n ps) (hn : ps.length = n) : Own w B (some ⟨g, 0, none⟩) n ps := by
  subst hn
  obtain ⟨zs, h1, h2⟩ := h.row
  rw [List.take_of_length_le (by have := h1.1; omega)] at h2
  rw [h2] at h1
  exact ⟨h1, h.each, h.apart⟩
theorem Made.cells {w : World} {B g n : Nat} {ps : List Sp} (h : Made w B g n ps) (k : Nat) (hk : k < n) : (∃ u, w.cell? ⟨g, k * 2, none⟩ = some u) ∧ (∃ u, w.cell? ⟨g, k * 2 + 1, none⟩ = some u) ∧ w.frozen? ⟨g, k * 2, none⟩ = false ∧ w.frozen? ⟨g, k * 2 + 1, none⟩ = false := by
  obtain ⟨zs, h1, _⟩ := h.row
  have hl : zs.length = n * 2 := h1.1
  exact ⟨⟨_, (h1.cellAt (k * 2) (by omega)).trans (List.getElem?_eq_getElem (by omega))⟩, ⟨_, (h1.cellAt (k * 2 + 1) (by omega)).trans (List.getElem?_eq_getElem (by omega))⟩, h1.frozenAt _, h1.frozenAt _⟩
/-- The new one lies apart from all that were there. -/
theorem apart_app {ps : List Sp} {p : Sp} (h : ∀ (i j : Nat) (p q : Sp), i ≠ j → ps[i]? = some p → ps[j]? = some q → ∀ g, p.blk = some g → q.blk ≠ some g) (hn : ∀ q ∈ ps, ∀ g, q.blk = some g → p.blk ≠ some g) :
    ∀ (i j : Nat) (x y : Sp), i ≠ j → (ps ++ [p])[i]? = some x → (ps ++ [p])[j]? = some y → ∀ g, x.blk = some g → y.blk ≠ some g := by
  intro i j x y hij hx hy g hg
  have hi := (List.getElem?_eq_some_iff.1 hx).1
  have hj := (List.getElem?_eq_some_iff.1 hy).1
  simp only [List.length_append, List.length_cons, List.length_nil] at hi hj
  by_cases ei : i = ps.length
  · subst ei
    rw [List.getElem?_append_left (by omega)] at hy
    have : x = p := by simpa using hx.symm
    subst this
    intro hg2
    exact hn y (List.mem_of_getElem? hy) g hg2 hg
  · rw [List.getElem?_append_left (by omega)] at hx
    by_cases ej : j = ps.length
    · subst ej
      have : y = p := by simpa using hy.symm
      subst this
      exact hn x (List.mem_of_getElem? hx) g hg
    · rw [List.getElem?_append_left (by omega)] at hy
      exact h i j x y hij hx hy g hg
theorem Made.step {w w1 : World} {B g n : Nat} {ps : List Sp} (p : Sp) (h : Made w B g n ps) (hb : Below w.heap.size w w1) (hB : B ≤ w.heap.size) (hk : ps.length < n) (ho : w1.ownsRow w.heap.size 3 1 (.slice p.a p.st.vals.length p.c) p.st.vals.length (intVals p.st.vals)) :
    Made ((w1.setCell ⟨g, ps.length * 2, none⟩ (.slice p.a p.st.vals.length p.c)).setCell ⟨g, ps.length * 2 + 1, none⟩ (.int .i64 p.st.sum)) B g n (ps ++ [p]) ∧ w1.grownBy ((w1.setCell ⟨g, ps.length * 2, none⟩ (.slice p.a p.st.vals.length p.c)).setCell ⟨g, ps.length * 2 + 1, none⟩ (.int .i64 p.st.sum)) (some g) := by
  have h1 := h.below hb
  obtain ⟨zs, r1, r2⟩ := h1.row
  have hl : zs.length = n * 2 := r1.1
  have s0 := r1.stored (ps.length * 2) (.slice p.a p.st.vals.length p.c)
  have s1 := s0.1.stored (ps.length * 2 + 1) (.int .i64 p.st.sum)
  have hg := grownBy_trans s0.2 s1.2
  have hx : (ps ++ [p])[ps.length]? = some p := by simp
  have hz := layAt_take spCells_len (xs := ps ++ [p]) (k := ps.length) (zs := zs) (by omega) hx (by rw [r2]; simp)
  refine ⟨⟨⟨_, s1.1, ?_⟩, ?_, ?_⟩, hg⟩
  · rw [List.take_of_length_le (show (ps ++ [p]).length ≤ ps.length + 1 by simp)] at hz
    rw [List.length_append]
    exact hz
  · intro q hq
    rcases List.mem_append.1 hq with hq | hq
    · exact (h1.each q hq).kept hg (types_apart (h1.each q hq) r1 (by decide))
    · have : q = p := by simpa using hq
      subst this
      exact ownsRow_base (ho.kept hg (types_apart ho r1 (by decide))) hB
  · exact apart_app h.apart fun q hq k hk1 hk2 => by
      have := ((h.each q hq).lt k hk1).2
      have := (ho.lt k hk2).1
      omega
/-- One more state behind the list. -/
theorem Own.append {w w3 : World} {B : Nat} {a a' : Option Addr} {c c' : Nat} {ps : List Sp} {x : Sp} (h : Own w B a c ps) (ho : w.ownsRow B 3 1 (.slice x.a x.st.vals.length x.c) x.st.vals.length (intVals x.st.vals)) (hx : ∀ q ∈ ps, ∀ g, q.blk = some g → x.blk ≠ some g)
    (hg : w.grownBy w3 (Value.slice a ps.length c).ownBlock) (hr : w3.ownsRow B 54 2 (.slice a' (ps.length + 1) c') (ps.length + 1) (rowVals spCells ps ++ spCells x)) : Own w3 B a' c' (ps ++ [x]) := by
  refine ⟨?_, ?_, apart_app h.apart hx⟩
  · rw [rowVals_app, rowVals_one, List.length_append]
    exact hr
  · intro q hq
    rcases List.mem_append.1 hq with hq | hq
    · exact (h.each q hq).kept hg (types_apart (h.each q hq) h.row (by decide))
    · have : q = x := by simpa using hq
      subst this
      exact ho.kept hg (types_apart ho h.row (by decide))
theorem few_app {ps : List Sp} {x : Sp} (h : Few ps) (hx : x.st.vals.length ≤ 1048576) : Few (ps ++ [x]) := fun p hp => by
  rcases List.mem_append.1 hp with hp | hp
  · exact h p hp
  · have : p = x := by simpa using hp
    subst this
    exact hx
theorem one_sp (x : Sp) : ∀ u ∈ spCells x, u.oneCell' = true := fun u hu => by
  simp [spCells] at hu
  rcases hu with rfl | rfl <;> rfl
theorem cells_sp_new (w : World) (x : Sp) (t : Nat) : ∀ j u, (spCells x)[j]? = some u → (w.alloc (.cells #[.slice x.a x.st.vals.length x.c, .int .i64 x.st.sum] t)).cell? ((⟨w.heap.size, 0, none⟩ : Addr).add j) = some u := by
  intro j u hu
  have hj : j < 2 := by have := (List.getElem?_eq_some_iff.1 hu).1; simpa [spCells] using this
  match j, hj with
  | 0, _ => simp [spCells] at hu; subst hu; simp [Addr.add]
  | 1, _ => simp [spCells] at hu; subst hu; simp [Addr.add]
theorem few_st {ps : List Sp} {qs : List Sp} (h : qs.map Sp.st = ps.map Sp.st) (hF : Few ps) : Few qs := fun q hq => by
  have h1 : q.st ∈ ps.map Sp.st := by rw [← h]; exact List.mem_map_of_mem hq
  obtain ⟨p, hp, e⟩ := List.mem_map.1 h1
  rw [← e]
  exact hF p hp
theorem len_st {ps qs : List Sp} {n : Nat} (h : qs.map Sp.st = ps.map Sp.st) (hn : ps.length ≤ n) : qs.length ≤ n := by
  have := congrArg List.length h
  simp at this
  omega
end Go.Proofs.YtokfemlcamnaaaaGreat
