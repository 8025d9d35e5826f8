/- A list of the laws' cells that came in: what its cells hold. -/
import Derived.Test.YtdlbnllkfnfgoaaProg
import Derived.Test.YtdlbnllkfnfgoaaToCl
import Derived.Deep.Slices
import Derived.ProofKit
namespace Go.Proofs.Ytdlbnllkfnfgoaa
open Go.RowKit Go.Deep

theorem plain_addr {w : World} {a : Addr} {v : Value} (h : w.cell? a = some v) : ∃ b o, a = ⟨b, o, none⟩ ∧ b < w.heap.size := by
  obtain ⟨b, off, sp⟩ := a
  have hsp : sp = none := by
    cases sp with
    | none => rfl
    | some y =>
      rw [World.cell?] at h
      split at h <;> simp at h
  subst hsp
  refine ⟨b, off, rfl, ?_⟩
  rcases Nat.lt_or_ge b w.heap.size with h' | h'
  · exact h'
  · rw [World.cell?] at h
    simp [Array.getElem?_eq_none h'] at h
theorem add_plain (b o j : Nat) : (⟨b, o, none⟩ : Addr).add j = ⟨b, o + j, none⟩ := by unfold Addr.add; split <;> simp_all

set_option maxRecDepth 100000 in
theorem open_cells {H : Type} {enc : TypeId × Value → H} {w : World} {base : Nat} {spare : Nat → Bool} {held : Bool} {fuel : Nat} {cs : List Value} {x : DataW H × List MemPlace}
    (h : DataW.trod enc Try.prog w base spare held fuel 22 cs = some x) :
    cs = [.slice none 0 0] ∨ ∃ (a : Addr) (len cap : Nat) (xs : List Cel), cs = [.slice (some a) len cap] ∧ len ≤ maxLen ∧ xs.length = len ∧ ClsOk xs ∧ ClsAt w (.slice (some a) xs.length cap) xs := by
  have ce : Try.prog.cellsOf 43 = 2 := by kernel_rfl
  have c3 : Try.prog.cellsOf 3 = 1 := by kernel_rfl
  have c9 : Try.prog.cellsOf 9 = 1 := by kernel_rfl
  rcases open_slice Try.underlying22 h with h0 | ⟨a, len, cap, m, n, D, Pl, rfl, hb, hl, hm, hmm, rfl, hx⟩
  · exact Or.inl h0.1
  right
  have hlm : len ≤ m := by rw [hmm]; split <;> omega
  have each : ∀ i, i < len → ∃ q : Cel, q.name.size ≤ maxLen ∧ ∀ j, j < 2 → w.cell? ((a.add (i * 2)).add j) = (celCells q)[j]? := by
    intro i hi
    obtain ⟨cs', h1, h2⟩ := hx i (by omega)
    rw [ce] at h1
    obtain ⟨_, hlen, hcell⟩ := World.cells?_some h1
    obtain ⟨xs, k, hk, hxy, _, hxl, hf⟩ := DataW.trod_struct Try.underlying43 h2
    match xs, hxl, cs', hlen with
    | [y0, y1], _, [v0, v1], _ =>
      have g0 := hf 0 _ rfl
      have g1 := hf 1 _ rfl
      simp [c3, c9] at g0 g1
      obtain ⟨z0, e0, _, hs⟩ := DataW.trod_string Try.underlying9 g0
      obtain ⟨z1, e1, _⟩ := DataW.trod_int Try.underlying3 g1
      refine ⟨⟨z0, z1⟩, hs, fun j hj => ?_⟩
      have hc := hcell j hj
      rw [hc]
      match j, hj with
      | 0, _ => simpa [celCells] using e0
      | 1, _ => simpa [celCells] using e1
  haveI : Inhabited Cel := ⟨⟨ByteArray.empty, 0⟩⟩
  obtain ⟨q, hq⟩ := choose_lt each
  refine ⟨a, len, cap, (List.range len).map q, rfl, Nat.le_trans hl hm, by simp, ?_, some a, cap, rfl, fun hn => ?_⟩
  · intro y hy
    obtain ⟨i, hi, rfl⟩ := List.mem_map.1 hy
    have := (hq i (List.mem_range.1 hi)).1
    unfold maxLen at this
    exact this
  · have hn' : 0 < len := by simpa using hn
    have hc0 := (hq 0 hn').2 0 (by omega)
    rw [add_add] at hc0
    have e0 : a.add (0 * 2 + 0) = a := by simp [Addr.add]
    rw [e0] at hc0
    obtain ⟨b, o, rfl, hlt⟩ := plain_addr (hc0.trans rfl)
    refine ⟨b, o, rfl, hlt, fun k y hy j hj => ?_⟩
    have hk : k < len := by have := (List.getElem?_eq_some_iff.1 hy).1; simpa using this
    have hyk : q k = y := by simpa [List.getElem?_map, List.getElem?_range hk] using hy
    have hc := (hq k hk).2 j hj
    rw [add_add, add_plain, hyk, ← Nat.add_assoc] at hc
    exact hc
end Go.Proofs.Ytdlbnllkfnfgoaa
