/- A list of the laws' nodes that came in: what its cells hold. -/
import Derived.Test.YtjfimlhgjjjnmabProg
import Derived.Test.YtjfimlhgjjjnmabToNd
import Derived.Deep.Slices
import Derived.ProofKit
namespace Go.Proofs.Ytjfimlhgjjjnmab
open Go.RowKit Go.Deep

theorem plain_addr {w : World} {a : Addr} {v : Value} (h : w.cell? a = some v) : ∃ b o, a = ⟨b, o, none⟩ ∧ b < w.heap.size := by
  obtain ⟨b, off, sp⟩ := a
  have hsp : sp = none := by
    cases sp with
    | none => rfl
    | some y =>
      rw [World.cell?] at h
      split at h <;> simp at h
  subst hsp
  refine ⟨b, off, rfl, ?_⟩
  rcases Nat.lt_or_ge b w.heap.size with h' | h'
  · exact h'
  · rw [World.cell?] at h
    simp [Array.getElem?_eq_none h'] at h
theorem add_plain (b o j : Nat) : (⟨b, o, none⟩ : Addr).add j = ⟨b, o + j, none⟩ := by unfold Addr.add; split <;> simp_all

theorem open_ints {H : Type} {enc : TypeId × Value → H} {w : World} {base : Nat} {spare : Nat → Bool} {held : Bool} {fuel : Nat} {cs : List Value} {x : DataW H × List MemPlace}
    (h : DataW.trod enc Try.prog w base spare held fuel 30 cs = some x) :
    ∃ (a : Option Addr) (len cap : Nat) (ks : List Int), cs = [.slice a len cap] ∧ len ≤ maxLen ∧ ks.length = len ∧ KidsAt w a ks := by
  have ce : Try.prog.cellsOf 3 = 1 := by kernel_rfl
  rcases open_slice Try.underlying30 h with h0 | ⟨a, len, cap, m, n, D, Pl, rfl, hb, hl, hm, hmm, rfl, hx⟩
  · exact ⟨none, 0, 0, [], h0.1, Nat.zero_le _, rfl, fun h => absurd h (Nat.lt_irrefl 0)⟩
  have hlm : len ≤ m := by rw [hmm]; split <;> omega
  have each : ∀ i, i < len → ∃ z : Int, w.cell? (a.add i) = some (.int .i64 z) := by
    intro i hi
    obtain ⟨cs', h1, h2⟩ := hx i (by omega)
    rw [ce] at h1
    obtain ⟨_, hlen, hcell⟩ := World.cells?_some h1
    obtain ⟨z0, e0, _⟩ := DataW.trod_int Try.underlying3 h2
    refine ⟨z0, ?_⟩
    have hc := hcell 0 (by omega)
    rw [add_add, e0] at hc
    simpa using hc
  obtain ⟨q, hq⟩ := choose_lt each
  refine ⟨some a, len, cap, (List.range len).map q, rfl, Nat.le_trans hl hm, by simp, fun hn => ?_⟩
  have hn' : 0 < len := by simpa using hn
  have hc0 := hq 0 hn'
  have e0 : a.add 0 = a := by simp [Addr.add]
  rw [e0] at hc0
  obtain ⟨b, o, rfl, hlt⟩ := plain_addr hc0
  refine ⟨b, o, rfl, hlt, fun j z hz => ?_⟩
  have hj : j < len := by have := (List.getElem?_eq_some_iff.1 hz).1; simpa using this
  have hzj : q j = z := by simpa [List.getElem?_map, List.getElem?_range hj] using hz
  have hc := hq j hj
  rw [add_plain, hzj] at hc
  exact hc

set_option maxRecDepth 100000 in
theorem open_nodes {H : Type} {enc : TypeId × Value → H} {w : World} {base : Nat} {spare : Nat → Bool} {held : Bool} {fuel : Nat} {cs : List Value} {x : DataW H × List MemPlace}
    (h : DataW.trod enc Try.prog w base spare held fuel 22 cs = some x) :
    cs = [.slice none 0 0] ∨ ∃ (a : Addr) (len cap : Nat) (xs : List Nd), cs = [.slice (some a) len cap] ∧ len ≤ maxLen ∧ xs.length = len ∧ NdsOk xs ∧ NdsAt w (.slice (some a) xs.length cap) xs := by
  have ce : Try.prog.cellsOf 32 = 4 := by kernel_rfl
  have c3 : Try.prog.cellsOf 3 = 1 := by kernel_rfl
  have ci : Try.prog.cellsOf 30 = 1 := by kernel_rfl
  have c9 : Try.prog.cellsOf 9 = 1 := by kernel_rfl
  have c4 : Try.prog.cellsOf 4 = 1 := by kernel_rfl
  rcases open_slice Try.underlying22 h with h0 | ⟨a, len, cap, m, n, D, Pl, rfl, hb, hl, hm, hmm, rfl, hx⟩
  · exact Or.inl h0.1
  right
  have hlm : len ≤ m := by rw [hmm]; split <;> omega
  have each : ∀ i, i < len → ∃ q : Nd, (q.text.size ≤ maxLen ∧ q.kids.length ≤ maxLen) ∧ ∃ (ka : Option Addr) (kc : Nat), (∀ j, j < 4 → w.cell? ((a.add (i * 4)).add j) = (ndCells q ka kc)[j]?) ∧ KidsAt w ka q.kids := by
    intro i hi
    obtain ⟨cs', h1, h2⟩ := hx i (by omega)
    rw [ce] at h1
    obtain ⟨_, hlen, hcell⟩ := World.cells?_some h1
    obtain ⟨xs, k, hk, hxy, _, hxl, hf⟩ := DataW.trod_struct Try.underlying32 h2
    match xs, hxl, cs', hlen with
    | [y0, y1, y2, y3], _, [v0, v1, v2, v3], _ =>
      have g0 := hf 0 _ rfl
      have g1 := hf 1 _ rfl
      have g2 := hf 2 _ rfl
      have g3 := hf 3 _ rfl
      simp [c3, c9, c4, ci] at g0 g1 g2 g3
      obtain ⟨z0, e0, _⟩ := DataW.trod_int Try.underlying3 g0
      obtain ⟨z1, e1, _, hs⟩ := DataW.trod_string Try.underlying9 g1
      obtain ⟨ka, kn, kc, ks, e2, hkl, hkn, hkat⟩ := open_ints g2
      obtain ⟨z3, e3, _⟩ := DataW.trod_bool Try.underlying4 g3
      subst hkn
      refine ⟨⟨z0, z1, ks, z3⟩, ⟨hs, hkl⟩, ka, kc, fun j hj => ?_, hkat⟩
      have hc := hcell j hj
      rw [hc]
      match j, hj with
      | 0, _ => simpa [ndCells] using e0
      | 1, _ => simpa [ndCells] using e1
      | 2, _ => simpa [ndCells] using e2
      | 3, _ => simpa [ndCells] using e3
  haveI : Inhabited Nd := ⟨⟨0, ByteArray.empty, [], false⟩⟩
  obtain ⟨q, hq⟩ := choose_lt each
  refine ⟨a, len, cap, (List.range len).map q, rfl, Nat.le_trans hl hm, by simp, ?_, some a, cap, rfl, fun hn => ?_⟩
  · intro y hy
    obtain ⟨i, hi, rfl⟩ := List.mem_map.1 hy
    have := (hq i (List.mem_range.1 hi)).1
    unfold maxLen at this
    exact this
  · have hn' : 0 < len := by simpa using hn
    obtain ⟨_, _, hc0, _⟩ := (hq 0 hn').2
    have hc0 := hc0 0 (by omega)
    rw [add_add] at hc0
    have e0 : a.add (0 * 4 + 0) = a := by simp [Addr.add]
    rw [e0] at hc0
    obtain ⟨b, o, rfl, hlt⟩ := plain_addr (hc0.trans rfl)
    refine ⟨b, o, rfl, hlt, fun k y hy => ?_⟩
    have hk : k < len := by have := (List.getElem?_eq_some_iff.1 hy).1; simpa using this
    have hyk : q k = y := by simpa [List.getElem?_map, List.getElem?_range hk] using hy
    obtain ⟨ka, kc, hc, hK⟩ := (hq k hk).2
    rw [hyk] at hc hK
    refine ⟨ka, kc, fun j hj => ?_, hK⟩
    have hc := hc j hj
    rw [add_add, add_plain, ← Nat.add_assoc] at hc
    exact hc
end Go.Proofs.Ytjfimlhgjjjnmab
