/- A list of flat structs that came in: what its cells hold, said once for all of them. -/
import Derived.Test.YtdlbnllkfnfgoaaProg
import Derived.Test.YtdlbnllkfnfgoaaRowLib
import Derived.Deep.Slices
import Derived.ProofKit
namespace Go.Proofs.Ytdlbnllkfnfgoaa
open Go.RowKit Go.Deep

theorem plain_addr {w : World} {a : Addr} {v : Value} (h : w.cell? a = some v) : ∃ b o, a = ⟨b, o, none⟩ ∧ b < w.heap.size := by
  obtain ⟨b, off, sp⟩ := a
  have hsp : sp = none := by
    cases sp with
    | none => rfl
    | some y =>
      rw [World.cell?] at h
      split at h <;> simp at h
  subst hsp
  refine ⟨b, off, rfl, ?_⟩
  rcases Nat.lt_or_ge b w.heap.size with h' | h'
  · exact h'
  · rw [World.cell?] at h
    simp [Array.getElem?_eq_none h'] at h
theorem add_plain (b o j : Nat) : (⟨b, o, none⟩ : Addr).add j = ⟨b, o + j, none⟩ := by unfold Addr.add; split <;> simp_all

theorem open_rows {α : Type} [Inhabited α] {s : Nat} {cells : α → List Value} {Q : α → Prop} (hs : ∀ x, (cells x).length = s) (hs0 : 0 < s) {H : Type} {enc : TypeId × Value → H} {w : World} {base : Nat} {spare : Nat → Bool} {held : Bool} {fuel : Nat} {cs : List Value} {x : DataW H × List MemPlace} {t e : TypeId}
    (ht : Try.prog.underlying t = some (.slice e)) (ce : Try.prog.cellsOf e = s)
    (one : ∀ (n : Nat) (cs' : List Value) (y : DataW H × List MemPlace), cs'.length = s → DataW.trod enc Try.prog w base spare held n e cs' = some y → ∃ q : α, Q q ∧ ∀ j, j < s → cs'[j]? = (cells q)[j]?)
    (h : DataW.trod enc Try.prog w base spare held fuel t cs = some x) :
    ∃ (a : Option Addr) (len cap : Nat) (xs : List α), cs = [.slice a len cap] ∧ len ≤ maxLen ∧ xs.length = len ∧ (∀ y ∈ xs, Q y) ∧ RowsAt s cells w a xs := by
  rcases open_slice ht h with h0 | ⟨a, len, cap, m, n, D, Pl, rfl, hb, hl, hm, hmm, rfl, hx⟩
  · exact ⟨none, 0, 0, [], h0.1, Nat.zero_le _, rfl, (fun y hy => by cases hy), rowsAt_nil⟩
  have hlm : len ≤ m := by rw [hmm]; split <;> omega
  have each : ∀ i, i < len → ∃ q : α, Q q ∧ ∀ j, j < s → w.cell? ((a.add (i * s)).add j) = (cells q)[j]? := by
    intro i hi
    obtain ⟨cs', h1, h2⟩ := hx i (by omega)
    rw [ce] at h1
    obtain ⟨_, hlen, hcell⟩ := World.cells?_some h1
    obtain ⟨q, hq, hc⟩ := one _ cs' _ hlen h2
    exact ⟨q, hq, fun j hj => by rw [hcell j hj]; exact hc j hj⟩
  obtain ⟨q, hq⟩ := choose_lt each
  refine ⟨some a, len, cap, (List.range len).map q, rfl, Nat.le_trans hl hm, by simp, ?_, fun hn => ?_⟩
  · intro y hy
    obtain ⟨i, hi, rfl⟩ := List.mem_map.1 hy
    exact (hq i (List.mem_range.1 hi)).1
  · have hn' : 0 < len := by simpa using hn
    have hc0 := (hq 0 hn').2 0 hs0
    rw [add_add] at hc0
    have e0 : a.add (0 * s + 0) = a := by simp [Addr.add]
    rw [e0] at hc0
    have h00 : 0 < (cells (q 0)).length := by rw [hs]; exact hs0
    rw [List.getElem?_eq_getElem h00] at hc0
    obtain ⟨b, o, rfl, hlt⟩ := plain_addr hc0
    refine ⟨b, o, rfl, hlt, fun k y hy j hj => ?_⟩
    have hk : k < len := by have := (List.getElem?_eq_some_iff.1 hy).1; simpa using this
    have hyk : q k = y := by simpa [List.getElem?_map, List.getElem?_range hk] using hy
    have hc := (hq k hk).2 j hj
    rw [hyk, add_add, add_plain, ← Nat.add_assoc] at hc
    exact hc
end Go.Proofs.Ytdlbnllkfnfgoaa
