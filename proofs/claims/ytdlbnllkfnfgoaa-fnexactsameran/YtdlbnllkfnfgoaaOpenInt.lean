/- A list of numbers that came in: what its cells hold. -/
import Derived.Test.YtdlbnllkfnfgoaaOpenRow
import Derived.Test.YtdlbnllkfnfgoaaIntLib
namespace Go.Proofs.Ytdlbnllkfnfgoaa
open Go.RowKit Go.Deep

theorem open_ints {H : Type} {enc : TypeId × Value → H} {w : World} {base : Nat} {spare : Nat → Bool} {held : Bool} {fuel : Nat} {cs : List Value} {x : DataW H × List MemPlace}
    (h : DataW.trod enc Try.prog w base spare held fuel 33 cs = some x) :
    ∃ (a : Option Addr) (len cap : Nat) (ks : List Int), cs = [.slice a len cap] ∧ len ≤ maxLen ∧ ks.length = len ∧ KidsAt w a ks := by
  have ce : Try.prog.cellsOf 3 = 1 := by kernel_rfl
  rcases open_slice Try.underlying33 h with h0 | ⟨a, len, cap, m, n, D, Pl, rfl, hb, hl, hm, hmm, rfl, hx⟩
  · exact ⟨none, 0, 0, [], h0.1, Nat.zero_le _, rfl, fun h => absurd h (Nat.lt_irrefl 0)⟩
  have hlm : len ≤ m := by rw [hmm]; split <;> omega
  have each : ∀ i, i < len → ∃ z : Int, w.cell? (a.add i) = some (.int .i64 z) := by
    intro i hi
    obtain ⟨cs', h1, h2⟩ := hx i (by omega)
    rw [ce] at h1
    obtain ⟨_, hlen, hcell⟩ := World.cells?_some h1
    obtain ⟨z0, e0, _⟩ := DataW.trod_int Try.underlying3 h2
    refine ⟨z0, ?_⟩
    have hc := hcell 0 (by omega)
    rw [add_add, e0] at hc
    simpa using hc
  obtain ⟨q, hq⟩ := choose_lt each
  refine ⟨some a, len, cap, (List.range len).map q, rfl, Nat.le_trans hl hm, by simp, fun hn => ?_⟩
  have hn' : 0 < len := by simpa using hn
  have hc0 := hq 0 hn'
  have e0 : a.add 0 = a := by simp [Addr.add]
  rw [e0] at hc0
  obtain ⟨b, o, rfl, hlt⟩ := plain_addr hc0
  refine ⟨b, o, rfl, hlt, fun j z hz => ?_⟩
  have hj : j < len := by have := (List.getElem?_eq_some_iff.1 hz).1; simpa using this
  have hzj : q j = z := by simpa [List.getElem?_map, List.getElem?_range hj] using hz
  have hc := hq j hj
  rw [add_plain, hzj] at hc
  exact hc
end Go.Proofs.Ytdlbnllkfnfgoaa
