/- A list of the laws' states that came in, and one state alone: what their cells hold. -/
import Derived.Test.YtokfemlcamnaaaaProg
import Derived.Test.YtokfemlcamnaaaaToSt
import Derived.Test.YtokfemlcamnaaaaOpenInt
import Derived.Deep.Slices
import Derived.ProofKit
namespace Go.Proofs.Ytokfemlcamnaaaa
open Go.RowKit Go.Deep

set_option maxRecDepth 20000 in
theorem open_state {H : Type} {enc : TypeId × Value → H} {w : World} {base : Nat} {spare : Nat → Bool} {held : Bool} {fuel : Nat} {cs : List Value} {x : DataW H × List MemPlace} (hlen : cs.length = 2)
    (h2 : DataW.trod enc Try.prog w base spare held fuel 151 cs = some x) :
    ∃ p : Sp, cs = spCells p ∧ p.st.vals.length ≤ 9223372036854775807 ∧ KidsAt w p.a p.st.vals := by
  have c3 : Try.prog.cellsOf 3 = 1 := by kernel_rfl
  have ci : Try.prog.cellsOf 31 = 1 := by kernel_rfl
  obtain ⟨xs, k, hk, hxy, _, hxl, hf⟩ := DataW.trod_struct Try.underlying151 h2
  match xs, hxl, cs, hlen with
  | [y0, y1], _, [v0, v1], _ =>
    have g0 := hf 0 _ rfl
    have g1 := hf 1 _ rfl
    simp [c3, ci] at g0 g1
    obtain ⟨ka, kn, kc, ks, e0, hkl, hkn, hkat⟩ := open_ints g0
    obtain ⟨z1, e1, _⟩ := DataW.trod_int Try.underlying3 g1
    subst hkn
    unfold maxLen at hkl
    refine ⟨⟨⟨ks, z1⟩, ka, kc⟩, ?_, by simpa using hkl, hkat⟩
    simp at e0 e1
    rw [e0, e1]
    rfl

set_option maxRecDepth 100000 in
set_option maxRecDepth 20000 in
theorem open_states {H : Type} {enc : TypeId × Value → H} {w : World} {base : Nat} {spare : Nat → Bool} {held : Bool} {fuel : Nat} {cs : List Value} {x : DataW H × List MemPlace}
    (h : DataW.trod enc Try.prog w base spare held fuel 87 cs = some x) :
    ∃ (a : Option Addr) (len cap : Nat) (ps : List Sp), cs = [.slice a len cap] ∧ len ≤ maxLen ∧ ps.length = len ∧ StsOk ps ∧ StsAt w a ps := by
  have ce : Try.prog.cellsOf 151 = 2 := by kernel_rfl
  haveI : Inhabited Sp := ⟨⟨⟨[], 0⟩, none, 0⟩⟩
  obtain ⟨a, len, cap, ps, h1, h2, h3, h4, h5⟩ := open_rows (α := Sp) (cells := spCells) (s := 2) (Q := fun p => p.st.vals.length ≤ 9223372036854775807 ∧ KidsAt w p.a p.st.vals) spCells_len (by decide) Try.underlying87 ce
    (fun n cs' y hl hy => by
      obtain ⟨p, e, hp⟩ := open_state hl hy
      exact ⟨p, hp, fun j _ => by rw [e]⟩) h
  exact ⟨a, len, cap, ps, h1, h2, h3, fun p hp => (h4 p hp).1, h5, fun p hp => (h4 p hp).2⟩
end Go.Proofs.Ytokfemlcamnaaaa
