/- What a right piece is, in plain words. -/
import Derived.Test.YtgaejcljabhijaaCntLib
namespace Go.Proofs.Ytgaejcljabhijaa
open Go.RowKit

/-- An answer that is true just when P holds; nothing that was there has turned. -/
def Tells (P : Prop) (w : World) (e : Ending) (w' : World) : Prop := ∃ b : Bool, e = .returned (.bool b) ∧ (b = true ↔ P) ∧ Below w.heap.size w w'
theorem tells_yes {P : Prop} {w w' : World} (h : P) (hb : Below w.heap.size w w') : Tells P w (.returned (.bool true)) w' := ⟨true, rfl, by simp [h], hb⟩
theorem tells_no {P : Prop} {w w' : World} (h : ¬ P) (hb : Below w.heap.size w w') : Tells P w (.returned (.bool false)) w' := ⟨false, rfl, by simp [h], hb⟩
/-- The same, and the world is as it was. -/
def TellsQ (P : Prop) (w : World) (e : Ending) (w' : World) : Prop := ∃ b : Bool, e = .returned (.bool b) ∧ (b = true ↔ P) ∧ w' = w
theorem tellsQ_yes {P : Prop} {w : World} (h : P) : TellsQ P w (.returned (.bool true)) w := ⟨true, rfl, by simp [h], rfl⟩
theorem tellsQ_no {P : Prop} {w : World} (h : ¬ P) : TellsQ P w (.returned (.bool false)) w := ⟨false, rfl, by simp [h], rfl⟩
theorem TellsQ.yes {P : Prop} {w w' : World} {e : Ending} (h : TellsQ P w e w') (hp : P) : e = .returned (.bool true) ∧ w' = w := by
  obtain ⟨b, rfl, h1, rfl⟩ := h
  exact ⟨by rw [h1.2 hp], rfl⟩
theorem TellsQ.no {P : Prop} {w w' : World} {e : Ending} (h : TellsQ P w e w') (hp : ¬ P) : e = .returned (.bool false) ∧ w' = w := by
  obtain ⟨b, rfl, h1, rfl⟩ := h
  cases b
  · exact ⟨rfl, rfl⟩
  · exact absurd (h1.1 rfl) hp
theorem Tells.yes {P : Prop} {w w' : World} {e : Ending} (h : Tells P w e w') (hp : P) : e = .returned (.bool true) ∧ Below w.heap.size w w' := by
  obtain ⟨b, rfl, h1, h2⟩ := h
  exact ⟨by rw [h1.2 hp], h2⟩
theorem Tells.no {P : Prop} {w w' : World} {e : Ending} (h : Tells P w e w') (hp : ¬ P) : e = .returned (.bool false) ∧ Below w.heap.size w w' := by
  obtain ⟨b, rfl, h1, h2⟩ := h
  cases b
  · exact ⟨rfl, h2⟩
  · exact absurd (h1.1 rfl) hp
theorem Tells.mono {P : Prop} {a w w' : World} {e : Ending} (hb : Below a.heap.size a w) (h : Tells P w e w') : Tells P a e w' := by
  obtain ⟨b, h1, h2, h3⟩ := h
  exact ⟨b, h1, h2, hb.trans (h3.mono hb.size)⟩
theorem same_bool {b c : Bool} {P : Prop} (h1 : b = true ↔ P) (h2 : c = true ↔ P) : b = c := by
  cases b <;> cases c <;> simp_all
/-- All bytes in 32 .. 126. -/
def Plain (s : ByteArray) : Prop := ∀ k, k < s.size → 32 ≤ by8 s k ∧ by8 s k ≤ 126
def RuOk (x : Ru) : Prop := (2 ≤ x.values ∧ x.values ≤ 3) ∧ 0 ≤ x.cost ∧ x.cost ≤ 9
def RulesOk (rs : List Ru) : Prop := rs.length ≤ 8 ∧ ∀ (j : Nat) (x : Ru), rs[j]? = some x → RuOk x
def SplitOk (rs : List Ru) (x : Ch) : Prop := 0 ≤ x.rule ∧ (∃ y, rs[x.rule.toNat]? = some y ∧ 1 ≤ x.frm ∧ x.frm ≤ wrap64 (y.values - 1)) ∧ 0 ≤ x.nest ∧ x.nest ≤ 40
def Blank (x : Ch) : Prop := x.rule = 0 ∧ x.frm = 0 ∧ x.space = false ∧ x.nest = 0
structure ChunksOk (p : Pc) : Prop where
  least : 1 ≤ p.chunks.length
  most : p.chunks.length ≤ 80
  texts : ∀ (j : Nat) (x : Ch), p.chunks[j]? = some x → Plain x.text ∧ (j + 1 < p.chunks.length → SplitOk p.rules x)
  last : ∀ x, p.chunks[p.chunks.length - 1]? = some x → Blank x
def SnOk (n : Nat) (x : Sn) : Prop := (0 ≤ x.til ∧ x.til ≤ (n : Int) - 2) ∧ (0 ≤ x.frm ∧ x.frm ≤ x.til) ∧ 0 ≤ x.cost ∧ x.cost ≤ 9
structure SpansOk (p : Pc) : Prop where
  most : p.spans.length ≤ 40
  all : ∀ (j : Nat) (x : Sn), p.spans[j]? = some x → SnOk p.chunks.length x
def TiOk (n : Nat) (x : Ti) : Prop := (0 ≤ x.kid ∧ x.kid ≤ (n : Int) - 1) ∧ (0 ≤ x.up ∧ x.up ≤ (n : Int) - 1) ∧ x.kid ≠ x.up
structure TiesOk (p : Pc) : Prop where
  most : p.ties.length ≤ 20
  all : ∀ (j : Nat) (x : Ti), p.ties[j]? = some x → TiOk p.rules.length x
structure Right (p : Pc) : Prop where
  indent : 0 ≤ p.indent ∧ p.indent ≤ 60
  rules : RulesOk p.rules
  chunks : ChunksOk p
  spans : SpansOk p
  ties : TiesOk p
end Go.Proofs.Ytgaejcljabhijaa
