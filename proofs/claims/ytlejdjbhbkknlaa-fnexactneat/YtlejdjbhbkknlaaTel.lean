/- Answers that are true just when something holds. -/
import Derived.Test.YtlejdjbhbkknlaaLib
namespace Go.Proofs.Ytlejdjbhbkknlaa
open Go.RowKit

/-- The world is as it was. -/
def TelQ (P : Prop) (w : World) (e : Ending) (w' : World) : Prop := ∃ b : Bool, e = .returned (.bool b) ∧ (b = true ↔ P) ∧ w' = w
theorem telQ_yes {P : Prop} {w : World} (h : P) : TelQ P w (.returned (.bool true)) w := ⟨true, rfl, by simp [h], rfl⟩
theorem telQ_no {P : Prop} {w : World} (h : ¬ P) : TelQ P w (.returned (.bool false)) w := ⟨false, rfl, by simp [h], rfl⟩
theorem TelQ.yes {P : Prop} {w w' : World} {e : Ending} (h : TelQ P w e w') (hp : P) : e = .returned (.bool true) ∧ w' = w := by
  obtain ⟨b, rfl, h1, rfl⟩ := h
  exact ⟨by rw [h1.2 hp], rfl⟩
theorem TelQ.no {P : Prop} {w w' : World} {e : Ending} (h : TelQ P w e w') (hp : ¬ P) : e = .returned (.bool false) ∧ w' = w := by
  obtain ⟨b, rfl, h1, rfl⟩ := h
  cases b
  · exact ⟨rfl, rfl⟩
  · exact absurd (h1.1 rfl) hp
/-- Nothing that was there has turned. -/
def TelB (P : Prop) (w : World) (e : Ending) (w' : World) : Prop := ∃ b : Bool, e = .returned (.bool b) ∧ (b = true ↔ P) ∧ Below w.heap.size w w'
theorem telB_yes {P : Prop} {w w' : World} (h : P) (hb : Below w.heap.size w w') : TelB P w (.returned (.bool true)) w' := ⟨true, rfl, by simp [h], hb⟩
theorem telB_no {P : Prop} {w w' : World} (h : ¬ P) (hb : Below w.heap.size w w') : TelB P w (.returned (.bool false)) w' := ⟨false, rfl, by simp [h], hb⟩
theorem TelB.yes {P : Prop} {w w' : World} {e : Ending} (h : TelB P w e w') (hp : P) : e = .returned (.bool true) ∧ Below w.heap.size w w' := by
  obtain ⟨b, rfl, h1, h2⟩ := h
  exact ⟨by rw [h1.2 hp], h2⟩
theorem TelB.no {P : Prop} {w w' : World} {e : Ending} (h : TelB P w e w') (hp : ¬ P) : e = .returned (.bool false) ∧ Below w.heap.size w w' := by
  obtain ⟨b, rfl, h1, h2⟩ := h
  cases b
  · exact ⟨rfl, h2⟩
  · exact absurd (h1.1 rfl) hp
theorem tel_same {b c : Bool} {P : Prop} (h1 : b = true ↔ P) (h2 : c = true ↔ P) : b = c := by
  cases b <;> cases c <;> simp_all
/-- An answer that is chosen ahead. -/
theorem tel_bool (P : Prop) : ∃ b : Bool, (b = true ↔ P) := by
  by_cases h : P
  · exact ⟨true, by simp [h]⟩
  · exact ⟨false, by simp [h]⟩
theorem TelB.is {P : Prop} {w w' : World} {e : Ending} {b : Bool} (h : TelB P w e w') (hb : b = true ↔ P) : e = .returned (.bool b) ∧ Below w.heap.size w w' := by
  obtain ⟨c, rfl, h1, h2⟩ := h
  exact ⟨by rw [tel_same h1 hb], h2⟩
theorem TelQ.is {P : Prop} {w w' : World} {e : Ending} {b : Bool} (h : TelQ P w e w') (hb : b = true ↔ P) : e = .returned (.bool b) ∧ w' = w := by
  obtain ⟨c, rfl, h1, h2⟩ := h
  exact ⟨by rw [tel_same h1 hb], h2⟩
end Go.Proofs.Ytlejdjbhbkknlaa
