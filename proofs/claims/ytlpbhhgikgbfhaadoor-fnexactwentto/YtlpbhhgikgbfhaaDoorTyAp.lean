/- Rows of other types lie apart. -/
import Derived.Test.YtlpbhhgikgbfhaaDoorLib
namespace Go.Proofs.YtlpbhhgikgbfhaaDoor
open Go.RowKit

/-- What lies in blocks of other types lies apart. -/
theorem types_apart {w : World} {B1 B2 e1 e2 s1 s2 n1 n2 : Nat} {v1 v2 : Value} {xs ys : List Value} (h1 : w.ownsRow B1 e1 s1 v1 n1 xs) (h2 : w.ownsRow B2 e2 s2 v2 n2 ys) (hne : e1 ≠ e2) : v1.ownBlock = none ∨ v1.ownBlock ≠ v2.ownBlock := by
  rcases h1.2 with ⟨rfl, _⟩ | ⟨g, cap, cur, rfl, _, hg, _⟩
  · exact .inl rfl
  · right
    rcases h2.2 with ⟨rfl, _⟩ | ⟨g', cap', cur', rfl, _, hg', _⟩
    · intro e
      cases e
    · intro e
      have e' : g = g' := by injection e
      subst e'
      rw [hg] at hg'
      cases hg'
      exact hne rfl
end Go.Proofs.YtlpbhhgikgbfhaaDoor
