/- What right values are, and when there is a split, in plain words. -/
import Derived.Test.YtgaejcljabhijaaRightLib
import Derived.Test.YtgaejcljabhijaaIntLib
namespace Go.Proofs.Ytgaejcljabhijaa
open Go.RowKit

/-- No rule has the least number that there is. -/
def NoLeast (rs : List Ru) : Prop := ∀ (j : Nat) (y : Ru), rs[j]? = some y → -9223372036854775808 < y.values ∧ y.values ≤ 9223372036854775807
theorem noLeast_right {p : Pc} (h : RulesOk p.rules) : NoLeast p.rules := fun j y hy => by
  have := (h.2 j y hy).1
  omega
/-- As many as rules, each in 0 .. Values less 1. -/
structure ValOk (p : Pc) (vs : List Int) : Prop where
  len : vs.length = p.rules.length
  all : ∀ (j : Nat) (z : Int) (y : Ru), vs[j]? = some z → p.rules[j]? = some y → 0 ≤ z ∧ z ≤ y.values - 1
/-- There is a split behind chunk i. -/
structure SplitAt (p : Pc) (vs : List Int) (i : Int) : Prop where
  right : Right p
  vals : ValOk p vs
  low : 0 ≤ i
  high : i ≤ (p.chunks.length : Int) - 2
  splits : ∀ (x : Ch) (z : Int), p.chunks[i.toNat]? = some x → vs[x.rule.toNat]? = some z → x.frm ≤ z
/-- The split of a chunk that is not the last one has its rule, and the rule its value. -/
theorem split_val {p : Pc} {vs : List Int} {k : Nat} (h : Right p) (hv : ValOk p vs) (hk : (k : Int) ≤ (p.chunks.length : Int) - 2) : ∃ (x : Ch) (r : Nat) (z : Int), p.chunks[k]? = some x ∧ x.rule = (r : Int) ∧ r < vs.length ∧ vs[r]? = some z := by
  have hk' : k < p.chunks.length := by omega
  have hx := List.getElem?_eq_getElem hk'
  obtain ⟨-, hs⟩ := h.chunks.texts k _ hx
  obtain ⟨h0, ⟨y, hy, -⟩, -⟩ := hs (by omega)
  obtain ⟨r, hr⟩ := Int.eq_ofNat_of_zero_le h0
  have hrl := (List.getElem?_eq_some_iff.1 hy).1
  rw [hr, Int.toNat_natCast, ← hv.len] at hrl
  exact ⟨_, r, _, hx, hr, hrl, List.getElem?_eq_getElem hrl⟩
end Go.Proofs.Ytgaejcljabhijaa
