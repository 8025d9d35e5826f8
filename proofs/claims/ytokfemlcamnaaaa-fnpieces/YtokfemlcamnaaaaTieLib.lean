/- When ties hold, in plain words. -/
import Derived.Test.YtokfemlcamnaaaaValLib
namespace Go.Proofs.Ytokfemlcamnaaaa
open Go.RowKit

/-- What a list of values makes of a rule: 0 it is not there, 1 its value is 0, 2 it is above 0. -/
def st (vs : List Int) (r : Int) : Nat := if 0 ≤ r ∧ r < (vs.length : Int) then (if 0 < vs.getD r.toNat 0 then 2 else 1) else 0
theorem st_cases (vs : List Int) (r : Int) : st vs r = 0 ∨ st vs r = 1 ∨ st vs r = 2 := by
  unfold st
  split
  · split <;> simp
  · simp
theorem st_in {vs : List Int} {k : Nat} {z : Int} (hz : vs[k]? = some z) : st vs (k : Int) = if 0 < z then 2 else 1 := by
  have hk := (List.getElem?_eq_some_iff.1 hz).1
  unfold st
  rw [if_pos ⟨by omega, by omega⟩, Int.toNat_natCast, List.getD_eq_getElem?_getD, hz]
  rfl
/-- A tie whose rules are so holds. -/
def holdB (s t : Nat) : Bool := decide (1 ≤ s) && decide (1 ≤ t) && (decide (s ≤ 1) || decide (2 ≤ t))
/-- A tie holds. -/
def TieOk (vs : List Int) (x : Ti) : Prop := holdB (st vs x.kid) (st vs x.up) = true
structure TiesHold (p : Pc) (vs : List Int) : Prop where
  vals : ValOk p vs
  ties : ∀ (j : Nat) (x : Ti), p.ties[j]? = some x → TieOk vs x
theorem st_of {vs : List Int} {r : Int} (h0 : 0 ≤ r) (h1 : r ≤ (vs.length : Int) - 1) : ∃ z, vs[r.toNat]? = some z ∧ st vs r = if 0 < z then 2 else 1 := by
  obtain ⟨k, rfl⟩ := Int.eq_ofNat_of_zero_le h0
  have hk : k < vs.length := by omega
  exact ⟨vs[k], by simp [hk], st_in (List.getElem?_eq_getElem hk)⟩
end Go.Proofs.Ytokfemlcamnaaaa
