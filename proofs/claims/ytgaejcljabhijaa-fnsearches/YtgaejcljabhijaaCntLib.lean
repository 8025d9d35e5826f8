/- How many lists of values are right: the product, as a plain function. -/
import Derived.Test.YtgaejcljabhijaaPcLib
namespace Go.Proofs.Ytgaejcljabhijaa
open Go.RowKit

def inB (x a b : Int) : Bool := decide (a ≤ x) && decide (x ≤ b)
theorem inB_yes {x a b : Int} (h1 : a ≤ x) (h2 : x ≤ b) : inB x a b = true := by simp [inB, h1, h2]
theorem inB_no {x a b : Int} (h : ¬ (a ≤ x ∧ x ≤ b)) : inB x a b = false := by
  unfold inB
  rw [Bool.and_eq_false_iff]
  simp only [decide_eq_false_iff_not]
  omega
theorem inB_iff {x a b : Int} : inB x a b = true ↔ a ≤ x ∧ x ≤ b := by simp [inB]
/-- The product of the values, 0 when one is not 2 or 3; c: the product so far. -/
def prod (c : Int) : List Ru → Int
  | [] => c
  | x :: xs => if 2 ≤ x.values ∧ x.values ≤ 3 then prod (c * x.values) xs else 0
def cntOf (p : Pc) : Int := prod 1 (p.rules.take 8)
/-- One round: the k-th of those that count. -/
theorem prod_at {xs : List Ru} {k : Nat} {x : Ru} (hk : k < 8) (hx : xs[k]? = some x) (c : Int) : prod c ((xs.take 8).drop k) = if 2 ≤ x.values ∧ x.values ≤ 3 then prod (c * x.values) ((xs.take 8).drop (k + 1)) else 0 := by
  have hl := (List.getElem?_eq_some_iff.1 hx).1
  have h8 : (xs.take 8)[k]? = some x := by rw [List.getElem?_take, if_pos hk]; exact hx
  have hl8 := (List.getElem?_eq_some_iff.1 h8).1
  have e := (List.getElem?_eq_some_iff.1 h8).2
  rw [List.drop_eq_getElem_cons hl8, e]
  rfl
theorem prod_end {xs : List Ru} {k : Nat} (hk : xs.length ≤ k ∨ 8 ≤ k) (c : Int) : prod c ((xs.take 8).drop k) = c := by
  rw [List.drop_of_length_le (by rw [List.length_take]; omega)]
  rfl
/-- The product so far is no more than this. -/
def pow3 : Nat → Int
  | 0 => 1
  | n + 1 => pow3 n * 3
theorem mul_bd {c v : Int} {k : Nat} (h0 : 0 ≤ c) (h1 : c ≤ pow3 k) (hv : 2 ≤ v ∧ v ≤ 3) : 0 ≤ c * v ∧ c * v ≤ pow3 (k + 1) := by
  rcases (show v = 2 ∨ v = 3 by omega) with rfl | rfl
  · rw [pow3]; omega
  · rw [pow3]; omega
theorem pow3_8 {c : Int} {k : Nat} (hk : k ≤ 8) (h : c ≤ pow3 k) : c ≤ 6561 := by
  rcases (show k = 0 ∨ k = 1 ∨ k = 2 ∨ k = 3 ∨ k = 4 ∨ k = 5 ∨ k = 6 ∨ k = 7 ∨ k = 8 by omega) with rfl | rfl | rfl | rfl | rfl | rfl | rfl | rfl | rfl <;> simp [pow3] at h <;> omega
end Go.Proofs.Ytgaejcljabhijaa
