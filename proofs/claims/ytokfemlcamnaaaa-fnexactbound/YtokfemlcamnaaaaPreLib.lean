/- Right values of the first rules, and zeros behind them: these cost nothing. -/
import Derived.Test.YtokfemlcamnaaaaRenLib
import Derived.Test.YtokfemlcamnaaaaValLib
namespace Go.Proofs.Ytokfemlcamnaaaa
open Go.RowKit

/-- Right values of the first rules. -/
def PreV (rs : List Ru) (u : List Int) : Prop := u.length ≤ rs.length ∧ ∀ (j : Nat) (z : Int) (y : Ru), u[j]? = some z → rs[j]? = some y → 0 ≤ z ∧ z < y.values
theorem pre_add {rs : List Ru} {u : List Int} {k : Nat} {y : Ru} (h : PreV rs u) (hy : rs[u.length]? = some y) (hk : (k : Int) < y.values) : PreV rs (u ++ [(k : Int)]) := by
  have hl := (List.getElem?_eq_some_iff.1 hy).1
  refine ⟨by simp; omega, fun j z y' hz hy' => ?_⟩
  by_cases e : j = u.length
  · subst e
    rw [hy] at hy'
    cases hy'
    have : z = (k : Int) := by simpa using hz.symm
    omega
  · have hj := (List.getElem?_eq_some_iff.1 hz).1
    simp at hj
    rw [List.getElem?_append_left (by omega)] at hz
    exact h.2 j z y' hz hy'
theorem getD_pre {u t : List Int} {k : Nat} (h : k < u.length) : (u ++ t).getD k 0 = u.getD k 0 := by
  rw [List.getD_eq_getElem?_getD, List.getD_eq_getElem?_getD, List.getElem?_append_left h]
theorem vcost_zero : ∀ (rs : List Ru) (n : Nat), vcost rs (List.replicate n 0) = 0
  | [], n => by rw [vcost]
  | r :: rs, 0 => by rw [List.replicate_zero, vcost]
  | r :: rs, n + 1 => by rw [List.replicate_succ, vcost, vcost_zero rs n]; omega
theorem vcost_more : ∀ (rs : List Ru) (u : List Int) (n : Nat), vcost rs (u ++ List.replicate n 0) = vcost rs u
  | rs, [], n => by
    rw [List.nil_append, vcost_zero]
    cases rs <;> simp [vcost]
  | [], v :: u, n => by simp [vcost]
  | r :: rs, v :: u, n => by rw [List.cons_append, vcost, vcost, vcost_more rs u n]
theorem getD_zero (u : List Int) (n k : Nat) : (u ++ List.replicate n 0).getD k 0 = u.getD k 0 := by
  by_cases h : k < u.length
  · exact getD_pre h
  · rw [List.getD_eq_getElem?_getD, List.getD_eq_getElem?_getD, List.getElem?_append_right (by omega), List.getElem?_eq_none (l := u) (by omega), List.getElem?_replicate]
    split <;> rfl
theorem spl_zero (u : List Int) (n : Nat) (x : Ch) : spl (u ++ List.replicate n 0) x = spl u x := by
  unfold spl
  rw [getD_zero]
theorem scost_zero (cs : List Ch) (u : List Int) (n : Nat) : ∀ (xs : List Sn), scost cs (u ++ List.replicate n 0) xs = scost cs u xs
  | [] => by rw [scost, scost]
  | x :: xs => by
    rw [scost, scost, scost_zero cs u n xs]
    have : snSpl cs (u ++ List.replicate n 0) x = snSpl cs u x := by
      unfold snSpl
      congr 1
      funext y
      exact spl_zero u n y
    rw [this]
/-- Zeros behind the first values cost nothing. -/
theorem sum_zero (p : Pc) (u : List Int) (n : Nat) : costSum p (u ++ List.replicate n 0) = costSum p u := by
  unfold costSum
  rw [vcost_more, scost_zero]
/-- The first values, and zeros: right values. -/
theorem pre_full {p : Pc} (hR : Right p) {u : List Int} (h : PreV p.rules u) : ValOk p (u ++ List.replicate (p.rules.length - u.length) 0) := by
  have hl := h.1
  refine ⟨by simp; omega, fun j z y hz hy => ?_⟩
  have hy2 := (hR.rules.2 j y hy).1
  by_cases e : j < u.length
  · rw [List.getElem?_append_left e] at hz
    have := h.2 j z y hz hy
    omega
  · rw [List.getElem?_append_right (by omega), List.getElem?_replicate] at hz
    split at hz
    · cases hz
      omega
    · cases hz
theorem pre_nn {rs : List Ru} {u : List Int} (h : PreV rs u) : ∀ z ∈ u, 0 ≤ z := fun z hz => by
  obtain ⟨j, hj⟩ := List.mem_iff_getElem?.1 hz
  have hl := (List.getElem?_eq_some_iff.1 hj).1
  have := h.1
  obtain ⟨y, hy⟩ : ∃ y, rs[j]? = some y := ⟨_, List.getElem?_eq_getElem (by omega)⟩
  exact (h.2 j z y hj hy).1
end Go.Proofs.Ytokfemlcamnaaaa
