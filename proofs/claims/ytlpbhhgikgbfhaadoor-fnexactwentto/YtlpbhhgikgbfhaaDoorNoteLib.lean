/- Texts of notes, and a list of signs without each comma ahead of a closing bracket, as plain functions. -/
import Derived.Test.YtlpbhhgikgbfhaaDoorSgLib
namespace Go.Proofs.YtlpbhhgikgbfhaaDoor
open Go.RowKit

/-- The texts of notes, in order. -/
def nts : List Sg → List ByteArray
  | [] => []
  | x :: xs => if (x.kind == 5) = true then x.text :: nts xs else nts xs
theorem nts_len : ∀ (xs : List Sg), (nts xs).length ≤ xs.length
  | [] => Nat.le_refl _
  | x :: xs => by
    have := nts_len xs
    unfold nts
    split <;> simp <;> omega
theorem drop_sg {xs : List Sg} {k : Nat} {x : Sg} (h : xs[k]? = some x) : xs.drop k = x :: xs.drop (k + 1) := by
  obtain ⟨hk, e⟩ := List.getElem?_eq_some_iff.1 h
  rw [List.drop_eq_getElem_cons hk, e]
theorem nts_yes {xs : List Sg} {k : Nat} {x : Sg} {pre : List ByteArray} (h : xs[k]? = some x) (hk : (x.kind == 5) = true) (hp : pre ++ nts (xs.drop k) = nts xs) : (pre ++ [x.text]) ++ nts (xs.drop (k + 1)) = nts xs := by
  rw [← hp, drop_sg h, nts, if_pos hk, List.append_assoc]
  rfl
theorem nts_no {xs : List Sg} {k : Nat} {x : Sg} {pre : List ByteArray} (h : xs[k]? = some x) (hk : (x.kind == 5) = false) (hp : pre ++ nts (xs.drop k) = nts xs) : pre ++ nts (xs.drop (k + 1)) = nts xs := by
  rw [← hp, drop_sg h, nts, if_neg (by rw [hk]; simp)]
theorem nts_end {xs : List Sg} {k : Nat} {pre : List ByteArray} (h : xs.length ≤ k) (hp : pre ++ nts (xs.drop k) = nts xs) : nts xs = pre := by
  rw [← hp, List.drop_of_length_le h]
  simp [nts]

/-- A comma; a bracket that closes. -/
def isSep (x : Sg) : Bool := (x.kind == 4) && (x.text.toList == [44])
def isShut (x : Sg) : Bool := (x.kind == 4) && ((x.text.toList == [41]) || (x.text.toList == [93]))
def shutAt (xs : List Sg) (k : Nat) : Bool := match xs[k]? with | some y => isShut y | none => false
def lefF : List Sg → List Sg
  | [] => []
  | x :: xs => if (isSep x && shutAt xs 0) = true then lefF xs else x :: lefF xs
theorem lef_len : ∀ (xs : List Sg), (lefF xs).length ≤ xs.length
  | [] => Nat.le_refl _
  | x :: xs => by
    have := lef_len xs
    unfold lefF
    split <;> simp <;> omega
theorem shut_drop (xs : List Sg) (k : Nat) : shutAt (xs.drop k) 0 = shutAt xs k := by unfold shutAt; rw [List.getElem?_drop, Nat.add_zero]
theorem lef_out {xs : List Sg} {k : Nat} {x : Sg} {pre : List Sg} (h : xs[k]? = some x) (hs : isSep x = true) (hk : shutAt xs (k + 1) = true) (hp : pre ++ lefF (xs.drop k) = lefF xs) : pre ++ lefF (xs.drop (k + 1)) = lefF xs := by
  rw [← hp, drop_sg h, lefF, if_pos (by rw [shut_drop, hs, hk]; rfl)]
theorem lef_in {xs : List Sg} {k : Nat} {x : Sg} {pre : List Sg} (h : xs[k]? = some x) (hk : (isSep x && shutAt xs (k + 1)) = false) (hp : pre ++ lefF (xs.drop k) = lefF xs) : (pre ++ [x]) ++ lefF (xs.drop (k + 1)) = lefF xs := by
  rw [← hp, drop_sg h, lefF, if_neg (by rw [shut_drop, hk]; simp), List.append_assoc]
  rfl
theorem lef_end {xs : List Sg} {k : Nat} {pre : List Sg} (h : xs.length ≤ k) (hp : pre ++ lefF (xs.drop k) = lefF xs) : lefF xs = pre := by
  rw [← hp, List.drop_of_length_le h]
  simp [lefF]
end Go.Proofs.YtlpbhhgikgbfhaaDoor
