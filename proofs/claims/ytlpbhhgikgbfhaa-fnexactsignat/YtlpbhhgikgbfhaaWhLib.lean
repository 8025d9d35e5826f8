/- Which sign a place is in, as a plain function: the last one that begins there, or ahead. -/
import Derived.Test.YtlpbhhgikgbfhaaSgLib
namespace Go.Proofs.Ytlpbhhgikgbfhaa
open Go.RowKit

/-- Of the first n: the last one of which p is told; -1: none. -/
def lastOf (p : Nat → Bool) : Nat → Int
  | 0 => -1
  | n + 1 => if p n then (n : Int) else lastOf p n
theorem lastOf_no {p : Nat → Bool} {m : Nat} : ∀ {n : Nat}, m ≤ n → (∀ j, m ≤ j → j < n → p j = false) → lastOf p n = lastOf p m
  | 0, h, _ => by obtain rfl : m = 0 := by omega
                  rfl
  | n + 1, h, hp => by
    by_cases e : m = n + 1
    · rw [e]
    · rw [lastOf, hp n (by omega) (by omega), if_neg (by simp), lastOf_no (by omega) (fun j h1 h2 => hp j h1 (by omega))]
theorem lastOf_yes {p : Nat → Bool} {m n : Nat} (hm : m < n) (h : p m = true) (hp : ∀ j, m < j → j < n → p j = false) : lastOf p n = m := by
  rw [lastOf_no (m := m + 1) hm (fun j h1 h2 => hp j h1 h2), lastOf, h, if_pos rfl]
theorem lastOf_none {p : Nat → Bool} {n : Nat} (hp : ∀ j, j < n → p j = false) : lastOf p n = -1 := by
  rw [lastOf_no (m := 0) (Nat.zero_le _) (fun j _ h => hp j h), lastOf]
theorem lastOf_range (p : Nat → Bool) : ∀ n, -1 ≤ lastOf p n ∧ lastOf p n < n
  | 0 => by simp [lastOf]
  | n + 1 => by
    have := lastOf_range p n
    rw [lastOf]
    split <;> omega
def sg0 : Sg := ⟨0, ByteArray.empty, 0, false⟩
def sgNo (xs : List Sg) (i : Nat) : Sg := xs[i]?.getD sg0
theorem sgNo_at {xs : List Sg} {i : Nat} (h : i < xs.length) : xs[i]? = some (sgNo xs i) := by simp [sgNo, h]
def atP (xs : List Sg) (at' : Int) (i : Nat) : Bool := decide ((sgNo xs i).place ≤ at')
def signAt (xs : List Sg) (at' : Int) : Int := lastOf (atP xs at') xs.length
end Go.Proofs.Ytlpbhhgikgbfhaa
