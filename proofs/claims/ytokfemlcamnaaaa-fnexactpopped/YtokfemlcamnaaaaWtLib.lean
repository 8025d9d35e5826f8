/- How many numbers there are in a heap's states. -/
import Derived.Test.YtokfemlcamnaaaaToSt
import Derived.Test.YtokfemlcamnaaaaHeapTot
namespace Go.Proofs.Ytokfemlcamnaaaa
open Go.RowKit

theorem wt_tot : ∀ (xs : List St), (wt xs : Int) = totS (fun x => (x.vals.length : Int)) xs
  | [] => rfl
  | x :: xs => by
    have e : wt (x :: xs) = x.vals.length + wt xs := by simp [wt]
    rw [e, totS, ← wt_tot xs]
    omega
theorem wt_push (xs : List St) (x : St) : wt (pushL stLess xs x) = wt xs + x.vals.length := by
  have h := tot_push (lt := stLess) (fun x : St => (x.vals.length : Int)) xs x
  rw [← wt_tot, ← wt_tot] at h
  omega
theorem wt_rest (xs : List St) (x : St) (h : xs[0]? = some x) : wt (restL stLess xs) + x.vals.length = wt xs := by
  have h := tot_rest (lt := stLess) (fun x : St => (x.vals.length : Int)) xs x h
  rw [← wt_tot, ← wt_tot] at h
  omega
end Go.Proofs.Ytokfemlcamnaaaa
