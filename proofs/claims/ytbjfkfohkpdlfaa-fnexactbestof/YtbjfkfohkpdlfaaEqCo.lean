/- What laws.eqCost answers at a cost and itself; a cost in a variable of its own. -/
import Derived.Test.YtbjfkfohkpdlfaaProg
import Derived.Test.YtbjfkfohkpdlfaaLib
namespace Go.Proofs.Ytbjfkfohkpdlfaa
open Go.RowKit

set_option maxHeartbeats 1600000 in
theorem eqCo_same (o s : Int) (w : World) :
    Calls Try.prog 29 #[.agg #[.int .i64 o, .int .i64 s], .agg #[.int .i64 o, .int .i64 s]] w fun e w' => e = .returned (.bool true) ∧ Below w.heap.size w w' := by
  have h1 : (o != o) = false := by simp
  have h2 : (s != s) = false := by simp
  have HB2 : ∀ a b : Obj, Below w.heap.size w ((w.alloc a).alloc b) := fun a b => ((Below.refl _ _).alloc (Nat.le_refl _) _).alloc (by simp) _
  go_enter Try.func29, Try.ntmps29
  go_wp2
  go_ret
  exact ⟨rfl, HB2 _ _⟩
/-- A variable is made, and holds a cost. -/
structure CoAt (w : World) (b : Nat) (o s : Int) : Prop where
  c0 : w.cell? ⟨b, 0, none⟩ = some (.int .i64 o)
  c1 : w.cell? ⟨b, 1, none⟩ = some (.int .i64 s)
theorem CoAt.below {w w' : World} {b B : Nat} {o s : Int} (h : CoAt w b o s) (hb : Below B w w') (hB : b < B) : CoAt w' b o s :=
  ⟨by rw [hb.cell hB]; exact h.c0, by rw [hb.cell hB]; exact h.c1⟩
theorem coBoxed (w : World) (o s : Int) (t : Nat) : ∃ W, W = w.alloc (.cells #[.int .i64 o, .int .i64 s] t) ∧ CoAt W w.heap.size o s ∧ Below w.heap.size w W ∧ W.heap.size = w.heap.size + 1 := by
  refine ⟨_, rfl, ⟨?_, ?_⟩, (Below.refl _ _).alloc (Nat.le_refl _) _, by simp⟩
  all_goals simp

end Go.Proofs.Ytbjfkfohkpdlfaa
