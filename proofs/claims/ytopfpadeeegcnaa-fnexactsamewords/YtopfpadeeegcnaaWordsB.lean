/- What impl.SameWords and spec.SameWords answer. -/
import Derived.Test.YtopfpadeeegcnaaSameI
import Derived.Test.YtopfpadeeegcnaaSameS
import Derived.Test.YtopfpadeeegcnaaLefJ
import Derived.Test.YtopfpadeeegcnaaLefS
namespace Go.Proofs.Ytopfpadeeegcnaa
open Go.RowKit

theorem SgsAns.at {xs : List Sg} {e0 : Nat} {w : World} {e : Ending} {w' : World} (h : SgsAns xs e0 w e w') : ∃ a c, e = .returned (.slice a xs.length c) ∧ SgsAt w' (.slice a xs.length c) xs ∧ Below w.heap.size w w' := by
  obtain ⟨hb, v, rfl, ho⟩ := h
  obtain ⟨a, c, rfl⟩ := owns_slice ho
  exact ⟨a, c, rfl, .of_own ho, hb⟩
def sameW (xs ys : List Sg) : Bool := sameAll (lefF xs) (lefF ys)

set_option maxHeartbeats 4000000 in
theorem iWords_any (v1 v2 : Value) (xs ys : List Sg) (w : World) (hx : xs.length ≤ 1048576) (hy : ys.length ≤ 1048576) (h1 : SgsAt w v1 xs) (h2 : SgsAt w v2 ys) :
    Calls Try.prog 15 #[v1, v2] w fun e w' => e = .returned (.bool (sameW xs ys)) ∧ Below w.heap.size w w' := by
  have l1 := lef_len xs
  have l2 := lef_len ys
  have k1 := h1
  have k2 := h2
  obtain ⟨a1, c1, rfl, -⟩ := h1
  obtain ⟨a2, c2, rfl, -⟩ := h2
  go_enter Try.func15, Try.ntmps15
  go_wp2_with fail
  refine (iLef_any _ xs _ hx k1).mono ?_
  intro e w1 h1
  obtain ⟨a3, c3, rfl, A1, hb1⟩ := h1.at
  clear h1
  go_wp2_with fail
  refine (iLef_any _ ys _ hy (k2.below hb1)).mono ?_
  intro e w2 h2
  obtain ⟨a4, c4, rfl, A2, hb2⟩ := h2.at
  clear h2
  have B2 := hb1.trans (hb2.mono hb1.size)
  go_wp2_with fail
  refine (iSame_any _ _ (lefF xs) (lefF ys) _ (by omega) (by omega) (A1.below hb2) A2).mono ?_
  rintro e w3 ⟨rfl, hb3⟩
  go_wp2
  go_ret
  exact ⟨rfl, B2.trans (hb3.mono B2.size)⟩

set_option maxHeartbeats 4000000 in
theorem sWords_any (v1 v2 : Value) (xs ys : List Sg) (w : World) (hx : xs.length ≤ 1048576) (hy : ys.length ≤ 1048576) (h1 : SgsAt w v1 xs) (h2 : SgsAt w v2 ys) :
    Calls Try.prog 14 #[v1, v2] w fun e w' => e = .returned (.bool (sameW xs ys)) ∧ Below w.heap.size w w' := by
  have l1 := lef_len xs
  have l2 := lef_len ys
  have k1 := h1
  have k2 := h2
  obtain ⟨a1, c1, rfl, -⟩ := h1
  obtain ⟨a2, c2, rfl, -⟩ := h2
  go_enter Try.func14, Try.ntmps14
  go_wp2_with fail
  refine (sLef_any _ xs _ hx k1).mono ?_
  intro e w1 h1
  obtain ⟨a3, c3, rfl, A1, hb1⟩ := h1.at
  clear h1
  go_wp2_with fail
  refine (sLef_any _ ys _ hy (k2.below hb1)).mono ?_
  intro e w2 h2
  obtain ⟨a4, c4, rfl, A2, hb2⟩ := h2.at
  clear h2
  have B2 := hb1.trans (hb2.mono hb1.size)
  go_wp2_with fail
  refine (sSame_any _ _ (lefF xs) (lefF ys) _ (by omega) (by omega) (A1.below hb2) A2).mono ?_
  rintro e w3 ⟨rfl, hb3⟩
  go_wp2
  go_ret
  exact ⟨rfl, B2.trans (hb3.mono B2.size)⟩
end Go.Proofs.Ytopfpadeeegcnaa
