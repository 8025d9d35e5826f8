/- The law on KeyWord: two answers alike. -/
import Derived.Test.YtmmefiaommfpkaaKey
namespace Go.Proofs.Ytmmefiaommfpkaa
open Go.RowKit

set_option maxHeartbeats 1600000 in
theorem lawKeyWord (s : ByteArray) (w : World) (hs : s.size ≤ maxLen) :
    Calls Try.prog 3 #[.string s] w fun e w' => e = .returned (.bool true) ∧ Below w.heap.size w w' := by
  unfold maxLen at hs
  by_cases h0 : 1048576 < s.size
  · go_enter Try.func3, Try.ntmps3
    go_wp2
    go_ret
    exact ⟨rfl, Below.refl _ _⟩
  · obtain ⟨u, hu⟩ : ∃ u, u = kw s := ⟨_, rfl⟩
    have HU := hidOf hu
    clear hu
    go_enter Try.func3, Try.ntmps3
    go_wp2_with fail
    refine (sKey_any s _).mono ?_
    rw [← HU.out]
    rintro e w ⟨rfl, rfl⟩
    go_wp2_with fail
    refine (iKey_any s _).mono ?_
    rw [← HU.out]
    rintro e w1 ⟨rfl, rfl⟩
    cases u
    all_goals go_wp2
    all_goals go_ret
    all_goals exact ⟨rfl, Below.refl _ _⟩
end Go.Proofs.Ytmmefiaommfpkaa
