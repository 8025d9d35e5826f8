/- The law on Trimmed: two answers alike. -/
import Derived.Test.YtdpdlddbnpnabaaDoorTrim
namespace Go.Proofs.YtdpdlddbnpnabaaDoor
open Go.RowKit

set_option maxHeartbeats 1600000 in
theorem lawTrimmed (s : ByteArray) (w : World) (hs : s.size ≤ maxLen) :
    Calls Tryd.prog 4 #[.string s] w fun e w' => e = .returned (.bool true) ∧ Below w.heap.size w w' := by
  unfold maxLen at hs
  by_cases h0 : 1048576 < s.size
  · go_enter Tryd.func4, Tryd.ntmps4
    go_wp2
    go_ret
    exact ⟨rfl, Below.refl _ _⟩
  · obtain ⟨u, hu⟩ : ∃ u, u = trimB s := ⟨_, rfl⟩
    have HU := hidOf hu
    clear hu
    have hE := str_same (a := u) (b := u) rfl
    go_enter Tryd.func4, Tryd.ntmps4
    go_wp2_with fail
    refine (sTrim_any s _ (by omega)).mono ?_
    rw [← HU.out]
    rintro e w ⟨rfl, rfl⟩
    go_wp2_with fail
    refine (iTrim_any s _ (by omega)).mono ?_
    rw [← HU.out]
    rintro e w1 ⟨rfl, hb⟩
    go_wp2
    go_ret
    exact ⟨rfl, hb⟩
end Go.Proofs.YtdpdlddbnpnabaaDoor
