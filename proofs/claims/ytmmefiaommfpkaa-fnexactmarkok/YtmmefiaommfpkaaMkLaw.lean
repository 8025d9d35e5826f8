/- The law on MarkOk: two answers alike. -/
import Derived.Test.YtmmefiaommfpkaaMkI
import Derived.Test.YtmmefiaommfpkaaMkS
namespace Go.Proofs.Ytmmefiaommfpkaa
open Go.RowKit

set_option maxHeartbeats 1600000 in
theorem lawMarkOk (s : ByteArray) (w : World) (hs : s.size ≤ maxLen) :
    Calls Try.prog 4 #[.string s] w fun e w' => e = .returned (.bool true) ∧ Below w.heap.size w w' := by
  unfold maxLen at hs
  by_cases h0 : 1048576 < s.size
  · go_enter Try.func4, Try.ntmps4
    go_wp2
    go_ret
    exact ⟨rfl, Below.refl _ _⟩
  · obtain ⟨u, hu⟩ : ∃ u, u = mkIs s.data.toList := ⟨_, rfl⟩
    have HU := hidOf hu
    clear hu
    go_enter Try.func4, Try.ntmps4
    go_wp2_with fail
    refine (sMark_any s _).mono ?_
    rw [ByteArray.toList_eq, ← HU.out]
    rintro e w1 ⟨rfl, hb1⟩
    go_wp2_with fail
    refine (iMark_any s _ (by omega)).mono ?_
    rw [← HU.out]
    rintro e w2 ⟨rfl, hb2⟩
    cases u
    all_goals go_wp2
    all_goals go_ret
    all_goals exact ⟨rfl, hb1.trans (hb2.mono hb1.size)⟩
end Go.Proofs.Ytmmefiaommfpkaa
