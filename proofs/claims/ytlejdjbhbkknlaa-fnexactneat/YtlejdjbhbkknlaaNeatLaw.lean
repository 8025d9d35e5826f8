/- The law on Neat. -/
import Derived.Test.YtlejdjbhbkknlaaNeatI
import Derived.Test.YtlejdjbhbkknlaaNeatS
import Derived.Test.YtlejdjbhbkknlaaMaxI
namespace Go.Proofs.Ytlejdjbhbkknlaa
open Go.RowKit

set_option maxHeartbeats 1600000 in
theorem lawNeat (s : ByteArray) (w : World) (hs : s.size ≤ maxLen) (m : Int) (hM : MaxIn m w) :
    Calls Try.prog 3 #[.string s] w fun e w' => e = .returned (.bool true) ∧ Below w.heap.size w w' := by
  unfold maxLen at hs
  have HT := hidOf hM
  clear hM
  by_cases h0 : 1048576 < s.size
  · go_enter Try.func3, Try.ntmps3
    go_wp2
    go_ret
    exact ⟨rfl, Below.refl _ _⟩
  · obtain ⟨b, hb⟩ := tel_bool (NeatP s)
    have HB := hidOf hb
    clear hb
    have hne : (b != b) = false := by simp
    go_enter Try.func3, Try.ntmps3
    go_wp2_with fail
    refine (sNeat_any s _ (by omega)).mono ?_
    rintro e w1 h1
    obtain ⟨rfl, hb1⟩ := h1.is HB.out
    have hs1 := hb1.size
    go_wp2_with fail
    refine (iNeat_any s m _ (by omega) (HT.out.below hb1).1 (HT.out.below hb1).2).mono ?_
    rintro e w2 h2
    obtain ⟨rfl, hb2⟩ := h2.is HB.out
    go_wp2
    go_ret
    exact ⟨rfl, hb1.trans (hb2.mono hs1)⟩
end Go.Proofs.Ytlejdjbhbkknlaa
