/- The law on JoinLines: two answers alike, and nothing is written into the argument. -/
import Derived.Test.YtdpdlddbnpnabaaToS
import Derived.Test.YtdpdlddbnpnabaaJoinI
import Derived.Test.YtdpdlddbnpnabaaJoinS
import Derived.Test.YtdpdlddbnpnabaaStrs
namespace Go.Proofs.Ytdpdlddbnpnabaa
open Go.RowKit

set_option maxHeartbeats 1600000 in
theorem lawJoinLines (a : Option Addr) (n c : Nat) (ss : List ByteArray) (w : World) (hn : n ≤ maxLen) (hT : TextsAt w a n ss) :
    Calls Try.prog 4 #[.slice a n c] w fun e w' => e = .returned (.bool true) ∧ Below w.heap.size w w' := by
  unfold maxLen at hn
  have HL := hidOf hT.1
  have HT := hidOf hT
  clear hT
  go_enter Try.func4, Try.ntmps4
  go_wp2_with fail
  refine (sz_any a n c ss _ (by omega) HT.out).mono ?_
  rintro e w ⟨r, rfl, hr, rfl⟩
  by_cases h0 : r < 0
  · go_wp2
    go_ret
    exact ⟨rfl, Below.refl _ _⟩
  · have hj := hr (by omega)
    have hm := joins_many ss
    rw [HL.out] at hm
    clear hr
    go_wp2_with fail
    refine (to_any a n c ss _ (by omega) HT.out).mono ?_
    rintro e w1 ⟨hb1, v1, rfl, ho1⟩
    rw [HL.out] at ho1
    have hs1 := hb1.size
    obtain ⟨u, hu⟩ : ∃ u, u = joins ss := ⟨_, rfl⟩
    have HU := hidOf hu
    clear hu
    go_wp2_with fail
    refine (sJoin_any v1 w.heap.size n ss _ (by omega) ho1).mono ?_
    rw [← HU.out]
    rintro e w2 ⟨rfl, rfl⟩
    go_wp2_with fail
    refine (to_any a n c ss _ (by omega) (HT.out.below hb1)).mono ?_
    rintro e w3 ⟨hb3, v3, rfl, ho3⟩
    rw [HL.out] at ho3
    have hs3 := hb3.size
    have hbw3 := hb1.trans (hb3.mono hs1)
    go_wp2_with fail
    refine (iJoin_any v3 w2.heap.size n ss _ (by omega) ho3).mono ?_
    rw [← HU.out]
    rintro e w4 ⟨rfl, hb4⟩
    have hs4 := hb4.size
    have hbw4 := hbw3.trans (hb4.mono (by omega))
    have ho4 := owns_below ho3 hb4
    have hE := str_same (a := u) (b := u) rfl
    go_wp2_with fail
    refine (to_any a n c ss _ (by omega) (HT.out.below hbw4)).mono ?_
    rintro e w5 ⟨hb5, v5, rfl, ho5⟩
    rw [HL.out] at ho5
    have hs5 := hb5.size
    have hbw5 := hbw4.trans (hb5.mono (by omega))
    have ho6 := owns_below ho4 hb5
    go_wp2_with fail
    refine (eqS_same v3 v5 _ _ n ss _ (by omega) ho6 ho5).mono ?_
    rintro e w6 ⟨rfl, q6, rfl⟩
    go_wp2
    go_ret
    exact ⟨rfl, bel_drewN hbw5 q6⟩
end Go.Proofs.Ytdpdlddbnpnabaa
