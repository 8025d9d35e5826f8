/- The law on KeptIn: both tell the same number, and nothing is written into the argument. -/
import Derived.Test.YtdlpepmdjbmmmaaKeI
import Derived.Test.YtdlpepmdjbmmmaaToEd
import Derived.Test.YtdlpepmdjbmmmaaEqEd
namespace Go.Proofs.Ytdlpepmdjbmmmaa
open Go.RowKit

set_option maxHeartbeats 3000000 in
theorem lawKept (v : Value) (xs : List Ed) (w : World) (hn : xs.length ≤ 9223372036854775807) (hok : EdsOk xs) (hT : EdsAt w v xs) :
    Calls Try.prog 8 #[v] w fun e w' => e = .returned (.bool true) ∧ Below w.heap.size w w' := by
  go_enter Try.func8, Try.ntmps8
  go_wp2_with fail
  refine (szEdits_any v xs _ _ hn hok (by omega) (by omega) hT).mono ?_
  rintro e w1 ⟨r, rfl, hr, hb1⟩
  rcases hr with rfl | ⟨hr0, hr1, hr2⟩
  · go_wp2
    go_ret
    exact ⟨rfl, hb1⟩
  · have hs1 := hb1.size
    go_wp2_with fail
    refine (toEdits_any v xs _ hr2 (hT.below hb1)).mono ?_
    rintro e w2 ⟨hb2, v2, rfl, ho2⟩
    have hs2 := hb2.size
    have hB2 := hb1.trans (hb2.mono hs1)
    go_wp2_with fail
    refine (sKept_any v2 xs _ (by omega) (EdsAt.of_own ho2)).mono ?_
    rintro e w3 ⟨rfl, hb3⟩
    have hs3 := hb3.size
    have hB3 := hB2.trans (hb3.mono (by omega))
    go_wp2_with fail
    refine (toEdits_any v xs _ hr2 (hT.below hB3)).mono ?_
    rintro e w4 ⟨hb4, v4, rfl, ho4⟩
    have hs4 := hb4.size
    have hB4 := hB3.trans (hb4.mono (by omega))
    go_wp2_with fail
    refine (iKept_any v4 xs _ (by omega) (EdsAt.of_own ho4)).mono ?_
    rintro e w5 ⟨rfl, hb5⟩
    have hs5 := hb5.size
    have hB5 := hB4.trans (hb5.mono (by omega))
    have hq : ((kept xs : Int) != (kept xs : Int)) = false := by simp
    go_wp2_with fail
    refine (toEdits_any v xs _ hr2 (hT.below hB5)).mono ?_
    rintro e w6 ⟨hb6, v6, rfl, ho6⟩
    have hs6 := hb6.size
    have hB6 := hB5.trans (hb6.mono (by omega))
    go_wp2_with fail
    refine (eqEdits_same v4 v6 xs _ (by omega) (((EdsAt.of_own ho4).below hb5).below hb6) (EdsAt.of_own ho6)).mono ?_
    rintro e w7 ⟨rfl, hb7⟩
    go_wp2
    go_ret
    exact ⟨rfl, hB6.trans (hb7.mono (by omega))⟩
end Go.Proofs.Ytdlpepmdjbmmmaa
