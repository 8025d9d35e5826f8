/- The law on CommonOf: both tell the same number, and nothing is written into an argument. -/
import Derived.Test.YtdlpepmdjbmmmaaCoP
import Derived.Test.YtdlpepmdjbmmmaaSzS
import Derived.Test.YtdlpepmdjbmmmaaStrs
namespace Go.Proofs.Ytdlpepmdjbmmmaa
open Go.RowKit

set_option maxHeartbeats 4000000 in
theorem lawCommon (a : Option Addr) (n c : Nat) (ss : List ByteArray) (b : Option Addr) (m d : Nat) (ts : List ByteArray) (w : World) (hn : n ≤ 9223372036854775807) (hS : TextsAt w a n ss) (hm : m ≤ 9223372036854775807) (hT : TextsAt w b m ts) :
    Calls Try.prog 4 #[.slice a n c, .slice b m d] w fun e w' => e = .returned (.bool true) ∧ Below w.heap.size w w' := by
  have HL := hidOf hS.1
  have HM := hidOf hT.1
  have HS := hidOf hS
  have HT := hidOf hT
  clear hS hT
  go_enter Try.func4, Try.ntmps4
  go_wp2_with fail
  refine (szS_all a n c ss _ _ hn (by omega) (by omega) HS.out).mono ?_
  rintro e w ⟨r, rfl, hr, rfl⟩
  rcases hr with rfl | ⟨hr0, hr1, hr2, -⟩
  · go_wp2
    go_ret
    exact ⟨rfl, Below.refl _ _⟩
  go_wp2_with fail
  refine (szS_all b m d ts _ _ hm hr0 hr1 HT.out).mono ?_
  rintro e w ⟨r2, rfl, hq, rfl⟩
  rcases hq with rfl | ⟨hq0, hq1, hq2, -⟩
  · go_wp2
    go_ret
    exact ⟨rfl, Below.refl _ _⟩
  have hs1 : ss.length ≤ 1048576 := by rw [HL.out]; exact hr2
  have hs2 : ts.length ≤ 1048576 := by rw [HM.out]; exact hq2
  go_wp2_with fail
  refine (to_any a n c ss _ (by omega) HS.out).mono ?_
  rintro e w2 ⟨hb2, v2, rfl, ho2⟩
  go_wp2_with fail
  refine (to_any b m d ts _ (by omega) (HT.out.below hb2)).mono ?_
  rintro e w3 ⟨hb3, v3, rfl, ho3⟩
  have hB3 := hb2.trans (hb3.mono hb2.size)
  have ho2 := owns_below ho2 hb3
  go_wp2_with fail
  refine (sCom_any v2 v3 ss ts _ hs1 hs2 (LnsAt.of_own ho2) (LnsAt.of_own ho3)).mono ?_
  rintro e w4 ⟨rfl, hb4⟩
  have hB4 := hB3.trans (hb4.mono hB3.size)
  clear ho2 ho3
  go_wp2_with fail
  refine (to_any a n c ss _ (by omega) (HS.out.below hB4)).mono ?_
  rintro e w5 ⟨hb5, v5, rfl, ho5⟩
  have hB5 := hB4.trans (hb5.mono hB4.size)
  go_wp2_with fail
  refine (to_any b m d ts _ (by omega) (HT.out.below hB5)).mono ?_
  rintro e w6 ⟨hb6, v6, rfl, ho6⟩
  have hB6 := hB5.trans (hb6.mono hB5.size)
  have ho5 := owns_below ho5 hb6
  go_wp2_with fail
  refine (iCom_any v5 v6 ss ts _ hs1 hs2 (LnsAt.of_own ho5) (LnsAt.of_own ho6)).mono ?_
  rintro e w7 ⟨rfl, hb7⟩
  have hB7 := hB6.trans (hb7.mono hB6.size)
  have ho5 := owns_below ho5 hb7
  have ho6 := owns_below ho6 hb7
  have hq : ((comOf ss ts : Int) != (comOf ss ts : Int)) = false := by simp
  go_wp2_with fail
  refine (to_any a n c ss _ (by omega) (HS.out.below hB7)).mono ?_
  rintro e w8 ⟨hb8, v8, rfl, ho8⟩
  have hB8 := hB7.trans (hb8.mono hB7.size)
  have ho5 := owns_below ho5 hb8
  have ho6 := owns_below ho6 hb8
  go_wp2_with fail
  refine (eqS_same v5 v8 _ _ ss.length ss _ (by omega) ho5 ho8).mono ?_
  rintro e w9 ⟨rfl, q9, rfl⟩
  have ho6 := owns_below ho6 (below_drewN _ q9)
  have hB9 := bel_drewN hB8 q9
  go_wp2_with fail
  refine (to_any b m d ts _ (by omega) (HT.out.below hB9)).mono ?_
  rintro e w10 ⟨hb10, v10, rfl, ho10⟩
  have hB10 := hB9.trans (hb10.mono hB9.size)
  have ho6 := owns_below ho6 hb10
  go_wp2_with fail
  refine (eqS_same v6 v10 _ _ ts.length ts _ (by omega) ho6 ho10).mono ?_
  rintro e w11 ⟨rfl, q11, rfl⟩
  go_wp2
  go_ret
  exact ⟨rfl, bel_drewN hB10 q11⟩
end Go.Proofs.Ytdlpepmdjbmmmaa
