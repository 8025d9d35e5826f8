/- The law on SameWords: two answers alike, and the arguments as they were. -/
import Derived.Test.YtopfpadeeegcnaaWordsB
import Derived.Test.YtopfpadeeegcnaaToSg
import Derived.Test.YtopfpadeeegcnaaEqSg
namespace Go.Proofs.Ytopfpadeeegcnaa
open Go.RowKit

set_option maxHeartbeats 4000000 in
theorem lawSameWords (v1 v2 : Value) (xs ys : List Sg) (w : World) (hx0 : xs.length ≤ 9223372036854775807) (hy0 : ys.length ≤ 9223372036854775807) (hx : SgsOk xs) (hy : SgsOk ys) (h1 : SgsAt w v1 xs) (h2 : SgsAt w v2 ys) :
    Calls Try.prog 4 #[v1, v2] w fun e w' => e = .returned (.bool true) ∧ Below w.heap.size w w' := by
  have k1 := h1
  have k2 := h2
  obtain ⟨a1, c1, rfl, -⟩ := h1
  obtain ⟨a2, c2, rfl, -⟩ := h2
  go_enter Try.func4, Try.ntmps4
  go_wp2_with fail
  refine (szSigns_any _ xs 1048576 _ hx0 hx (by omega) (by omega) k1).mono ?_
  rintro e w1 ⟨r, rfl, hr, hb1⟩
  rcases hr with rfl | ⟨hr0, hr1, hxl⟩
  · go_wp2
    go_ret
    exact ⟨rfl, hb1⟩
  · go_wp2_with fail
    refine (szSigns_any _ ys r _ hy0 hy hr0 hr1 (k2.below hb1)).mono ?_
    rintro e w2 ⟨r2, rfl, hr2, hb2⟩
    have B2 := hb1.trans (hb2.mono hb1.size)
    rcases hr2 with rfl | ⟨hr20, hr21, hyl⟩
    · go_wp2
      go_ret
      exact ⟨rfl, B2⟩
    · obtain ⟨u, hu⟩ : ∃ u, u = sameW xs ys := ⟨_, rfl⟩
      have HU := hidOf hu
      clear hu
      have K1 := k1.below B2
      have K2 := k2.below B2
      clear k1 k2
      go_wp2_with fail
      refine (toSigns_any _ xs _ hxl K1).mono ?_
      intro e w3 h3
      obtain ⟨a3, c3, rfl, A3, hb3⟩ := h3.at
      clear h3
      have B3 := B2.trans (hb3.mono B2.size)
      go_wp2_with fail
      refine (toSigns_any _ ys _ hyl (K2.below hb3)).mono ?_
      intro e w4 h4
      obtain ⟨a4, c4, rfl, A4, hb4⟩ := h4.at
      clear h4
      have B4 := B3.trans (hb4.mono B3.size)
      go_wp2_with fail
      refine (sWords_any _ _ xs ys _ (by omega) (by omega) (A3.below hb4) A4).mono ?_
      rw [← HU.out]
      rintro e w5 ⟨rfl, hb5⟩
      have B5 := B4.trans (hb5.mono B4.size)
      have L1 := ((K1.below hb3).below hb4).below hb5
      have L2 := ((K2.below hb3).below hb4).below hb5
      clear A3 A4 K1 K2
      go_wp2_with fail
      refine (toSigns_any _ xs _ hxl L1).mono ?_
      intro e w6 h6
      obtain ⟨a6, c6, rfl, A6, hb6⟩ := h6.at
      clear h6
      have B6 := B5.trans (hb6.mono B5.size)
      go_wp2_with fail
      refine (toSigns_any _ ys _ hyl (L2.below hb6)).mono ?_
      intro e w7 h7
      obtain ⟨a7, c7, rfl, A7, hb7⟩ := h7.at
      clear h7
      have B7 := B6.trans (hb7.mono B6.size)
      go_wp2_with fail
      refine (iWords_any _ _ xs ys _ (by omega) (by omega) (A6.below hb7) A7).mono ?_
      rw [← HU.out]
      rintro e w8 ⟨rfl, hb8⟩
      have B8 := B7.trans (hb8.mono B7.size)
      have M1 := ((L1.below hb6).below hb7).below hb8
      have M2 := ((L2.below hb6).below hb7).below hb8
      have N6 := (A6.below hb7).below hb8
      have N7 := A7.below hb8
      clear L1 L2 A6 A7 HU
      cases u
      all_goals go_wp2_with fail
      all_goals refine (toSigns_any _ xs _ hxl M1).mono ?_
      all_goals intro e w9 h9
      all_goals obtain ⟨a9, c9, rfl, A9, hb9⟩ := h9.at
      all_goals clear h9
      all_goals have B9 := B8.trans (hb9.mono B8.size)
      all_goals go_wp2_with fail
      all_goals refine (eqSigns_same _ _ xs _ (by omega) (N6.below hb9) A9).mono ?_
      all_goals rintro e w10 ⟨rfl, hb10⟩
      all_goals have B10 := B9.trans (hb10.mono B9.size)
      all_goals go_wp2_with fail
      all_goals refine (toSigns_any _ ys _ hyl ((M2.below hb9).below hb10)).mono ?_
      all_goals intro e w11 h11
      all_goals obtain ⟨a11, c11, rfl, A11, hb11⟩ := h11.at
      all_goals clear h11
      all_goals have B11 := B10.trans (hb11.mono B10.size)
      all_goals go_wp2_with fail
      all_goals refine (eqSigns_same _ _ ys _ (by omega) (((N7.below hb9).below hb10).below hb11) A11).mono ?_
      all_goals rintro e w12 ⟨rfl, hb12⟩
      all_goals go_wp2
      all_goals go_ret
      all_goals exact ⟨rfl, B11.trans (hb12.mono B11.size)⟩
end Go.Proofs.Ytopfpadeeegcnaa
