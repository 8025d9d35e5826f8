/- The law on SignAt: two answers alike, and the argument as it was. -/
import Derived.Test.YtlpbhhgikgbfhaaWhI
import Derived.Test.YtlpbhhgikgbfhaaWhS
import Derived.Test.YtlpbhhgikgbfhaaToSg
import Derived.Test.YtlpbhhgikgbfhaaEqSg
namespace Go.Proofs.Ytlpbhhgikgbfhaa
open Go.RowKit

theorem SgsAns.at {xs : List Sg} {e0 : Nat} {w : World} {e : Ending} {w' : World} (h : SgsAns xs e0 w e w') : ∃ a c, e = .returned (.slice a xs.length c) ∧ SgsAt w' (.slice a xs.length c) xs ∧ Below w.heap.size w w' := by
  obtain ⟨hb, v, rfl, ho⟩ := h
  obtain ⟨a, c, rfl⟩ := owns_slice ho
  exact ⟨a, c, rfl, .of_own ho, hb⟩

set_option maxHeartbeats 4000000 in
theorem lawSignAt (v1 : Value) (xs : List Sg) (at' : Int) (w : World) (hx0 : xs.length ≤ 9223372036854775807) (hx : SgsOk xs) (h1 : SgsAt w v1 xs) :
    Calls Try.prog 3 #[v1, .int .i64 at'] w fun e w' => e = .returned (.bool true) ∧ Below w.heap.size w w' := by
  have k1 := h1
  obtain ⟨a1, c1, rfl, -⟩ := h1
  go_enter Try.func3, Try.ntmps3
  go_wp2_with fail
  refine (szSigns_any _ xs 1048576 _ hx0 hx (by omega) (by omega) k1).mono ?_
  rintro e w1 ⟨r, rfl, hr, hb1⟩
  rcases hr with rfl | ⟨hr0, hr1, hxl⟩
  · go_wp2
    go_ret
    exact ⟨rfl, hb1⟩
  · obtain ⟨u, hu⟩ : ∃ u, u = signAt xs at' := ⟨_, rfl⟩
    have HU := hidOf hu
    clear hu
    have K1 := k1.below hb1
    clear k1
    go_wp2_with fail
    refine (toSigns_any _ xs _ hxl K1).mono ?_
    intro e w2 h2
    obtain ⟨a2, c2, rfl, A2, hb2⟩ := h2.at
    clear h2
    have B2 := hb1.trans (hb2.mono hb1.size)
    go_wp2_with fail
    refine (sSignAt_any _ xs at' _ (by omega) A2).mono ?_
    rw [← HU.out]
    rintro e w3 ⟨rfl, hb3⟩
    have B3 := B2.trans (hb3.mono B2.size)
    have K3 := (K1.below hb2).below hb3
    clear A2 K1
    go_wp2_with fail
    refine (toSigns_any _ xs _ hxl K3).mono ?_
    intro e w4 h4
    obtain ⟨a4, c4, rfl, A4, hb4⟩ := h4.at
    clear h4
    have B4 := B3.trans (hb4.mono B3.size)
    go_wp2_with fail
    refine (iSignAt_any _ xs at' _ (by omega) A4).mono ?_
    rw [← HU.out]
    rintro e w5 ⟨rfl, hb5⟩
    have B5 := B4.trans (hb5.mono B4.size)
    have K5 := (K3.below hb4).below hb5
    have A5 := A4.below hb5
    clear K3 A4
    go_wp2_with fail
    refine (toSigns_any _ xs _ hxl K5).mono ?_
    intro e w6 h6
    obtain ⟨a6, c6, rfl, A6, hb6⟩ := h6.at
    clear h6
    have B6 := B5.trans (hb6.mono B5.size)
    go_wp2_with fail
    refine (eqSigns_same _ _ xs _ (by omega) (A5.below hb6) A6).mono ?_
    rintro e w7 ⟨rfl, hb7⟩
    go_wp2
    go_ret
    exact ⟨rfl, B6.trans (hb7.mono B6.size)⟩
end Go.Proofs.Ytlpbhhgikgbfhaa
