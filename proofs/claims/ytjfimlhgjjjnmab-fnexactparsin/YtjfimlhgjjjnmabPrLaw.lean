/- The law on ParsIn: two answers alike, and the argument as it was. -/
import Derived.Test.YtjfimlhgjjjnmabPrI
import Derived.Test.YtjfimlhgjjjnmabToNd
import Derived.Test.YtjfimlhgjjjnmabEqNd
namespace Go.Proofs.Ytjfimlhgjjjnmab
open Go.RowKit

set_option maxHeartbeats 4000000 in
theorem lawParsIn (v1 : Value) (xs : List Nd) (w : World) (hx0 : xs.length ≤ 9223372036854775807) (hx : NdsOk xs) (h1 : NdsAt w v1 xs) :
    Calls Try.prog 3 #[v1] w fun e w' => e = .returned (.bool true) ∧ Below w.heap.size w w' := by
  have k1 := h1
  obtain ⟨a1, c1, rfl, -⟩ := h1
  go_enter Try.func3, Try.ntmps3
  go_wp2_with fail
  refine (szNodes_any _ xs 1048576 _ hx0 hx (by omega) (by omega) k1).mono ?_
  rintro e w1 ⟨r, rfl, hr, hb1⟩
  rcases hr with rfl | ⟨hr0, hr1, hxl, hxf⟩
  · go_wp2
    go_ret
    exact ⟨rfl, hb1⟩
  · have K1 := k1.below hb1
    obtain ⟨p, hp⟩ : ∃ p, p = parN xs := ⟨_, rfl⟩
    have HP := hidOf hp
    have hp1 : p ≤ 1048576 := hp ▸ Nat.le_trans (parN_le xs) hxl
    clear hp k1
    go_wp2_with fail
    refine (toNodes_any _ xs _ hxl hxf K1).mono ?_
    rintro e w3 ⟨a3, c3, rfl, A3, hb3⟩
    have B3 := hb1.trans (hb3.mono hb1.size)
    have K3 := K1.below hb3
    go_wp2_with fail
    refine (sPars_any _ xs _ (by omega) A3).mono ?_
    rw [← HP.out]
    rintro e w5 ⟨rfl, hb5⟩
    have B5 := B3.trans (hb5.mono B3.size)
    have K5 := K3.below hb5
    clear A3 K1 K3
    go_wp2_with fail
    refine (toNodes_any _ xs _ hxl hxf K5).mono ?_
    rintro e w6 ⟨a6, c6, rfl, A6, hb6⟩
    have B6 := B5.trans (hb6.mono B5.size)
    have K6 := K5.below hb6
    go_wp2_with fail
    refine (iPars_any _ xs _ (by omega) A6).mono ?_
    rw [← HP.out]
    rintro e w8 ⟨rfl, hb8⟩
    have B8 := B6.trans (hb8.mono B6.size)
    have K8 := K6.below hb8
    have N6 := A6.below hb8
    clear A6 K5 K6 HP
    have hne : ((p : Int) != (p : Int)) = false := by simp
    go_wp2_with fail
    refine (toNodes_any _ xs _ hxl hxf K8).mono ?_
    rintro e w9 ⟨a9, c9, rfl, A9, hb9⟩
    have B9 := B8.trans (hb9.mono B8.size)
    go_wp2_with fail
    refine (eqNodes_same _ _ xs _ (by omega) hxf (N6.below hb9) A9).mono ?_
    rintro e w10 ⟨rfl, hb10⟩
    have B10 := B9.trans (hb10.mono B9.size)
    go_wp2
    go_ret
    exact ⟨rfl, B10⟩
end Go.Proofs.Ytjfimlhgjjjnmab
