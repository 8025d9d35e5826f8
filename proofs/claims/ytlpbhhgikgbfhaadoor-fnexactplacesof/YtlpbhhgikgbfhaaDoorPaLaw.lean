/- The law on PlacesOf: two answers alike, and what is answered owns its memory. -/
import Derived.Test.YtlpbhhgikgbfhaaDoorPaS
import Derived.Test.YtlpbhhgikgbfhaaDoorEqIn
import Derived.Test.YtlpbhhgikgbfhaaDoorMkInt
namespace Go.Proofs.YtlpbhhgikgbfhaaDoor
open Go.RowKit

set_option maxHeartbeats 8000000 in
theorem lawPlacesOf (t : ByteArray) (w : World) (hs : t.size ≤ maxLen) :
    Calls Tryd.prog 3 #[.string t] w fun e w' => e = .returned (.bool true) ∧ Below w.heap.size w w' := by
  unfold maxLen at hs
  by_cases h0 : 1048576 < t.size
  · go_enter Tryd.func3, Tryd.ntmps3
    go_wp2
    go_ret
    exact ⟨rfl, Below.refl _ _⟩
  · have hm := pls_many t
    have hS := fun W => sPlaces_any t W (by omega)
    have hI := fun W => iPlaces_any t W (by omega)
    unfold IntsAns at hS hI
    generalize pls t = ks at hS hI hm
    have hq : ((1 : Int) + (ks.length : Int) != 1 + (ks.length : Int)) = false := by simp
    go_enter Tryd.func3, Tryd.ntmps3
    go_wp2_with fail
    refine (hS _).mono ?_
    rintro e w1 ⟨hb1, a0, d0, rfl, ho0⟩
    have hs1 := hb1.size
    go_wp2_with fail
    refine (hI _).mono ?_
    rintro e w2 ⟨hb2, a1, d1, rfl, ho1⟩
    have hs2 := hb2.size
    have hbw2 : Below w.heap.size w w2 := hb1.trans (hb2.mono hs1)
    have hne := own_other ho0 (Nat.le_refl _) ho1
    have ho0 := owns_below ho0 hb2
    go_wp2_with fail
    refine (eqInts_same a1 a0 d1 d0 ks _ (by omega) (.of_own ho1) (.of_own ho0)).mono ?_
    rintro e w3 ⟨rfl, hb3⟩
    have hs3 := hb3.size
    have hbw3 : Below w.heap.size w w3 := hbw2.trans (hb3.mono (by omega))
    have ho0 := owns_below ho0 hb3
    have ho1 := owns_below ho1 hb3
    go_wp2_with fail
    refine (markInts_any a1 w1.heap.size ks.length d1 1 _ _ (by omega) (by omega) ho1).mono ?_
    rintro e w4 ⟨rfl, ho1m, hg4⟩
    have hs4 := hg4.size
    have hbw4 : Below w.heap.size w w4 := hbw3.grown hg4 (by omega) (fun k hk => by have := (ho1.lt k hk).1; omega)
    have ho0m := World.ownsRow.kept ho0 hg4 hne
    clear ho1 ho0
    go_wp2_with fail
    refine (heldInts_any a1 w1.heap.size ks.length d1 1 _ (by omega) (by omega) ho1m).mono ?_
    rintro e w5 ⟨rfl, hb5⟩
    have hs5 := hb5.size
    have hbw5 : Below w.heap.size w w5 := hbw4.trans (hb5.mono (by omega))
    have ho1 := owns_below ho1m hb5
    have ho0 := owns_below ho0m hb5
    clear ho1m ho0m
    go_wp2_with fail
    refine (hI _).mono ?_
    rintro e w6 ⟨hb6, a2, d2, rfl, ho2⟩
    have hs6 := hb6.size
    have hbw6 : Below w.heap.size w w6 := hbw5.trans (hb6.mono (by omega))
    have ho0 := owns_below ho0 hb6
    have ho1 := owns_below ho1 hb6
    go_wp2_with fail
    refine (eqInts_same a2 a0 d2 d0 ks _ (by omega) (.of_own ho2) (.of_own ho0)).mono ?_
    rintro e w7 ⟨rfl, hb7⟩
    have hs7 := hb7.size
    have hbw7 : Below w.heap.size w w7 := hbw6.trans (hb7.mono (by omega))
    have ho1 := owns_below ho1 hb7
    go_wp2_with fail
    refine (heldInts_any a1 w1.heap.size ks.length d1 1 _ (by omega) (by omega) ho1).mono ?_
    rintro e w8 ⟨rfl, hb8⟩
    go_wp2
    go_ret
    exact ⟨rfl, hbw7.trans (hb8.mono (by omega))⟩
end Go.Proofs.YtlpbhhgikgbfhaaDoor
