/- The law on WordsOf: two answers alike, and what is answered owns its memory. -/
import Derived.Test.YtabbfpkhlofccaaDoorStrs
import Derived.Test.YtabbfpkhlofccaaDoorWdI
import Derived.Test.YtabbfpkhlofccaaDoorWdS
import Derived.Test.YtabbfpkhlofccaaDoorMaxW
import Derived.Test.YtabbfpkhlofccaaDoorShp
namespace Go.Proofs.YtabbfpkhlofccaaDoor
open Go.RowKit

set_option maxHeartbeats 1600000 in
theorem lawWordsOf (s : ByteArray) (w : World) (hs : s.size ≤ maxLen) (m : Int) (hM : MaxIn m w) :
    Calls Tryd.prog 4 #[.string s] w fun e w' => e = .returned (.bool true) ∧ Below w.heap.size w w' := by
  unfold maxLen at hs
  have HT := hidOf hM
  clear hM
  by_cases h0 : 1048576 < s.size
  · go_enter Tryd.func4, Tryd.ntmps4
    go_wp2
    go_ret
    exact ⟨rfl, Below.refl _ _⟩
  · have hss := wds_len s
    obtain ⟨ss, hsE⟩ : ∃ ss, ss = wds s := ⟨_, rfl⟩
    rw [← hsE] at hss
    have HE := hidOf hsE
    clear hsE
    go_enter Tryd.func4, Tryd.ntmps4
    go_wp2_with fail
    refine (sWords_any s _ (by omega)).mono ?_
    rw [← HE.out]
    rintro e w1 ⟨hb1, v0, rfl, ho0⟩
    have hs1 := hb1.size
    go_wp2_with fail
    refine (iWords_any s m _ (by omega) (HT.out.below hb1).1 (HT.out.below hb1).2).mono ?_
    rw [← HE.out]
    rintro e w2 ⟨hb2, v1, rfl, ho1⟩
    have hs2 := hb2.size
    have hbw2 : Below w.heap.size w w2 := hb1.trans (hb2.mono hs1)
    have hne := own_other ho0 (Nat.le_refl _) ho1
    have ho0 := owns_below ho0 hb2
    go_wp2_with fail
    refine (eqS_same v1 v0 _ _ ss.length ss _ (by omega) ho1 ho0).mono ?_
    rintro e w3 ⟨rfl, q3, rfl⟩
    go_wp2_with fail
    refine (markS_one v1 w1.heap.size ss.length (strVals ss) (w2.drewN q3) (by omega) ho1).mono ?_
    rintro e w4 ⟨rfl, ho1m, hg4⟩
    have hs4 : w2.heap.size ≤ w4.heap.size := hg4.size
    have hbw4 : Below w.heap.size w w4 := (bel_drewN hbw2 q3).grown hg4 (by show w.heap.size ≤ w2.heap.size; omega) (fun k hk => by have := (ho1.lt k hk).1; omega)
    have ho0m := World.ownsRow.kept (w := w2.drewN q3) ho0 hg4 hne
    clear ho1 ho0
    go_wp2_with fail
    refine (heldS_one v1 w1.heap.size ss.length _ (by omega) ho1m).mono ?_
    rintro e w5 ⟨rfl, hb5⟩
    have hs5 := hb5.size
    have hbw5 : Below w.heap.size w w5 := hbw4.trans (hb5.mono (by omega))
    have ho1 := owns_below ho1m hb5
    have ho0 := owns_below ho0m hb5
    clear ho1m ho0m
    have hq : ((1 : Int) + (ss.length : Int) != 1 + (ss.length : Int)) = false := by simp
    go_wp2_with fail
    refine (iWords_any s m _ (by omega) (HT.out.below hbw5).1 (HT.out.below hbw5).2).mono ?_
    rw [← HE.out]
    rintro e w6 ⟨hb6, v2, rfl, ho2⟩
    have hs6 := hb6.size
    have hbw6 : Below w.heap.size w w6 := hbw5.trans (hb6.mono (by omega))
    have ho0 := owns_below ho0 hb6
    have ho1 := owns_below ho1 hb6
    go_wp2_with fail
    refine (eqS_same v2 v0 _ _ ss.length ss _ (by omega) ho2 ho0).mono ?_
    rintro e w7 ⟨rfl, q7, rfl⟩
    go_wp2_with fail
    refine (heldS_one v1 w1.heap.size ss.length (w6.drewN q7) (by omega) ho1).mono ?_
    rintro e w8 ⟨rfl, hb8⟩
    go_wp2
    go_ret
    exact ⟨rfl, (bel_drewN hbw6 q7).trans (hb8.mono (by show w.heap.size ≤ w6.heap.size; omega))⟩

end Go.Proofs.YtabbfpkhlofccaaDoor
