/- The law on PartsOf: two answers alike, and what is answered owns its memory. -/
import Derived.Test.YtcaimnffnlpdcaaDoorRows
import Derived.Test.YtcaimnffnlpdcaaDoorPt
import Derived.MakeChecks
import Derived.Stop.LaidErr
import Derived.Stop.Joined
namespace Go.Proofs.YtcaimnffnlpdcaaDoor
open Go.RowKit

theorem bel_drewN {B : Nat} {a w : World} (h : Below B a w) (n : Nat) : Below B a (w.drewN n) := ⟨h.os, h.tape, h.output, h.size, h.block⟩
theorem gSpace : Tryd.prog.globalNamed "strings.asciiSpace" = some 0 := by kernel_rfl
theorem spaceData : (Rows.laid_strings_asciiSpace : DataW Unit) = Lib.tabData .u8 Lib.asciiSpaceTab := by kernel_rfl
theorem space_of_laid {W : World} (h : laidMetH Tryd.prog Rows.fnExactPartsOfRow.laid W) : Lib.TabBelow Tryd.prog W.heap.size W "strings.asciiSpace" .u8 Lib.asciiSpaceTab := by
  rw [MakeChecks.laidMetH_plain _ _ _ (by kernel_rfl)] at h
  have h2 : laidMet Tryd.prog [("strings.asciiSpace", Rows.laid_strings_asciiSpace)] W := laidMet.tail h
  rw [spaceData] at h2
  exact Lib.tabBelow_of_tabIs (Lib.tabIs_of_head gSpace (by kernel_rfl) Tryd.underlying59 Tryd.underlying5 (by kernel_rfl) (by kernel_rfl) h2)

theorem pans_is (s : ByteArray) : ∃ (ss : List ByteArray) (b : Bool), ss.length ≤ 10 ∧ ∀ w e w', PAns s w e w' → Below w.heap.size w w' ∧ ∃ v, e = .returned (.tuple #[v, .bool b]) ∧ w'.ownsRow w.heap.size 9 1 v ss.length (strVals ss) := by
  by_cases h : POk s
  · exact ⟨pf s, true, h.2.2, fun w e w' hp => ⟨hp.1, hp.2.1 h⟩⟩
  · exact ⟨[], false, by simp, fun w e w' hp => ⟨hp.1, hp.2.2 h⟩⟩
theorem own_other {w1 w2 : World} {b1 b2 e size n1 n2 : Nat} {v1 v2 : Value} {xs ys : List Value} (h1 : w1.ownsRow b1 e size v1 n1 xs) (hb : w1.heap.size ≤ b2) (h2 : w2.ownsRow b2 e size v2 n2 ys) : v1.ownBlock = none ∨ v1.ownBlock ≠ v2.ownBlock := by
  cases hv : v1.ownBlock with
  | none => exact Or.inl rfl
  | some g =>
    right
    intro he
    have := (h1.lt g hv).2
    have := (h2.lt g he.symm).1
    omega

set_option maxHeartbeats 1600000 in
theorem lawPartsOf (s : ByteArray) (w : World) (hs : s.size ≤ maxLen) (hL : laidMetH Tryd.prog Rows.fnExactPartsOfRow.laid w) :
    Calls Tryd.prog 5 #[.string s] w fun e w' => e = .returned (.bool true) ∧ Below w.heap.size w w' := by
  unfold maxLen at hs
  have HT := hidOf (space_of_laid hL)
  clear hL
  by_cases h0 : 1048576 < s.size
  · go_enter Tryd.func5, Tryd.ntmps5
    go_wp2
    go_ret
    exact ⟨rfl, Below.refl _ _⟩
  · obtain ⟨ss, b, hss, hA⟩ := pans_is s
    have HA := hidOf hA
    clear hA
    go_enter Tryd.func5, Tryd.ntmps5
    go_wp2_with fail
    refine (sPt_any s _ (by omega)).mono ?_
    intro e w1 hp
    obtain ⟨hb1, v0, rfl, ho0⟩ := HA.out _ _ _ hp
    clear hp
    have hs1 := hb1.size
    go_wp2_with fail
    refine (iPt_any s _ (by omega) (HT.out _ hb1)).mono ?_
    intro e w2 hp
    obtain ⟨hb2, v1, rfl, ho1⟩ := HA.out _ _ _ hp
    clear hp
    have hs2 := hb2.size
    have hbw2 : Below w.heap.size w w2 := hb1.trans (hb2.mono hs1)
    have hne := own_other ho0 (Nat.le_refl _) ho1
    have ho0 := owns_below ho0 hb2
    go_wp2_with fail
    refine (eqS_same v1 v0 _ _ ss.length ss _ (by omega) ho1 ho0).mono ?_
    rintro e w3 ⟨rfl, q3, rfl⟩
    go_wp2_with fail
    refine (markS_one v1 w1.heap.size ss.length (strVals ss) (w2.drewN q3) (by omega) ho1).mono ?_
    rintro e w4 ⟨rfl, ho1m, hg4⟩
    have hs4 : w2.heap.size ≤ w4.heap.size := hg4.size
    have hbw4 : Below w.heap.size w w4 := (bel_drewN hbw2 q3).grown hg4 (by show w.heap.size ≤ w2.heap.size; omega) (fun k hk => by have := (ho1.lt k hk).1; omega)
    have ho0m := World.ownsRow.kept (w := w2.drewN q3) ho0 hg4 hne
    clear ho1 ho0
    go_wp2_with fail
    refine (heldS_one v1 w1.heap.size ss.length _ (by omega) ho1m).mono ?_
    rintro e w5 ⟨rfl, hb5⟩
    have hs5 := hb5.size
    have hbw5 : Below w.heap.size w w5 := hbw4.trans (hb5.mono (by omega))
    have ho1 := owns_below ho1m hb5
    have ho0 := owns_below ho0m hb5
    clear ho1m ho0m
    have hq : ((1 : Int) + (ss.length : Int) != 1 + (ss.length : Int)) = false := by simp
    go_wp2_with fail
    refine (iPt_any s _ (by omega) (HT.out _ hbw5)).mono ?_
    intro e w6 hp
    obtain ⟨hb6, v2, rfl, ho2⟩ := HA.out _ _ _ hp
    clear hp
    have hs6 := hb6.size
    have hbw6 : Below w.heap.size w w6 := hbw5.trans (hb6.mono (by omega))
    have ho0 := owns_below ho0 hb6
    have ho1 := owns_below ho1 hb6
    go_wp2_with fail
    refine (eqS_same v2 v0 _ _ ss.length ss _ (by omega) ho2 ho0).mono ?_
    rintro e w7 ⟨rfl, q7, rfl⟩
    go_wp2_with fail
    refine (heldS_one v1 w1.heap.size ss.length (w6.drewN q7) (by omega) ho1).mono ?_
    rintro e w8 ⟨rfl, hb8⟩
    go_wp2
    go_ret
    exact ⟨rfl, (bel_drewN hbw6 q7).trans (hb8.mono (by show w.heap.size ≤ w6.heap.size; omega))⟩
end Go.Proofs.YtcaimnffnlpdcaaDoor
