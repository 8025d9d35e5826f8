/- The laws that hold SumMore, SumOf, Sealed and Unsealed against the specification: the two answers are alike at every argument. -/
import Derived.Test.YtkbcikiencogbaaDoorRows
import Derived.Test.YtkbcikiencogbaaDoorSealI
import Derived.Test.YtkbcikiencogbaaDoorUnsS
import Derived.MakeChecks
import Derived.OpenShut
import Derived.Stop.LaidErr
import Derived.Stop.Joined
namespace Go.Proofs.YtkbcikiencogbaaDoor
open Go.RowKit

theorem qData : (Rows.laid_loop_example_g00459_impl_quarterSums : DataW Unit) = Lib.tabData .u32 qTab := by kernel_rfl
/-- The table, out of a row's condition. -/
theorem q_of_laid {W : World} (h : laidMetH Tryd.prog [("loop.example/g00459/impl.quarterSums", Rows.laid_loop_example_g00459_impl_quarterSums)] W) : ∀ w', Below W.heap.size W w' → QTab w' := by
  rw [MakeChecks.laidMetH_plain _ _ _ (by kernel_rfl)] at h
  have h2 : laidMet Tryd.prog [("loop.example/g00459/impl.quarterSums", Rows.laid_loop_example_g00459_impl_quarterSums)] W := h
  rw [qData] at h2
  exact Lib.tabBelow_of_tabIs (Lib.tabIs_of_head gQ (by kernel_rfl) Tryd.underlying48 Tryd.underlying29 (by kernel_rfl) (by kernel_rfl) h2)

theorem seans_same {t : ByteArray} {e e' : Ending} (h : SeAns t e) (h' : SeAns t e') : e' = e := by
  rcases h with ⟨h1, rfl⟩ | ⟨h1, rfl⟩ <;> rcases h' with ⟨h2, rfl⟩ | ⟨h2, rfl⟩
  · rfl
  · omega
  · omega
  · rfl
theorem usans_same {t : ByteArray} {e e' : Ending} (h : UsAns t e) (h' : UsAns t e') : e' = e := by
  rcases h with ⟨h1, rfl⟩ | ⟨h1, rfl⟩ <;> rcases h' with ⟨h2, rfl⟩ | ⟨h2, rfl⟩
  · rfl
  · exact absurd h1 h2
  · exact absurd h2 h1
  · rfl
theorem seans_is {t : ByteArray} {e : Ending} (h : SeAns t e) : ∃ (s : ByteArray) (b : Bool), e = .returned (.tuple #[.string s, .bool b]) ∧ (s.toList == s.toList) = true := by
  rcases h with ⟨_, rfl⟩ | ⟨_, rfl⟩ <;> exact ⟨_, _, rfl, str_same rfl⟩
theorem usans_is {t : ByteArray} {e : Ending} (h : UsAns t e) : ∃ (s : ByteArray) (b : Bool), e = .returned (.tuple #[.string s, .bool b]) ∧ (s.toList == s.toList) = true := by
  rcases h with ⟨_, rfl⟩ | ⟨_, rfl⟩ <;> exact ⟨_, _, rfl, str_same rfl⟩

theorem lawSumMore (s : Nat) (t : ByteArray) (w : World) (hn : s < 4294967296) (hs : t.size ≤ maxLen) (hL : laidMetH Tryd.prog Rows.fnExactSumMoreRow.laid w) :
    Calls Tryd.prog 4 #[.int .u32 s, .string t] w fun e w' => e = .returned (.bool true) ∧ Below w.heap.size w w' := by
  unfold maxLen at hs
  have HQ := hidOf (q_of_laid hL)
  clear hL
  by_cases h0 : 1048576 < t.size
  · go_enter Tryd.func4, Tryd.ntmps4
    go_wp2
    go_ret
    exact ⟨rfl, Below.refl _ _⟩
  · go_enter Tryd.func4, Tryd.ntmps4
    go_wp2_with fail
    refine (sSumMore_any s t _ hn (by omega)).mono ?_
    rintro e w ⟨rfl, rfl⟩
    go_wp2_with fail
    refine (iSumMore_any s t _ hn (by omega) (HQ.out _ (Below.refl _ _))).mono ?_
    rintro e w ⟨rfl, rfl⟩
    go_wp2
    go_ret
    exact ⟨rfl, Below.refl _ _⟩
theorem lawSumMoreI (x : Int) (t : ByteArray) (w : World) (hx : (Lit.int .u32 x).wf = true) (hs : t.size ≤ maxLen) (hL : laidMetH Tryd.prog Rows.fnExactSumMoreRow.laid w) :
    Calls Tryd.prog 4 #[.int .u32 x, .string t] w fun e w' => e = .returned (.bool true) ∧ Below w.heap.size w w' := by
  have hb := bounds_u32 hx
  obtain ⟨s, rfl⟩ := Int.eq_ofNat_of_zero_le hb.1
  exact lawSumMore s t w (by omega) hs hL
theorem lawSumOf (t : ByteArray) (w : World) (hs : t.size ≤ maxLen) (hL : laidMetH Tryd.prog Rows.fnExactSumOfRow.laid w) :
    Calls Tryd.prog 5 #[.string t] w fun e w' => e = .returned (.bool true) ∧ Below w.heap.size w w' := by
  unfold maxLen at hs
  have HQ := hidOf (q_of_laid hL)
  clear hL
  by_cases h0 : 1048576 < t.size
  · go_enter Tryd.func5, Tryd.ntmps5
    go_wp2
    go_ret
    exact ⟨rfl, Below.refl _ _⟩
  · go_enter Tryd.func5, Tryd.ntmps5
    go_wp2_with fail
    refine (sSumOf_any t _ (by omega)).mono ?_
    rintro e w ⟨rfl, rfl⟩
    go_wp2_with fail
    refine (iSumOf_any t _ (by omega) (HQ.out _ (Below.refl _ _))).mono ?_
    rintro e w ⟨rfl, rfl⟩
    go_wp2
    go_ret
    exact ⟨rfl, Below.refl _ _⟩
theorem lawSealed (t : ByteArray) (w : World) (hs : t.size ≤ maxLen) (hL : laidMetH Tryd.prog Rows.fnExactSealedRow.laid w) :
    Calls Tryd.prog 6 #[.string t] w fun e w' => e = .returned (.bool true) ∧ Below w.heap.size w w' := by
  unfold maxLen at hs
  have HQ := hidOf (q_of_laid hL)
  clear hL
  by_cases h0 : 1048576 < t.size
  · go_enter Tryd.func6, Tryd.ntmps6
    go_wp2
    go_ret
    exact ⟨rfl, Below.refl _ _⟩
  · go_enter Tryd.func6, Tryd.ntmps6
    go_wp2_with fail
    refine (sSealed_any t _ (by omega)).mono ?_
    rintro e w1 ⟨ha, hb1⟩
    obtain ⟨x, b, rfl, hx⟩ := seans_is ha
    have HA := hidOf ha
    clear ha
    go_wp2_with fail
    refine (iSealed_any t _ (by omega) (HQ.out _ hb1)).mono ?_
    rintro e w2 ⟨ha2, hb2⟩
    obtain rfl := seans_same HA.out ha2
    clear ha2
    cases b <;>
    · go_wp2
      go_ret
      exact ⟨rfl, hb1.trans (hb2.mono hb1.size)⟩
theorem lawUnsealed (t : ByteArray) (w : World) (hs : t.size ≤ maxLen) (hL : laidMetH Tryd.prog Rows.fnExactUnsealedRow.laid w) :
    Calls Tryd.prog 7 #[.string t] w fun e w' => e = .returned (.bool true) ∧ Below w.heap.size w w' := by
  unfold maxLen at hs
  have HQ := hidOf (q_of_laid hL)
  clear hL
  by_cases h0 : 1048576 < t.size
  · go_enter Tryd.func7, Tryd.ntmps7
    go_wp2
    go_ret
    exact ⟨rfl, Below.refl _ _⟩
  · go_enter Tryd.func7, Tryd.ntmps7
    go_wp2_with fail
    refine (sUnsealed_any t _ (by omega)).mono ?_
    rintro e w1 ⟨ha, hb1⟩
    obtain ⟨x, b, rfl, hx⟩ := usans_is ha
    have HA := hidOf ha
    clear ha
    go_wp2_with fail
    refine (iUnsealed_any t _ (by omega) (HQ.out _ hb1)).mono ?_
    rintro e w2 ⟨ha2, hb2⟩
    obtain rfl := usans_same HA.out ha2
    clear ha2
    cases b <;>
    · go_wp2
      go_ret
      exact ⟨rfl, hb1.trans (hb2.mono hb1.size)⟩
end Go.Proofs.YtkbcikiencogbaaDoor
