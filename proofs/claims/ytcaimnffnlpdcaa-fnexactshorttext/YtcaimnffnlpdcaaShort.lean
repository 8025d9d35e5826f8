/- What impl.ShortText and spec.ShortText answer, and the law on them. -/
import Derived.Test.YtcaimnffnlpdcaaVar
namespace Go.Proofs.Ytcaimnffnlpdcaa
open Go.RowKit

theorem iShort_yes (s : ByteArray) (w : World) (h : s.size ≤ 20000) :
    Calls Try.prog 15 #[.string s] w fun e w' => e = .returned (.tuple #[.string (strOfNums (vb s.size) ++ s), .bool true]) ∧ Below w.heap.size w w' := by
  have hv := vb_size s.size (by omega)
  go_enter Try.func15, Try.ntmps15
  go_wp2_with fail
  refine (iVar_yes s.size _ (by omega)).mono ?_
  rintro e w1 ⟨rfl, hb⟩
  go_wp2
  go_ret2
  exact ⟨rfl, hb⟩
theorem iShort_no (s : ByteArray) (w : World) (h : 20000 < s.size) :
    Calls Try.prog 15 #[.string s] w fun e w' => e = .returned (.tuple #[.string ⟨#[]⟩, .bool false]) ∧ w' = w := by
  go_enter Try.func15, Try.ntmps15
  go_wp2
  go_ret2
  exact ⟨rfl, rfl⟩
theorem sShort_yes (s : ByteArray) (w : World) (h : s.size ≤ 20000) :
    Calls Try.prog 14 #[.string s] w fun e w' => e = .returned (.tuple #[.string (strOfNums (vb s.size) ++ s), .bool true]) ∧ Below w.heap.size w w' := by
  have hv := vb_size s.size (by omega)
  go_enter Try.func14, Try.ntmps14
  go_wp2_with fail
  refine (lVar_any s.size _ (by omega)).mono ?_
  rintro e w1 ⟨rfl, hb⟩
  go_wp2
  go_ret2
  exact ⟨rfl, hb⟩
theorem sShort_no (s : ByteArray) (w : World) (h : 20000 < s.size) :
    Calls Try.prog 14 #[.string s] w fun e w' => e = .returned (.tuple #[.string ⟨#[]⟩, .bool false]) ∧ w' = w := by
  go_enter Try.func14, Try.ntmps14
  go_wp2
  go_ret2
  exact ⟨rfl, rfl⟩

theorem lawShortText (s : ByteArray) (w : World) (hs : s.size ≤ maxLen) :
    Calls Try.prog 5 #[.string s] w fun e w' => e = .returned (.bool true) ∧ Below w.heap.size w w' := by
  unfold maxLen at hs
  by_cases h0 : 1048576 < s.size
  · go_enter Try.func5, Try.ntmps5
    go_wp2
    go_ret
    exact ⟨rfl, Below.refl _ _⟩
  · by_cases h : s.size ≤ 20000
    · go_enter Try.func5, Try.ntmps5
      go_wp2_with fail
      refine (sShort_yes s _ h).mono ?_
      rintro e w1 ⟨rfl, hb1⟩
      go_wp2_with fail
      refine (iShort_yes s _ h).mono ?_
      rintro e w2 ⟨rfl, hb2⟩
      go_wp2
      go_ret
      exact ⟨rfl, hb1.trans (hb2.mono hb1.size)⟩
    · have h' : 20000 < s.size := by omega
      go_enter Try.func5, Try.ntmps5
      go_wp2_with fail
      refine (sShort_no s _ h').mono ?_
      rintro e w1 ⟨rfl, rfl⟩
      go_wp2_with fail
      refine (iShort_no s _ h').mono ?_
      rintro e w2 ⟨rfl, rfl⟩
      go_wp2
      go_ret
      exact ⟨rfl, Below.refl _ _⟩
end Go.Proofs.Ytcaimnffnlpdcaa
