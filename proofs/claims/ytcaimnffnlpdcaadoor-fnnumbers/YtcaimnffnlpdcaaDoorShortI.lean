/- Contracts of the program's own functions alone. -/
import Derived.Test.YtcaimnffnlpdcaaDoorVarI
namespace Go.Proofs.YtcaimnffnlpdcaaDoor
open Go.RowKit

theorem iShort_yes (s : ByteArray) (w : World) (h : s.size ≤ 20000) :
    Calls Tryd.prog 13 #[.string s] w fun e w' => e = .returned (.tuple #[.string (strOfNums (vb s.size) ++ s), .bool true]) ∧ Below w.heap.size w w' := by
  have hv := vb_size s.size (by omega)
  go_enter Tryd.func13, Tryd.ntmps13
  go_wp2_with fail
  refine (iVar_yes s.size _ (by omega)).mono ?_
  rintro e w1 ⟨rfl, hb⟩
  go_wp2
  go_ret2
  exact ⟨rfl, hb⟩

theorem iShort_no (s : ByteArray) (w : World) (h : 20000 < s.size) :
    Calls Tryd.prog 13 #[.string s] w fun e w' => e = .returned (.tuple #[.string ⟨#[]⟩, .bool false]) ∧ w' = w := by
  go_enter Tryd.func13, Tryd.ntmps13
  go_wp2
  go_ret2
  exact ⟨rfl, rfl⟩
end Go.Proofs.YtcaimnffnlpdcaaDoor
