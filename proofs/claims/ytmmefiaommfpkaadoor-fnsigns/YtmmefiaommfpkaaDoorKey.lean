/- What spec.KeyWord and impl.KeyWord answer. -/
import Derived.Test.YtmmefiaommfpkaaDoorProg
import Derived.Test.YtmmefiaommfpkaaDoorLib
namespace Go.Proofs.YtmmefiaommfpkaaDoor
open Go.RowKit

/-- The words that are no names. -/
def kw (s : ByteArray) : Bool := (s.toList == [99, 108, 97, 115, 115]) || (s.toList == [118, 97, 114]) || (s.toList == [105, 102]) || (s.toList == [101, 108, 115, 101]) || (s.toList == [119, 104, 105, 108, 101]) || (s.toList == [114, 101, 116, 117, 114, 110])

set_option maxHeartbeats 1600000 in
theorem iKey_any (s : ByteArray) (w : World) : Calls Tryd.prog 17 #[.string s] w fun e w' => e = .returned (.bool (kw s)) ∧ w' = w := by
  go_enter Tryd.func17, Tryd.ntmps17
  go_wp2
  all_goals go_ret
  all_goals exact ⟨ret_bool (by simp_all [kw]), rfl⟩

set_option maxHeartbeats 1600000 in
theorem sKey_any (s : ByteArray) (w : World) : Calls Tryd.prog 18 #[.string s] w fun e w' => e = .returned (.bool (kw s)) ∧ w' = w := by
  go_enter Tryd.func18, Tryd.ntmps18
  go_wp2
  all_goals go_ret
  all_goals exact ⟨ret_bool (by simp_all [kw]), rfl⟩
end Go.Proofs.YtmmefiaommfpkaaDoor
