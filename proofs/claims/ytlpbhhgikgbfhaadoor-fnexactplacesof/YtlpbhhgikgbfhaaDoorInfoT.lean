/- What the type of whole numbers is. -/
import Derived.Test.YtlpbhhgikgbfhaaDoorProg
import Derived.Test.YtlpbhhgikgbfhaaDoorIntLib
namespace Go.Proofs.YtlpbhhgikgbfhaaDoor
open Go.RowKit

theorem infoIntT : (Tryd.prog.info? 3).map (fun i => (i.zero, i.size, i.bytes)) = some (some (.int .i64 0), 1, 8) := by kernel_rfl
end Go.Proofs.YtlpbhhgikgbfhaaDoor
