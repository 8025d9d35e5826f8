/- What the type of whole numbers is. -/
import Derived.Test.YtdlbnllkfnfgoaaProg
import Derived.Test.YtdlbnllkfnfgoaaIntLib
namespace Go.Proofs.Ytdlbnllkfnfgoaa
open Go.RowKit

theorem infoIntT : (Try.prog.info? 3).map (fun i => (i.zero, i.size, i.bytes)) = some (some (.int .i64 0), 1, 8) := by kernel_rfl
end Go.Proofs.Ytdlbnllkfnfgoaa
