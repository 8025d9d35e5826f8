/- What the type of states is. -/
import Derived.Test.YtokfemlcamnaaaaProg
import Derived.Test.YtokfemlcamnaaaaStRow
namespace Go.Proofs.Ytokfemlcamnaaaa
open Go.RowKit

theorem infoSt : (Try.prog.info? 57).map (·.size) = some 2 ∧ (Try.prog.info? 57).map (fun i => (i.zero, i.size, i.bytes)) = some (some (.agg #[.slice none 0 0, .int .i64 0]), 2, 32) := ⟨by kernel_rfl, by kernel_rfl⟩
end Go.Proofs.Ytokfemlcamnaaaa
