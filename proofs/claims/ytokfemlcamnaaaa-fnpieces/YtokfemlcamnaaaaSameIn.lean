/- How a rule stands with its value. -/
import Derived.Test.YtokfemlcamnaaaaTieS
import Derived.Test.YtokfemlcamnaaaaSamI
import Derived.BigQuiet
import Derived.Deep.QuietTactic
namespace Go.Proofs.Ytokfemlcamnaaaa
open Go.RowKit

end Go.Proofs.Ytokfemlcamnaaaa
