/- Permutations of the model: PermTimes, PermTurned, PermFixed. -/
import Derived.Test.YtakefnfhjiodnaaC104
import Derived.Test.YtakefnfhjiodnaaQ4
namespace Go.Proofs.Ytakefnfhjiodnaa
open Go.RowKit
set_option linter.unusedVariables false
attribute [local irreducible] cN syn

end Go.Proofs.Ytakefnfhjiodnaa
