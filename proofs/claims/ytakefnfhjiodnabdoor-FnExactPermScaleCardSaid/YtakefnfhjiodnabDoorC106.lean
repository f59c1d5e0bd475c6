/- Permutations of the model: PermTimes, PermTurned, PermFixed. -/
import Derived.Test.YtakefnfhjiodnabDoorC104
import Derived.Test.YtakefnfhjiodnabDoorQ4
namespace Go.Proofs.YtakefnfhjiodnabDoor
open Go.RowKit
set_option linter.unusedVariables false
attribute [local irreducible] cN syn

end Go.Proofs.YtakefnfhjiodnabDoor
