/- Permutations of the model: PermTimes, PermTurned, PermFixed. -/
import Derived.Test.YtiodikflmijhkaaC104
import Derived.Test.YtiodikflmijhkaaQ4
namespace Go.Proofs.Ytiodikflmijhkaa
open Go.RowKit
set_option linter.unusedVariables false
attribute [local irreducible] cN syn

end Go.Proofs.Ytiodikflmijhkaa
