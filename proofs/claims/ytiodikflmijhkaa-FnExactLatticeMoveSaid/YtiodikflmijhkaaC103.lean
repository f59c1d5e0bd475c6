/- Permutations of the program: one after the other, turned, what stays. -/
import Derived.Test.YtiodikflmijhkaaC102
namespace Go.Proofs.Ytiodikflmijhkaa
open Go.RowKit
set_option linter.unusedVariables false
attribute [local irreducible] cN syn

end Go.Proofs.Ytiodikflmijhkaa
