/- Two vectors of the program: read, inner products; LatticeInner. -/
import Derived.Test.YtiodikflmijhkaaC161
namespace Go.Proofs.Ytiodikflmijhkaa
open Go.RowKit
set_option linter.unusedVariables false
set_option linter.unusedSimpArgs false
attribute [local irreducible] cN syn

end Go.Proofs.Ytiodikflmijhkaa
