/- Moves of the line by the program. -/
import Derived.Test.YtjceaiiheiechaaDoorC130
import Derived.Test.YtjceaiiheiechaaDoorM11
import Derived.Deep.RegionHeld3
namespace Go.Proofs.YtjceaiiheiechaaDoor
open Go.RowKit
set_option linter.unusedVariables false

end Go.Proofs.YtjceaiiheiechaaDoor
