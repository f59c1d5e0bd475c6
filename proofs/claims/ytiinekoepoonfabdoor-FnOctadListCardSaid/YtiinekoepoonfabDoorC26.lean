/- Contracts of CodeOf, of the program and of the model. -/
import Derived.Test.YtiinekoepoonfabDoorC24
import Derived.Test.YtiinekoepoonfabDoorC7
namespace Go.Proofs.YtiinekoepoonfabDoor
open Go.RowKit
set_option linter.unusedVariables false

end Go.Proofs.YtiinekoepoonfabDoor
