/- Contracts of CodeOf, of the program and of the model. -/
import Derived.Test.YtiinekoepoonfaaDoorC24
import Derived.Test.YtiinekoepoonfaaDoorC7
namespace Go.Proofs.YtiinekoepoonfaaDoor
open Go.RowKit
set_option linter.unusedVariables false

end Go.Proofs.YtiinekoepoonfaaDoor
