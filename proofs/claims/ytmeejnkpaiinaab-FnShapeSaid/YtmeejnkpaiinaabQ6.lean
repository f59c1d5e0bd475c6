import Derived.Test.YtmeejnkpaiinaabQ5
import Derived.Test.YtmeejnkpaiinaabQ1
import Derived.Test.YtmeejnkpaiinaabP2
import Derived.Test.YtmeejnkpaiinaabQ2
/- Contracts of the program's messages: from a number, its parts, its word (out of the table of columns). -/
namespace Go.Proofs.Ytmeejnkpaiinaab
open Go.RowKit
set_option linter.unusedVariables false

def IsM (m : Int) : Prop := 0 ≤ m ∧ m ≤ 4095
end Go.Proofs.Ytmeejnkpaiinaab
/- Contracts of CodeOf, of the program and of the model. -/
namespace Go.Proofs.Ytmeejnkpaiinaab
open Go.RowKit
set_option linter.unusedVariables false

end Go.Proofs.Ytmeejnkpaiinaab