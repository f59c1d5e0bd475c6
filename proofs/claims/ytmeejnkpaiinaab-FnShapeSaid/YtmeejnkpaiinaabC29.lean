/- Drawing messages, and words that are often of the code. -/
import Derived.Test.YtmeejnkpaiinaabQ2
namespace Go.Proofs.Ytmeejnkpaiinaab
open Go.RowKit
set_option linter.unusedVariables false

end Go.Proofs.Ytmeejnkpaiinaab
