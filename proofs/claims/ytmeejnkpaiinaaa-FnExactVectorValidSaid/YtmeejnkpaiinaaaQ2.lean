import Derived.Test.YtmeejnkpaiinaaaQ1
import Derived.Test.YtmeejnkpaiinaaaP0
import Derived.Test.YtmeejnkpaiinaaaP1
import Derived.Lib.Builder
/- Contracts of the model's hexacode rows and words of messages. -/
namespace Go.Proofs.Ytmeejnkpaiinaaa
open Go.RowKit
set_option linter.unusedVariables false

end Go.Proofs.Ytmeejnkpaiinaaa
/- The contract of the model's word of a message. -/
namespace Go.Proofs.Ytmeejnkpaiinaaa
open Go.RowKit
set_option linter.unusedVariables false

end Go.Proofs.Ytmeejnkpaiinaaa
/- Contracts of the reader of drawn bytes: opening it, one pick. -/
namespace Go.Proofs.Ytmeejnkpaiinaaa
end Go.Proofs.Ytmeejnkpaiinaaa
/- Contracts of drawing words. -/
namespace Go.Proofs.Ytmeejnkpaiinaaa
end Go.Proofs.Ytmeejnkpaiinaaa