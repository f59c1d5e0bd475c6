import Derived.Test.YtakefnfhjiodnabQ1
import Derived.Test.YtakefnfhjiodnabP0
import Derived.Test.YtakefnfhjiodnabP1
import Derived.Lib.Builder
/- Contracts of the model's hexacode rows and words of messages. -/
namespace Go.Proofs.Ytakefnfhjiodnab
open Go.RowKit
set_option linter.unusedVariables false

end Go.Proofs.Ytakefnfhjiodnab
/- The contract of the model's word of a message. -/
namespace Go.Proofs.Ytakefnfhjiodnab
open Go.RowKit
set_option linter.unusedVariables false

end Go.Proofs.Ytakefnfhjiodnab
/- Contracts of the reader of drawn bytes: opening it, one pick. -/
namespace Go.Proofs.Ytakefnfhjiodnab
end Go.Proofs.Ytakefnfhjiodnab
/- Contracts of drawing words. -/
namespace Go.Proofs.Ytakefnfhjiodnab
end Go.Proofs.Ytakefnfhjiodnab