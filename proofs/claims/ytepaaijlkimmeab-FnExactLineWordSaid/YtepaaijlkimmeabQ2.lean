import Derived.Test.YtepaaijlkimmeabQ1
import Derived.Test.YtepaaijlkimmeabP0
import Derived.Test.YtepaaijlkimmeabP1
import Derived.Lib.Builder
/- Contracts of the model's hexacode rows and words of messages. -/
namespace Go.Proofs.Ytepaaijlkimmeab
open Go.RowKit
set_option linter.unusedVariables false

end Go.Proofs.Ytepaaijlkimmeab
/- The contract of the model's word of a message. -/
namespace Go.Proofs.Ytepaaijlkimmeab
open Go.RowKit
set_option linter.unusedVariables false

end Go.Proofs.Ytepaaijlkimmeab
/- Contracts of the reader of drawn bytes: opening it, one pick. -/
namespace Go.Proofs.Ytepaaijlkimmeab
end Go.Proofs.Ytepaaijlkimmeab
/- Contracts of drawing words. -/
namespace Go.Proofs.Ytepaaijlkimmeab
end Go.Proofs.Ytepaaijlkimmeab