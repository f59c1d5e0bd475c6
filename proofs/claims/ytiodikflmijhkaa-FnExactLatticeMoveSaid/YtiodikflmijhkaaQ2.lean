import Derived.Test.YtiodikflmijhkaaQ1
import Derived.Test.YtiodikflmijhkaaP0
import Derived.Test.YtiodikflmijhkaaP1
import Derived.Lib.Builder
/- Contracts of the model's hexacode rows and words of messages. -/
namespace Go.Proofs.Ytiodikflmijhkaa
open Go.RowKit
set_option linter.unusedVariables false

end Go.Proofs.Ytiodikflmijhkaa
/- The contract of the model's word of a message. -/
namespace Go.Proofs.Ytiodikflmijhkaa
open Go.RowKit
set_option linter.unusedVariables false

end Go.Proofs.Ytiodikflmijhkaa
/- Contracts of the reader of drawn bytes: opening it, one pick. -/
namespace Go.Proofs.Ytiodikflmijhkaa
end Go.Proofs.Ytiodikflmijhkaa
/- Contracts of drawing words. -/
namespace Go.Proofs.Ytiodikflmijhkaa
end Go.Proofs.Ytiodikflmijhkaa