/- Scores of words, of the program: columns, and a loop over places within a loop over columns. -/
import Derived.Shelf.RegionOpen
import Derived.Test.YtmeejnkpaiinaabC10
import Derived.Test.YtmeejnkpaiinaabQ4
import Derived.Test.YtmeejnkpaiinaabM16
import Derived.Test.YtmeejnkpaiinaabP2
namespace Go.Proofs.Ytmeejnkpaiinaab
open Go.RowKit Go.Shelf
attribute [local go_sem] Oper.semAt_some
set_option linter.unusedVariables false

theorem and15_u32 (x : Int) (h0 : 0 ≤ x) (h1 : x < 4294967296) : bits .and .u32 x 15 = x % 16 :=
  bits_mask .u32 32 (by decide) (fun n h0 h1 => by rw [IntKind.wrap_u32]; omega) 4 (by decide) x h0 (by omega)
end Go.Proofs.Ytmeejnkpaiinaab
