/- Sextets of the model: of sums; which lists are sextets; tables, octads. -/
import Derived.Test.YtagniijhbiglaaaGreatDoorC46
namespace Go.Proofs.YtagniijhbiglaaaGreatDoor
open Go.RowKit
set_option linter.unusedVariables false
attribute [local irreducible] octS cN octF syn

end Go.Proofs.YtagniijhbiglaaaGreatDoor
