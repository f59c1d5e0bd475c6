/- Contracts of the exported functions of chapter 1 on plain numbers, of the program and of its model. -/
import Derived.Test.YtojjbdpoecmaeaaDoorC1
namespace Go.Proofs.YtojjbdpoecmaeaaDoor
open Go.RowKit
set_option linter.unusedVariables false

/-- A number is a word. -/
def IsW (n : Int) : Prop := 0 ≤ n ∧ n ≤ 16777215
def NoW (n : Int) : Prop := n < 0 ∨ 16777215 < n
theorem isW_or (n : Int) : IsW n ∨ NoW n := by unfold IsW NoW; omega

end Go.Proofs.YtojjbdpoecmaeaaDoor
