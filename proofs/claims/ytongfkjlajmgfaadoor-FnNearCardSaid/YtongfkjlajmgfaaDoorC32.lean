/- Counting weights, of the program: a range over the words of the code. -/
import Derived.Test.YtongfkjlajmgfaaDoorC31
namespace Go.Proofs.YtongfkjlajmgfaaDoor
open Go.RowKit Go.Shelf
attribute [local go_sem] Oper.semAt_some
set_option linter.unusedVariables false

def mv (pre : List (Fin 4096)) : List Nat := pre.map fun x => x.val
theorem mv_snoc (pre : List (Fin 4096)) (x : Fin 4096) : mv (pre ++ [x]) = mv pre ++ [x.val] := by simp [mv]
theorem mv_len (pre : List (Fin 4096)) : (mv pre).length = pre.length := by simp [mv]
end Go.Proofs.YtongfkjlajmgfaaDoor
