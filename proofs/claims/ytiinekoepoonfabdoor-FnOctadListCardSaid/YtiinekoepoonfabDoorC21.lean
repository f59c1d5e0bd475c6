/- Contracts of the exported functions of chapter 2 that go through the table. -/
import Derived.Test.YtiinekoepoonfabDoorC20
namespace Go.Proofs.YtiinekoepoonfabDoor
open Go.RowKit
set_option linter.unusedVariables false

def digB (n : Int) : Bool := decide (0 ≤ n ∧ n ≤ 3)
theorem digB_iff (n : Int) : digB n = true ↔ IsD n := by simp [digB, IsD]
theorem digB_no (n : Int) : digB n = false ↔ NoD n := by unfold digB NoD; simp; omega
def dMul (a b : Int) : Int := if digB a && digB b then mulD a b else -1
def hOf (a b c : Int) : List Int × Bool := if digB a && (digB b && digB c) then (hexRow a b c, true) else ([], false)
def hIn (xs : List Int) : Bool := rowB xs && hexB xs
def hTimes (xs : List Int) (n : Int) : List Int × Bool := if rowB xs && digB n then (mulR xs n, true) else ([], false)
def hInner (xs ys : List Int) : Int := if rowB xs && rowB ys then innR xs ys else -1
def hNear (xs : List Int) : List Int × Int × Bool := if rowB xs then ((nearTo xs 64).1, (nearTo xs 64).2, true) else ([], 0, false)
def GotLN (w : World) (xs : List Int) (n : Int) (b : Bool) (e : Ending) (w' : World) : Prop := ∃ v, e = .returned (.tuple #[v, .int .i64 n, .bool b]) ∧ Own w' w.heap.size v xs ∧ Below w.heap.size w w'
end Go.Proofs.YtiinekoepoonfabDoor
