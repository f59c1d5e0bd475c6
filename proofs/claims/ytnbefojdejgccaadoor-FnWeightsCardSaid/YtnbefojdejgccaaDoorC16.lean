/- Contracts of digits and rows, of the model; of the exported functions that go through no table. -/
import Derived.Test.YtnbefojdejgccaaDoorC15
import Derived.Test.YtnbefojdejgccaaDoorM3
import Derived.Deep.RegionHeld3
import Derived.Deep.AppendLies
namespace Go.Proofs.YtnbefojdejgccaaDoor
open Go.RowKit
set_option linter.unusedVariables false

def rowB (xs : List Int) : Bool := decide (xs.length = 6) && xs.all fun n => decide (0 ≤ n ∧ n ≤ 3)
theorem rowB_iff (xs : List Int) : rowB xs = true ↔ IsRow6 xs := by
  simp [rowB, IsRow6, IsD]
theorem rowB_no (xs : List Int) : rowB xs = false ↔ ¬ IsRow6 xs := by
  rw [← rowB_iff]; simp
/-- A list and whether there is one, in memory of its own. -/
def GotL (w : World) (xs : List Int) (b : Bool) (e : Ending) (w' : World) : Prop := ∃ v, e = .returned (.tuple #[v, .bool b]) ∧ Own w' w.heap.size v xs ∧ Below w.heap.size w w'
def hAdd (xs ys : List Int) : List Int × Bool := if rowB xs && rowB ys then (addR xs ys, true) else ([], false)
def hWeight (xs : List Int) : Int := if rowB xs then wtR xs else -1
theorem wtK_stepL (xs : List Int) (k : Nat) (h : k < xs.length) : wtK xs (k + 1) = wtK xs k + nz (xs.getD k 0) := by
  unfold wtK wtR
  rw [take_succ_getD xs k h, List.foldl_append]
  rfl
theorem wtK_rangeL (xs : List Int) (k : Nat) (h : k ≤ xs.length) : 0 ≤ wtK xs k ∧ wtK xs k ≤ k := by
  induction k with
  | zero => simp [wtK, wtR]
  | succ k ih =>
    have := ih (by omega)
    have := nz_01 (xs.getD k 0)
    rw [wtK_stepL xs k (by omega)]
    omega
theorem wtK_all (xs : List Int) (k : Nat) (h : xs.length ≤ k) : wtK xs k = wtR xs := by unfold wtK; rw [List.take_of_length_le h]
end Go.Proofs.YtnbefojdejgccaaDoor
