import Derived.Test.YtmeejnkpaiinaabQ4
import Derived.Deep.QuietTactic
import Derived.BigQuiet
import Derived.ChangeKeysEq
/- Contracts of the program's products of digits, out of its table. -/
namespace Go.Proofs.Ytmeejnkpaiinaab
open Go.RowKit
set_option linter.unusedVariables false

end Go.Proofs.Ytmeejnkpaiinaab
/- Contracts of what the program asks of rows: whether they are in the hexacode, inner products, the nearest row. -/
namespace Go.Proofs.Ytmeejnkpaiinaab
open Go.RowKit
set_option linter.unusedVariables false

theorem quiet_add_left {P : Program} {f : FuncId} {args : Array Value} {w : World} {a n : Nat} {v : Value}
    (h : Calls P f args (w.drewN (a + n)) fun e w' => e = .returned v ∧ w.drewN (a + n) = w') :
    Calls P f args (w.drewN (a + n)) fun e w'' => e = .returned v ∧ ∃ m, w'' = w.drewN (a + m) :=
  h.mono fun _ _ ⟨he, hm⟩ => ⟨he, n, hm.symm⟩
theorem quiet_left {P : Program} {f : FuncId} {args : Array Value} {w : World} {n : Nat} {v : Value}
    (h : Calls P f args (w.drewN n) fun e w' => e = .returned v ∧ w.drewN n = w') : Calls P f args (w.drewN n) fun e w'' => e = .returned v ∧ ∃ m, w'' = w.drewN m :=
  h.mono fun _ _ ⟨he, hm⟩ => ⟨he, n, hm.symm⟩
end Go.Proofs.Ytmeejnkpaiinaab
/- Contracts of the exported functions of chapter 2 that go through the table. -/
namespace Go.Proofs.Ytmeejnkpaiinaab
open Go.RowKit
set_option linter.unusedVariables false

def digB (n : Int) : Bool := decide (0 ≤ n ∧ n ≤ 3)
theorem digB_iff (n : Int) : digB n = true ↔ IsD n := by simp [digB, IsD]
theorem digB_no (n : Int) : digB n = false ↔ NoD n := by unfold digB NoD; simp; omega
def dMul (a b : Int) : Int := if digB a && digB b then mulD a b else -1
def hOf (a b c : Int) : List Int × Bool := if digB a && (digB b && digB c) then (hexRow a b c, true) else ([], false)
def hIn (xs : List Int) : Bool := rowB xs && hexB xs
def hTimes (xs : List Int) (n : Int) : List Int × Bool := if rowB xs && digB n then (mulR xs n, true) else ([], false)
def hInner (xs ys : List Int) : Int := if rowB xs && rowB ys then innR xs ys else -1
def hNear (xs : List Int) : List Int × Int × Bool := if rowB xs then ((nearTo xs 64).1, (nearTo xs 64).2, true) else ([], 0, false)
def GotLN (w : World) (xs : List Int) (n : Int) (b : Bool) (e : Ending) (w' : World) : Prop := ∃ v, e = .returned (.tuple #[v, .int .i64 n, .bool b]) ∧ Own w' w.heap.size v xs ∧ Below w.heap.size w w'
end Go.Proofs.Ytmeejnkpaiinaab