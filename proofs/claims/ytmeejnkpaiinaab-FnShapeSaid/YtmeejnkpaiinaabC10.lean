/- The iterator over the places of a word, and the loops over it. -/
import Derived.RangeFuncBox
import Derived.RangeFuncNested
import Derived.RangeFuncBound
import Derived.RangeFuncCalls
import Derived.RangeFuncLeaves
import Derived.Shelf.Abstract
import Derived.Shelf.Spec.TrailingZeros
import Derived.OwnWalkIn
import Derived.TacticsInMore
import Derived.LoopNIn
import Derived.LoopIn
import Derived.Maps.AppendAt
import Derived.Test.YtmeejnkpaiinaabQ1
import Derived.Test.YtmeejnkpaiinaabP0
import Derived.Test.YtmeejnkpaiinaabP1
namespace Go.Proofs.Ytmeejnkpaiinaab
open Go.RowKit Go.Shelf
attribute [local go_sem] Oper.semAt_some
set_option linter.unusedVariables false


/-- A list of places that reads as the word's. -/
theorem plF_ex (W : Nat) : ∃ xs : List (Fin 24), xs.map (fun x => x.val) = pl W := by
  have h := pl_lt W
  generalize pl W = l at *
  induction l with
  | nil => exact ⟨[], rfl⟩
  | cons a l ih =>
    obtain ⟨xs, hx⟩ := ih (fun x hx => h x (by simp [hx]))
    exact ⟨⟨a, h a (by simp)⟩ :: xs, by simp [hx]⟩

theorem plF_vals (xs : List (Fin 24)) (R : Nat) (h : xs.map (fun x => x.val) = pl R) : xs.length = (plI R).length ∧ vals .i64 (plI R) = xs.map fun x => Value.int .i64 (x.val : Nat) := by
  unfold plI vals
  rw [← h]
  simp
end Go.Proofs.Ytmeejnkpaiinaab
