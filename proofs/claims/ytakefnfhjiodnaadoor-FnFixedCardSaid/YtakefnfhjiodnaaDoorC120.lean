/- Contracts of the model that keep the world, told by 'Below'. -/
import Derived.Test.YtakefnfhjiodnaaDoorC106
namespace Go.Proofs.YtakefnfhjiodnaaDoor
open Go.RowKit
set_option linter.unusedVariables false
attribute [local irreducible] cN syn

theorem sPermValid_b (A : Option Addr) (c : Nat) (xs : List Int) (w : World) (ha : Rds w w.heap.size .i64 A xs) (hx : xs.length ≤ maxLen) :
    Calls Tryd.prog 14 #[.slice A xs.length c] w fun e w' => e = .returned (.bool (permB xs)) ∧ Below w.heap.size w w' := by
  refine (sPermValid_calls A c xs w ha hx).mono ?_
  rintro e w' ⟨rfl, rfl⟩
  exact ⟨rfl, Below.refl _ _⟩
theorem sPermFixed_b (A : Option Addr) (c : Nat) (xs : List Int) (w : World) (ha : Rds w w.heap.size .i64 A xs) (hx : xs.length ≤ maxLen) :
    Calls Tryd.prog 34 #[.slice A xs.length c] w fun e w' => e = .returned (.tuple #[.int .i64 (plFixed xs).1, .bool (plFixed xs).2]) ∧ Below w.heap.size w w' := by
  refine (sPermFixed_calls A c xs w ha hx).mono ?_
  rintro e w' ⟨rfl, rfl⟩
  exact ⟨rfl, Below.refl _ _⟩
end Go.Proofs.YtakefnfhjiodnaaDoor
