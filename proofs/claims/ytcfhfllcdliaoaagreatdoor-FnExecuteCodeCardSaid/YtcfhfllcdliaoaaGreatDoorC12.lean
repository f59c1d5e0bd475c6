/- Choosing and ranks. -/
import Derived.Shelf.RegionOpen
import Derived.Test.YtcfhfllcdliaoaaGreatDoorC10
import Derived.Test.YtcfhfllcdliaoaaGreatDoorQ3
import Derived.Test.YtcfhfllcdliaoaaGreatDoorM7
namespace Go.Proofs.YtcfhfllcdliaoaaGreatDoor
open Go.RowKit Go.Shelf
attribute [local go_sem] Oper.semAt_some
set_option linter.unusedVariables false

theorem l1Places_int (n : Int) (w : World) (h : 0 ≤ n) :
    Calls Tryz.prog 98 #[.int .i64 n] w fun e w' => ∃ v, e = .returned v ∧ Own w' w.heap.size v (plI n.toNat) ∧ Below w.heap.size w w' := by
  obtain ⟨R, rfl⟩ := Int.eq_ofNat_of_zero_le h
  exact l1Places_calls R w
end Go.Proofs.YtcfhfllcdliaoaaGreatDoor
