/- The tables and the handle of the type error, together. -/
import Derived.Test.YtmeejnkpaiinaacGreatDoorC150
import Derived.Test.YtmeejnkpaiinaacGreatDoorQ6
import Derived.Test.YtmeejnkpaiinaacGreatDoorC27
namespace Go.Proofs.YtmeejnkpaiinaacGreatDoor
open Go.RowKit
set_option linter.unusedVariables false
def Tab2E (w : World) : Prop := TabP w ∧ TabC w ∧ TabE w
theorem Tab2E.two {w : World} (h : Tab2E w) : Tab2 w := ⟨h.1, h.2.1⟩
theorem Tab2E.hand {w : World} (h : Tab2E w) : TabE w := h.2.2
def tab2EG : Nat := max tab2G 1
theorem Tab2E.below {w w' : World} {B : Nat} (h : Tab2E w) (hb : Below B w w') (h0 : tab2EG < B) : Tab2E w' := by
  unfold tab2EG at h0
  have h2 := h.two.below hb (by omega)
  exact ⟨h2.1, h2.2, h.hand.below hb (by omega)⟩
theorem Tab2E.lt {w : World} (h : Tab2E w) : tab2EG < w.heap.size := by
  have h1 := h.two.lt
  have h2 := h.hand.lt
  unfold tab2EG; omega
def Tab3E (w : World) : Prop := TabB w ∧ TabP w ∧ TabC w ∧ TabE w
theorem Tab3E.three {w : World} (h : Tab3E w) : Tab3 w := ⟨h.1, h.2.1, h.2.2.1⟩
theorem Tab3E.two {w : World} (h : Tab3E w) : Tab2 w := ⟨h.2.1, h.2.2.1⟩
theorem Tab3E.hand {w : World} (h : Tab3E w) : TabE w := h.2.2.2
def tab3EG : Nat := max tab3G 1
theorem Tab3E.below {w w' : World} {B : Nat} (h : Tab3E w) (hb : Below B w w') (h0 : tab3EG < B) : Tab3E w' := by
  unfold tab3EG at h0
  have h2 := h.three.below hb (by omega)
  exact ⟨h2.1, h2.2.1, h2.2.2, h.hand.below hb (by omega)⟩
theorem Tab3E.lt {w : World} (h : Tab3E w) : tab3EG < w.heap.size := by
  have h1 := h.three.lt
  have h2 := h.hand.lt
  unfold tab3EG; omega
end Go.Proofs.YtmeejnkpaiinaacGreatDoor
