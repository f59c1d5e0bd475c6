/- Drawing octads. -/
import Derived.Test.YtcfhfllcdliaoaaGreatDoorQ7
import Derived.Test.YtcfhfllcdliaoaaGreatDoorQ3
namespace Go.Proofs.YtcfhfllcdliaoaaGreatDoor
open Go.RowKit
set_option linter.unusedVariables false
attribute [local irreducible] octS cN octF

theorem oThrough_rng (xs : List Int) : IsW (oThrough xs).1 := by
  unfold oThrough
  rcases hf : wof xs with _ | t
  · exact ⟨Int.le_refl _, by show (0 : Int) ≤ 16777215; decide⟩
  · by_cases h5 : xs.length = 5
    · simp only [h5, if_true]
      obtain ⟨h1, h2⟩ := wof_is hf
      have hl := oWith_five h1 (by omega)
      have hm : (oWith t).getD 0 0 ∈ oWith t := by
        rw [← getD_at (oWith t) 0 (by omega)]
        exact List.getElem_mem _
      exact (oWith_mem.1 hm).1.rng
    · simp only [h5, if_false]
      exact ⟨Int.le_refl _, by show (0 : Int) ≤ 16777215; decide⟩
end Go.Proofs.YtcfhfllcdliaoaaGreatDoor
