/- The walk of the exact law of PlaneOval. -/
import Derived.Test.YtaopcfiaffmfhabGreatDoorC154
import Derived.Test.YtaopcfiaffmfhabGreatDoorW8
import Derived.Test.YtaopcfiaffmfhabGreatDoorQ3
namespace Go.Proofs.YtaopcfiaffmfhabGreatDoor
open Go.RowKit
set_option linter.unusedVariables false
attribute [local irreducible] octS cN octF syn

set_option maxHeartbeats 2000000 in
theorem walk_FnExactPlaneOval (a0 : Int) (a1 : Int) (w : World) (w0 : (Lit.int .i64 a0).wf = true) (w1 : (Lit.int .i64 a1).wf = true) (hT : Tab3E w) :
    Calls Tryz.prog 5 #[.int .i64 a0, .int .i64 a1] w fun e w' => e = .returned (.bool true) ∧ Below w.heap.size w w' := by
  generalize hf : plOval a0 a1 = y
  have HF := Lib.hid hf
  clear hf
  all_goals rcases y with _ | _
  all_goals
    go_enter Tryz.func5, Tryz.ntmps5
    go_wp2_with fail
    refine (sPlaneOval_calls a0 a1 _).mono ?_
    rintro e wS ⟨he, bS⟩
    rw [HF.out] at he
    
    subst he
    have B0 := Lib.hid ((Below.refl w.heap.size w).trans (bS.mono (Below.refl w.heap.size w).size))
    have sbS := bS.size
    go_wp2_with fail
    refine (iPlaneOval_calls a0 a1 _ (hT.below (B0.out) hT.lt)).mono ?_
    rintro e wG ⟨he, bG⟩
    rw [HF.out] at he
    
    subst he
    have B1 := Lib.hid ((B0.out).trans (bG.mono (B0.out).size))
    have sbG := bG.size
    go_wp2_with fail
    go_ret
    exact ⟨rfl, B1.out⟩
end Go.Proofs.YtaopcfiaffmfhabGreatDoor
