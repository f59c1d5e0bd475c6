/- The walks of the exact laws of PlaneFour and PlaneSub. -/
import Derived.Test.YtaopcfiaffmfhabGreatDoorQ9
import Derived.Test.YtaopcfiaffmfhabGreatDoorW8
import Derived.Test.YtaopcfiaffmfhabGreatDoorQ3
namespace Go.Proofs.YtaopcfiaffmfhabGreatDoor
open Go.RowKit
set_option linter.unusedVariables false
attribute [local irreducible] octS cN octF syn

set_option maxHeartbeats 2000000 in
theorem walk_FnExactPlaneFour (a0 : Int) (a1 : Int) (w : World) (w0 : (Lit.int .i64 a0).wf = true) (w1 : (Lit.int .i64 a1).wf = true) (hT : Tab3E w) :
    Calls Tryz.prog 6 #[.int .i64 a0, .int .i64 a1] w fun e w' => e = .returned (.bool true) ∧ Below w.heap.size w w' := by
  rcases hf : plFour a0 a1 with ⟨y, b⟩
  have HF := Lib.hid hf
  clear hf
  all_goals rcases b with _ | _
  all_goals
    go_enter Tryz.func6, Tryz.ntmps6
    go_wp2_with fail
    refine (sPlaneFour_calls a0 a1 _).mono ?_
    rintro e wS ⟨he, bS⟩
    rw [HF.out] at he
    dsimp only at he
    subst he
    have B0 := Lib.hid ((Below.refl w.heap.size w).trans (bS.mono (Below.refl w.heap.size w).size))
    have sbS := bS.size
    go_wp2_with fail
    refine (iPlaneFour_calls a0 a1 _ (hT.below (B0.out) hT.lt)).mono ?_
    rintro e wG ⟨he, bG⟩
    rw [HF.out] at he
    dsimp only at he
    subst he
    have B1 := Lib.hid ((B0.out).trans (bG.mono (B0.out).size))
    have sbG := bG.size
    go_wp2_with fail
    go_ret
    exact ⟨rfl, B1.out⟩
set_option maxHeartbeats 2000000 in
theorem walk_FnExactPlaneSub (a0 : Int) (a1 : Int) (w : World) (w0 : (Lit.int .i64 a0).wf = true) (w1 : (Lit.int .i64 a1).wf = true) (hT : Tab3E w) :
    Calls Tryz.prog 7 #[.int .i64 a0, .int .i64 a1] w fun e w' => e = .returned (.bool true) ∧ Below w.heap.size w w' := by
  rcases hf : plSub a0 a1 with ⟨y, b⟩
  have HF := Lib.hid hf
  clear hf
  all_goals rcases b with _ | _
  all_goals
    go_enter Tryz.func7, Tryz.ntmps7
    go_wp2_with fail
    refine (sPlaneSub_calls a0 a1 _).mono ?_
    rintro e wS ⟨he, bS⟩
    rw [HF.out] at he
    dsimp only at he
    subst he
    have B0 := Lib.hid ((Below.refl w.heap.size w).trans (bS.mono (Below.refl w.heap.size w).size))
    have sbS := bS.size
    go_wp2_with fail
    refine (iPlaneSub_calls a0 a1 _ (hT.below (B0.out) hT.lt)).mono ?_
    rintro e wG ⟨he, bG⟩
    rw [HF.out] at he
    dsimp only at he
    subst he
    have B1 := Lib.hid ((B0.out).trans (bG.mono (B0.out).size))
    have sbG := bG.size
    go_wp2_with fail
    go_ret
    exact ⟨rfl, B1.out⟩
end Go.Proofs.YtaopcfiaffmfhabGreatDoor
