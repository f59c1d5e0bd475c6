/- The walk of the exact law of PlanePoint. -/
import Derived.Test.YtnfpdonlknkccabDoorC95
import Derived.Test.YtnfpdonlknkccabDoorW8
import Derived.Test.YtnfpdonlknkccabDoorQ3
namespace Go.Proofs.YtnfpdonlknkccabDoor
open Go.RowKit
set_option linter.unusedVariables false
attribute [local irreducible] octS cN octF syn

set_option maxHeartbeats 2000000 in
theorem walk_FnExactPlanePoint (a0 : Int) (a1 : Int) (a2 : Int) (w : World) (w0 : (Lit.int .i64 a0).wf = true) (w1 : (Lit.int .i64 a1).wf = true) (w2 : (Lit.int .i64 a2).wf = true) (hT : Tab3 w) :
    Calls Tryd.prog 4 #[.int .i64 a0, .int .i64 a1, .int .i64 a2] w fun e w' => e = .returned (.bool true) ∧ Below w.heap.size w w' := by
  rcases hf : plPoint a0 a1 a2 with ⟨y, b⟩
  have HF := Lib.hid hf
  clear hf
  all_goals rcases b with _ | _
  all_goals
    go_enter Tryd.func4, Tryd.ntmps4
    go_wp2_with fail
    refine (sPlanePoint_calls a0 a1 a2 _).mono ?_
    rintro e wS ⟨he, bS⟩
    rw [HF.out] at he
    dsimp only at he
    subst he
    have B0 := Lib.hid ((Below.refl w.heap.size w).trans (bS.mono (Below.refl w.heap.size w).size))
    have sbS := bS.size
    go_wp2_with fail
    refine (iPlanePoint_calls a0 a1 a2 _ (hT.below (B0.out) hT.lt)).mono ?_
    rintro e wG ⟨he, bG⟩
    rw [HF.out] at he
    dsimp only at he
    subst he
    have B1 := Lib.hid ((B0.out).trans (bG.mono (B0.out).size))
    have sbG := bG.size
    go_wp2_with fail
    go_ret
    exact ⟨rfl, B1.out⟩
end Go.Proofs.YtnfpdonlknkccabDoor
