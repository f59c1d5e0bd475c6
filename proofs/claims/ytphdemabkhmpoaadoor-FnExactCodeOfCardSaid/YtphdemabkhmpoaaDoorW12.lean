/- The walk of the exact law of CodeOf. -/
import Derived.Test.YtphdemabkhmpoaaDoorC26
import Derived.Test.YtphdemabkhmpoaaDoorC11
namespace Go.Proofs.YtphdemabkhmpoaaDoor
open Go.RowKit
set_option linter.unusedVariables false

set_option maxHeartbeats 2000000 in
theorem walk_FnExactCodeOf (a0 : Int) (w : World) (w0 : (Lit.int .i64 a0).wf = true) (hT : Tab2 w) :
    Calls Tryd.prog 9 #[.int .i64 a0] w fun e w' => e = .returned (.bool true) ∧ Below w.heap.size w w' := by
  rcases hf : cOf a0 with ⟨y, b⟩
  have HF := Lib.hid hf
  clear hf
  all_goals rcases b with _ | _
  all_goals
    go_enter Tryd.func9, Tryd.ntmps9
    go_wp2_with fail
    refine (sCodeOf_calls a0 _).mono ?_
    rintro e wS ⟨he, bS⟩
    rw [HF.out] at he
    dsimp only at he
    subst he
    have B0 := Lib.hid ((Below.refl w.heap.size w).trans (bS.mono (Below.refl w.heap.size w).size))
    have sbS := bS.size
    go_wp2_with fail
    refine (iCodeOf_calls a0 _ (hT.below (B0.out) hT.lt)).mono ?_
    rintro e wG ⟨he, bG⟩
    rw [HF.out] at he
    dsimp only at he
    subst he
    have B1 := Lib.hid ((B0.out).trans (bG.mono (B0.out).size))
    have sbG := bG.size
    go_wp2_with fail
    go_ret
    exact ⟨rfl, B1.out⟩
end Go.Proofs.YtphdemabkhmpoaaDoor
