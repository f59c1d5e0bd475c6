/- The walks of the exact laws of LineSum, LineIn. -/
import Derived.Test.YtjceaiiheiechaaDoorC141
import Derived.Test.YtjceaiiheiechaaDoorW8
import Derived.Test.YtjceaiiheiechaaDoorQ3
namespace Go.Proofs.YtjceaiiheiechaaDoor
open Go.RowKit
set_option linter.unusedVariables false
attribute [local irreducible] cN syn

set_option maxHeartbeats 2000000 in
theorem walk_FnExactLineSum (a0 : Int) (w : World) (w0 : (Lit.int .i64 a0).wf = true) (hT : TabB w) :
    Calls Tryd.prog 3 #[.int .i64 a0] w fun e w' => e = .returned (.bool true) ∧ Below w.heap.size w w' := by
  rcases hf : lsI a0 with ⟨y, b⟩
  have HF := Lib.hid hf
  clear hf
  all_goals rcases b with _ | _
  all_goals
    go_enter Tryd.func3, Tryd.ntmps3
    go_wp2_with fail
    refine (sLineSum_calls a0 _).mono ?_
    rintro e wS ⟨he, bS⟩
    rw [HF.out] at he
    dsimp only at he
    subst he
    have B0 := Lib.hid ((Below.refl w.heap.size w).trans (bS.mono (Below.refl w.heap.size w).size))
    have sbS := bS.size
    go_wp2_with fail
    refine (iLineSum_calls a0 _ (hT.below (B0.out) hT.lt)).mono ?_
    rintro e wG ⟨he, bG⟩
    rw [HF.out] at he
    dsimp only at he
    subst he
    have B1 := Lib.hid ((B0.out).trans (bG.mono (B0.out).size))
    have sbG := bG.size
    go_wp2_with fail
    go_ret
    exact ⟨rfl, B1.out⟩
set_option maxHeartbeats 2000000 in
theorem walk_FnExactLineIn (a0 : Int) (w : World) (w0 : (Lit.int .i64 a0).wf = true) (hT : TabB w) :
    Calls Tryd.prog 4 #[.int .i64 a0] w fun e w' => e = .returned (.bool true) ∧ Below w.heap.size w w' := by
  generalize hf : liI a0 = y
  have HF := Lib.hid hf
  clear hf
  all_goals rcases y with _ | _
  all_goals
    go_enter Tryd.func4, Tryd.ntmps4
    go_wp2_with fail
    refine (sLineIn_calls a0 _).mono ?_
    rintro e wS ⟨he, bS⟩
    rw [HF.out] at he
    
    subst he
    have B0 := Lib.hid ((Below.refl w.heap.size w).trans (bS.mono (Below.refl w.heap.size w).size))
    have sbS := bS.size
    go_wp2_with fail
    refine (iLineIn_calls a0 _ (hT.below (B0.out) hT.lt)).mono ?_
    rintro e wG ⟨he, bG⟩
    rw [HF.out] at he
    
    subst he
    have B1 := Lib.hid ((B0.out).trans (bG.mono (B0.out).size))
    have sbG := bG.size
    go_wp2_with fail
    go_ret
    exact ⟨rfl, B1.out⟩
end Go.Proofs.YtjceaiiheiechaaDoor
