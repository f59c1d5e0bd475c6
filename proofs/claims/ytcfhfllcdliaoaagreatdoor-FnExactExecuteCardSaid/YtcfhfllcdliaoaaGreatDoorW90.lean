/- The walk of the exact law of Execute. -/
import Derived.Test.YtcfhfllcdliaoaaGreatDoorHC
namespace Go.Proofs.YtcfhfllcdliaoaaGreatDoor
open Go.RowKit
set_option linter.unusedVariables false

set_option maxHeartbeats 1000000 in
theorem walk_FnExactExecute (a0 : ByteArray) (w : World) (w0 : a0.size ≤ maxLen) (hT : TabX w) :
    Calls Tryz.prog 9 #[.string a0] w fun e w' => e = .returned (.bool true) ∧ Below w.heap.size w w' := by
  have HS := Lib.hid (sExecute_calls a0 w w0)
  have HI := Lib.hid (fun W h => iExecute_calls a0 W w0 h)
  have HT := Lib.hid hT
  unfold maxLen at w0
  clear hT
  by_cases hbig : 1048576 < a0.size
  · have hb : (1048576 : Int) < (a0.size : Int) := by omega
    go_enter Tryz.func9, Tryz.ntmps9
    go_wp2_with fail
    go_ret
    exact ⟨rfl, Below.refl _ _⟩
  · have hb : ¬ (1048576 : Int) < (a0.size : Int) := by omega
    generalize execA a0 = R at *
    go_enter Tryz.func9, Tryz.ntmps9
    go_wp2_with fail
    refine HS.out.mono ?_
    rintro e w1 ⟨rfl, b1⟩
    have B1 := Lib.hid b1
    clear b1
    go_wp2_with fail
    refine (HI.out _ (HT.out.keep B1.out)).mono ?_
    rintro e w2 ⟨rfl, b2⟩
    have B2 := Lib.hid (B1.out.trans (b2.mono B1.out.size))
    clear b2
    go_wp2_with fail
    go_ret
    exact ⟨rfl, B2.out⟩
end Go.Proofs.YtcfhfllcdliaoaaGreatDoor
