/- Drawing messages, and words that are often of the code. -/
import Derived.Test.YtmeejnkpaiinaabDoorQ2
namespace Go.Proofs.YtmeejnkpaiinaabDoor
open Go.RowKit
set_option linter.unusedVariables false

theorem DrawCodeMessage_calls (A : Option Addr) (c : Nat) (bs : List Int) (w : World) (hr : Rds w w.heap.size .u8 A bs) (hc : bs.length ≤ c) (hm : c ≤ maxLen) (hv : ∀ i, 0 ≤ bs.getD i 0 ∧ bs.getD i 0 ≤ 255) :
    Calls Tryd.prog 63 #[.slice A bs.length c] w fun e w' => ∃ a : Int, e = .returned (.int .i64 a) ∧ -1 ≤ a ∧ a ≤ 16777216 ∧ Below w.heap.size w w' := by
  go_enter Tryd.func63, Tryd.ntmps63
  go_wp2_with fail
  refine (l6Open_calls A c bs _ hr hc hm hv).mono ?_
  rintro e w1 ⟨g, rfl, hg, r1, b1⟩
  go_wp2_with fail
  refine (pick_calls g 0 5 _ r1 (by omega) (by omega) (by omega)).mono ?_
  rintro e w2 ⟨a, rfl, a0, a1, r2, g2⟩
  by_cases hz : a = 0
  · subst hz
    go_wp2_with fail
    refine (l91Word_calls g _ _ r2 (by omega)).mono ?_
    rintro e w3 ⟨a, q1, rfl, a0, a1, hq1, r3, g3⟩
    go_wp2_with fail
    go_ret
    exact ⟨a, rfl, a0, a1, b1.trans (grown_below (grown_trans g2 g3) hg b1.size)⟩
  · have hz1 : (a == 0) = false := by simpa using hz
    clear hz
    go_wp2_with fail
    refine (l91Code_calls g _ _ r2 (by omega)).mono ?_
    rintro e w3 ⟨b, rfl, b0, b1', r3, g3⟩
    go_wp2_with fail
    go_ret
    exact ⟨b, rfl, by omega, by omega, b1.trans (grown_below (grown_trans g2 g3) hg b1.size)⟩
end Go.Proofs.YtmeejnkpaiinaabDoor
