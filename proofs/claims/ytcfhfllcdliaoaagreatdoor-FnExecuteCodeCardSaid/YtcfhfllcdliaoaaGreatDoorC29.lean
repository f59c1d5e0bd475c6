/- Drawing messages, and words that are often of the code. -/
import Derived.Test.YtcfhfllcdliaoaaGreatDoorQ2
namespace Go.Proofs.YtcfhfllcdliaoaaGreatDoor
open Go.RowKit
set_option linter.unusedVariables false

theorem DrawCodeOf_calls (A : Option Addr) (c : Nat) (bs : List Int) (w : World) (hr : Rds w w.heap.size .u8 A bs) (hc : bs.length ≤ c) (hm : c ≤ maxLen) (hv : ∀ i, 0 ≤ bs.getD i 0 ∧ bs.getD i 0 ≤ 255) :
    Calls Tryz.prog 24 #[.slice A bs.length c] w fun e w' => ∃ a : Int, e = .returned (.int .i64 a) ∧ 0 ≤ a ∧ a ≤ 8191 ∧ Below w.heap.size w w' := by
  go_enter Tryz.func24, Tryz.ntmps24
  go_wp2_with fail
  refine (l6Open_calls A c bs _ hr hc hm hv).mono ?_
  rintro e w1 ⟨g, rfl, hg, r1, b1⟩
  go_wp2_with fail
  refine (pick_calls g 0 64 _ r1 (by omega) (by omega) (by omega)).mono ?_
  rintro e w2 ⟨a, rfl, a0, a1, r2, g2⟩
  go_wp2_with fail
  refine (pick_calls g _ 64 _ r2 (by omega) (by omega) (by omega)).mono ?_
  rintro e w3 ⟨b, rfl, b0, b1', r3, g3⟩
  go_wp2_with fail
  refine (pick_calls g _ 20 _ r3 (by omega) (by omega) (by omega)).mono ?_
  rintro e w4 ⟨d, rfl, d0, d1, r4, g4⟩
  have hd : 0 ≤ d / 19 ∧ d / 19 ≤ 1 := by omega
  go_wp2_with fail
  go_ret
  exact ⟨_, rfl, by omega, by omega, b1.trans (grown_below (grown_trans g2 (grown_trans g3 g4)) hg b1.size)⟩
end Go.Proofs.YtcfhfllcdliaoaaGreatDoor
