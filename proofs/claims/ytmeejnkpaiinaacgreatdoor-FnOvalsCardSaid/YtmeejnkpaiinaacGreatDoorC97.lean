/- Drawing bases and lines. -/
import Derived.Test.YtmeejnkpaiinaacGreatDoorC93
import Derived.Test.YtmeejnkpaiinaacGreatDoorQ3
import Derived.Test.YtmeejnkpaiinaacGreatDoorQ7
namespace Go.Proofs.YtmeejnkpaiinaacGreatDoor
open Go.RowKit
set_option linter.unusedVariables false
attribute [local irreducible] octS cN octF syn

set_option maxHeartbeats 2000000 in
theorem l92Base_calls (g q : Nat) (w : World) (h : Rd w g q) (hq : q ≤ 700000) :
    Calls Tryz.prog 51 #[.pointer (some ⟨g, 0, none⟩)] w fun e w' => ∃ (v : Int) (q' : Nat), e = .returned (.int .i64 v) ∧ -1 ≤ v ∧ v ≤ 16777216 ∧ q' ≤ q + 60 ∧ Rd w' g q' ∧ w.grownBy w' (some g) := by
  go_enter Tryz.func51, Tryz.ntmps51
  go_wp2_with fail
  refine (l91Places_calls g _ 3 _ h (by omega) (by omega) (by omega)).mono ?_
  rintro e w2 ⟨v, xs, q1, rfl, o2, hl, _, hq1, r2, g2⟩
  obtain ⟨A, c, rfl⟩ := o2.slice
  have HS := Lib.hid (sWordOf_calls A c xs w2 o2.rds o2.len_le)
  clear o2
  rcases hf : wof xs with _ | t
  · rw [hf] at HS
    clear hf
    go_wp2_with fail
    refine HS.out.mono ?_
    rintro e w' ⟨he, rfl⟩
    simp only [resW] at he
    subst he
    go_wp2_with fail
    refine (l91Word_calls g _ _ r2 (by omega)).mono ?_
    rintro e w3 ⟨v, q2, rfl, v0, v1, hq2, r3, g3⟩
    go_wp2_with fail
    go_ret
    exact ⟨v, q2, rfl, v0, v1, by omega, r3, grown_trans g2 g3⟩
  · obtain ⟨⟨t0, t1⟩, _⟩ := wof_is hf
    rw [hf] at HS
    clear hf
    go_wp2_with fail
    refine HS.out.mono ?_
    rintro e w' ⟨he, rfl⟩
    simp only [resW] at he
    subst he
    go_wp2_with fail
    refine (pick_calls g _ 20 _ r2 (by omega) (by omega) (by omega)).mono ?_
    rintro e w3 ⟨a, rfl, a0, a1, r3, g3⟩
    by_cases h0 : a = 0
    · subst h0
      go_wp2_with fail
      refine (l91Word_calls g _ _ r3 (by omega)).mono ?_
      rintro e w4 ⟨v, q2, rfl, v0, v1, hq2, r4, g4⟩
      go_wp2_with fail
      go_ret
      exact ⟨v, q2, rfl, v0, v1, by omega, r4, grown_trans (grown_trans g2 g3) g4⟩
    · have e0 : (a == 0) = false := by simpa using h0
      clear h0
      go_wp2_with fail
      go_ret
      exact ⟨t, _, rfl, by omega, by omega, by omega, r3, grown_trans g2 g3⟩
end Go.Proofs.YtmeejnkpaiinaacGreatDoor
