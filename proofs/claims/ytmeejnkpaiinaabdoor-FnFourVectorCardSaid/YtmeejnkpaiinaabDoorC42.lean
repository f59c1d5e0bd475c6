/- Drawing octads. -/
import Derived.Test.YtmeejnkpaiinaabDoorQ7
import Derived.Test.YtmeejnkpaiinaabDoorQ3
namespace Go.Proofs.YtmeejnkpaiinaabDoor
open Go.RowKit
set_option linter.unusedVariables false
attribute [local irreducible] octS cN octF

theorem oThrough_rng (xs : List Int) : IsW (oThrough xs).1 := by
  unfold oThrough
  rcases hf : wof xs with _ | t
  · exact ⟨Int.le_refl _, by show (0 : Int) ≤ 16777215; decide⟩
  · by_cases h5 : xs.length = 5
    · simp only [h5, if_true]
      obtain ⟨h1, h2⟩ := wof_is hf
      have hl := oWith_five h1 (by omega)
      have hm : (oWith t).getD 0 0 ∈ oWith t := by
        rw [← getD_at (oWith t) 0 (by omega)]
        exact List.getElem_mem _
      exact (oWith_mem.1 hm).1.rng
    · simp only [h5, if_false]
      exact ⟨Int.le_refl _, by show (0 : Int) ≤ 16777215; decide⟩
set_option maxHeartbeats 2000000 in
theorem l91Octad_calls (g q : Nat) (w : World) (h : Rd w g q) (hq : q ≤ 700000) :
    Calls Tryd.prog 54 #[.pointer (some ⟨g, 0, none⟩)] w fun e w' => ∃ (v : Int) (q' : Nat), e = .returned (.int .i64 v) ∧ -1 ≤ v ∧ v ≤ 16777216 ∧ q' ≤ q + 60 ∧ Rd w' g q' ∧ w.grownBy w' (some g) := by
  go_enter Tryd.func54, Tryd.ntmps54
  go_wp2_with fail
  refine (pick_calls g q 12 _ h (by omega) (by omega) (by omega)).mono ?_
  rintro e w1 ⟨a, rfl, a0, a1, r1, g1⟩
  by_cases h0 : a = 0
  · subst h0
    go_wp2_with fail
    refine (l91Word_calls g _ _ r1 (by omega)).mono ?_
    rintro e w2 ⟨v, q1, rfl, v0, v1, hq1, r2, g2⟩
    go_wp2_with fail
    go_ret
    exact ⟨v, q1, rfl, v0, v1, by omega, r2, grown_trans g1 g2⟩
  · have e0 : (a == 0) = false := by simpa using h0
    clear h0
    go_wp2_with fail
    refine (l91Places_calls g _ 5 _ r1 (by omega) (by omega) (by omega)).mono ?_
    rintro e w2 ⟨v, xs, q1, rfl, o2, hl, _, hq1, r2, g2⟩
    obtain ⟨A, c, rfl⟩ := o2.slice
    have hr := oThrough_rng xs
    have HS := Lib.hid (sOctadThrough_calls A c xs w2 o2.rds o2.len_le)
    have G2 := Lib.hid (grown_trans g1 g2)
    have R2 := Lib.hid r2
    clear g1 g2 r1 r2 o2
    rcases ho : oThrough xs with ⟨t, b⟩
    rw [ho] at HS hr
    clear ho
    dsimp only at HS hr
    have hr1 := hr.1
    have hr2 := hr.2
    go_wp2_with fail
    refine HS.out.mono ?_
    rintro e w3 ⟨rfl, b3⟩
    have R3 := Lib.hid (R2.out.below b3)
    have G3 := Lib.hid (grown_trans G2.out (below_grown b3 (some g)))
    clear b3 R2 G2
    cases b
    · go_wp2_with fail
      go_ret
      exact ⟨0, q1, rfl, by omega, by omega, by omega, R3.out, G3.out⟩
    · go_wp2_with fail
      go_ret
      exact ⟨t, q1, rfl, by omega, by omega, by omega, R3.out, G3.out⟩
end Go.Proofs.YtmeejnkpaiinaabDoor
