/- Drawing octads. -/
import Derived.Test.YtjceaiiheiechaaDoorQ7
import Derived.Test.YtjceaiiheiechaaDoorQ3
namespace Go.Proofs.YtjceaiiheiechaaDoor
open Go.RowKit
set_option linter.unusedVariables false
attribute [local irreducible] octS cN octF

theorem oThrough_rng (xs : List Int) : IsW (oThrough xs).1 := by
  unfold oThrough
  rcases hf : wof xs with _ | t
  · exact ⟨Int.le_refl _, by show (0 : Int) ≤ 16777215; decide⟩
  · by_cases h5 : xs.length = 5
    · simp only [h5, if_true]
      obtain ⟨h1, h2⟩ := wof_is hf
      have hl := oWith_five h1 (by omega)
      have hm : (oWith t).getD 0 0 ∈ oWith t := by
        rw [← getD_at (oWith t) 0 (by omega)]
        exact List.getElem_mem _
      exact (oWith_mem.1 hm).1.rng
    · simp only [h5, if_false]
      exact ⟨Int.le_refl _, by show (0 : Int) ≤ 16777215; decide⟩
set_option maxHeartbeats 2000000 in
theorem l91Octad_calls (g q : Nat) (w : World) (h : Rd w g q) (hq : q ≤ 700000) :
    Calls Tryd.prog 22 #[.pointer (some ⟨g, 0, none⟩)] w fun e w' => ∃ (v : Int) (q' : Nat), e = .returned (.int .i64 v) ∧ -1 ≤ v ∧ v ≤ 16777216 ∧ q' ≤ q + 60 ∧ Rd w' g q' ∧ w.grownBy w' (some g) := by
  go_enter Tryd.func22, Tryd.ntmps22
  go_wp2_with fail
  refine (pick_calls g q 12 _ h (by omega) (by omega) (by omega)).mono ?_
  rintro e w1 ⟨a, rfl, a0, a1, r1, g1⟩
  by_cases h0 : a = 0
  · subst h0
    go_wp2_with fail
    refine (l91Word_calls g _ _ r1 (by omega)).mono ?_
    rintro e w2 ⟨v, q1, rfl, v0, v1, hq1, r2, g2⟩
    go_wp2_with fail
    go_ret
    exact ⟨v, q1, rfl, v0, v1, by omega, r2, grown_trans g1 g2⟩
  · have e0 : (a == 0) = false := by simpa using h0
    clear h0
    go_wp2_with fail
    refine (l91Places_calls g _ 5 _ r1 (by omega) (by omega) (by omega)).mono ?_
    rintro e w2 ⟨v, xs, q1, rfl, o2, hl, _, hq1, r2, g2⟩
    obtain ⟨A, c, rfl⟩ := o2.slice
    have hr := oThrough_rng xs
    have HS := Lib.hid (sOctadThrough_calls A c xs w2 o2.rds o2.len_le)
    have G2 := Lib.hid (grown_trans g1 g2)
    have R2 := Lib.hid r2
    clear g1 g2 r1 r2 o2
    rcases ho : oThrough xs with ⟨t, b⟩
    rw [ho] at HS hr
    clear ho
    dsimp only at HS hr
    have hr1 := hr.1
    have hr2 := hr.2
    go_wp2_with fail
    refine HS.out.mono ?_
    rintro e w3 ⟨rfl, b3⟩
    have R3 := Lib.hid (R2.out.below b3)
    have G3 := Lib.hid (grown_trans G2.out (below_grown b3 (some g)))
    clear b3 R2 G2
    cases b
    · go_wp2_with fail
      go_ret
      exact ⟨0, q1, rfl, by omega, by omega, by omega, R3.out, G3.out⟩
    · go_wp2_with fail
      go_ret
      exact ⟨t, q1, rfl, by omega, by omega, by omega, R3.out, G3.out⟩
theorem DrawOctadIn_calls (A : Option Addr) (c : Nat) (bs : List Int) (w : World) (hr : Rds w w.heap.size .u8 A bs) (hc : bs.length ≤ c) (hm : c ≤ maxLen) (hv : ∀ i, 0 ≤ bs.getD i 0 ∧ bs.getD i 0 ≤ 255) :
    Calls Tryd.prog 10 #[.slice A bs.length c] w fun e w' => ∃ a : Int, e = .returned (.int .i64 a) ∧ -1 ≤ a ∧ a ≤ 16777216 ∧ Below w.heap.size w w' := by
  go_enter Tryd.func10, Tryd.ntmps10
  go_wp2_with fail
  refine (l6Open_calls A c bs _ hr hc hm hv).mono ?_
  rintro e w1 ⟨g, rfl, hg, r1, b1⟩
  go_wp2_with fail
  refine (l91Octad_calls g 0 _ r1 (by omega)).mono ?_
  rintro e w2 ⟨a, q1, rfl, a0, a1, hq1, r2, g2⟩
  go_wp2_with fail
  go_ret
  exact ⟨a, rfl, a0, a1, b1.trans (grown_below g2 hg b1.size)⟩
end Go.Proofs.YtjceaiiheiechaaDoor
