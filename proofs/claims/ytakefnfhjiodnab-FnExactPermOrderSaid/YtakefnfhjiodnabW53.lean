/- The walk of the exact law of PermOrder. -/
import Derived.Test.YtakefnfhjiodnabC116
import Derived.Test.YtakefnfhjiodnabW8
import Derived.Test.YtakefnfhjiodnabQ3
namespace Go.Proofs.Ytakefnfhjiodnab
open Go.RowKit
set_option linter.unusedVariables false
attribute [local irreducible] cN syn

set_option maxHeartbeats 2000000 in
theorem walk_FnExactPermOrder (a0 : Option Addr) (len0 cap0 : Nat) (z0 : List Int) (w : World) (w0 : IsRow .i64 w a0 len0 cap0 z0) :
    Calls Try.prog 7 #[.slice a0 len0 cap0] w fun e w' => e = .returned (.bool true) ∧ Below w.heap.size w w' := by
  obtain ⟨hr0, hl0, _⟩ := w0.rds
  generalize z0.take len0 = x0 at *
  subst hl0
  by_cases hbig0 : 1048576 < x0.length
  · go_enter Try.func7, Try.ntmps7
    go_wp2_with fail
    go_ret
    exact ⟨rfl, Below.refl _ _⟩
  have hs0 : x0.length ≤ 1048576 := by omega
  have hm0 : x0.length ≤ maxLen := by unfold maxLen; omega
  clear hbig0
  rcases hf : plOrder x0 with ⟨y, b⟩
  have HF := Lib.hid hf
  clear hf
  have HM0 := Lib.hid hm0
  clear hm0
  all_goals rcases b with _ | _
  all_goals
    go_enter Try.func7, Try.ntmps7
    go_wp2_with fail
    refine (toIntS_calls _ _ x0 _ ((hr0.below (Below.refl w.heap.size w)).more (Below.refl w.heap.size w).size) hs0).mono ?_
    rintro e ws0 ⟨vs0, rfl, os0, bs0⟩
    have B0 := Lib.hid ((Below.refl w.heap.size w).trans (bs0.mono (Below.refl w.heap.size w).size))
    obtain ⟨As0, cs0, rfl⟩ := os0.slice
    have ts0 := own_span os0
    have sbs0 := bs0.size
    go_wp2_with fail
    refine (sPermOrder_calls _ _ x0 _ os0.rds HM0.out).mono ?_
    rintro e wS ⟨he, bS⟩
    rw [HF.out] at he
    dsimp only at he
    subst he
    have B1 := Lib.hid ((B0.out).trans (bS.mono (B0.out).size))
    have os0_1 := os0.below bS
    have sbS := bS.size
    go_wp2_with fail
    refine (toIntS_calls _ _ x0 _ ((hr0.below (B1.out)).more (B1.out).size) hs0).mono ?_
    rintro e wp0 ⟨vp0, rfl, op0, bp0⟩
    have B2 := Lib.hid ((B1.out).trans (bp0.mono (B1.out).size))
    obtain ⟨Ap0, cp0, rfl⟩ := op0.slice
    have tp0 := own_span op0
    have sbp0 := bp0.size
    go_wp2_with fail
    refine (iPermOrder_calls _ _ x0 _ op0.rds HM0.out).mono ?_
    rintro e wG ⟨he, bG⟩
    rw [HF.out] at he
    dsimp only at he
    subst he
    have B3 := Lib.hid ((B2.out).trans (bG.mono (B2.out).size))
    have op0_3 := op0.below bG
    have sbG := bG.size
    go_wp2_with fail
    refine (toIntS_calls _ _ x0 _ ((hr0.below (B3.out)).more (B3.out).size) hs0).mono ?_
    rintro e wq0 ⟨vq0, rfl, oq0, bq0⟩
    have B4 := Lib.hid ((B3.out).trans (bq0.mono (B3.out).size))
    have op0_4 := op0_3.below bq0
    obtain ⟨Aq0, cq0, rfl⟩ := oq0.slice
    have tq0 := own_span oq0
    have sbq0 := bq0.size
    go_wp2_with fail
    refine (eqIntS_calls _ _ _ _ x0 x0 _ op0_4.rds oq0.rds op0_4.len_le oq0.len_le).mono ?_
    rintro e w' ⟨he, k1, rfl⟩
    rw [eqL_refl] at he
    subst he
    have B5 := Lib.hid (below_drewN (B4.out) k1)
    go_wp2_with fail
    go_ret
    exact ⟨rfl, B5.out⟩
end Go.Proofs.Ytakefnfhjiodnab
