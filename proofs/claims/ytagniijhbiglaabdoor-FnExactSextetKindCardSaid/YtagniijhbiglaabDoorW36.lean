/- The walk of the exact law of SextetKind. -/
import Derived.Test.YtagniijhbiglaabDoorC62
import Derived.Test.YtagniijhbiglaabDoorW8
import Derived.Test.YtagniijhbiglaabDoorQ3
namespace Go.Proofs.YtagniijhbiglaabDoor
open Go.RowKit
set_option linter.unusedVariables false
attribute [local irreducible] octS cN octF syn

set_option maxHeartbeats 2000000 in
theorem walk_FnExactSextetKind (a0 : Option Addr) (len0 cap0 : Nat) (z0 : List Int) (a1 : Option Addr) (len1 cap1 : Nat) (z1 : List Int) (w : World) (w0 : IsRow .i64 w a0 len0 cap0 z0) (w1 : IsRow .i64 w a1 len1 cap1 z1) (hT : Tab2 w) :
    Calls Tryd.prog 6 #[.slice a0 len0 cap0, .slice a1 len1 cap1] w fun e w' => e = .returned (.bool true) ∧ Below w.heap.size w w' := by
  obtain ⟨hr0, hl0, _⟩ := w0.rds
  generalize z0.take len0 = x0 at *
  subst hl0
  obtain ⟨hr1, hl1, _⟩ := w1.rds
  generalize z1.take len1 = x1 at *
  subst hl1
  by_cases hbig0 : 1048576 < x0.length
  · go_enter Tryd.func6, Tryd.ntmps6
    go_wp2_with fail
    go_ret
    exact ⟨rfl, Below.refl _ _⟩
  have hs0 : x0.length ≤ 1048576 := by omega
  have hm0 : x0.length ≤ maxLen := by unfold maxLen; omega
  clear hbig0
  by_cases hbig1 : 1048576 < x1.length
  · go_enter Tryd.func6, Tryd.ntmps6
    go_wp2_with fail
    go_ret
    exact ⟨rfl, Below.refl _ _⟩
  have hs1 : x1.length ≤ 1048576 := by omega
  have hm1 : x1.length ≤ maxLen := by unfold maxLen; omega
  clear hbig1
  rcases hf : kindA x0 x1 with ⟨y, b⟩
  have HF := Lib.hid hf
  clear hf
  have HM0 := Lib.hid hm0
  clear hm0
  have HM1 := Lib.hid hm1
  clear hm1
  all_goals rcases b with _ | _
  all_goals
    go_enter Tryd.func6, Tryd.ntmps6
    go_wp2_with fail
    refine (toIntS_calls _ _ x0 _ ((hr0.below (Below.refl w.heap.size w)).more (Below.refl w.heap.size w).size) hs0).mono ?_
    rintro e ws0 ⟨vs0, rfl, os0, bs0⟩
    have B0 := Lib.hid ((Below.refl w.heap.size w).trans (bs0.mono (Below.refl w.heap.size w).size))
    obtain ⟨As0, cs0, rfl⟩ := os0.slice
    have ts0 := own_span os0
    have sbs0 := bs0.size
    go_wp2_with fail
    refine (toIntS_calls _ _ x1 _ ((hr1.below (B0.out)).more (B0.out).size) hs1).mono ?_
    rintro e ws1 ⟨vs1, rfl, os1, bs1⟩
    have B1 := Lib.hid ((B0.out).trans (bs1.mono (B0.out).size))
    have os0_1 := os0.below bs1
    obtain ⟨As1, cs1, rfl⟩ := os1.slice
    have ts1 := own_span os1
    have sbs1 := bs1.size
    go_wp2_with fail
    refine (sSextetKind_calls _ _ _ _ x0 x1 _ os0_1.rds HM0.out os1.rds HM1.out).mono ?_
    rintro e wS ⟨he, bS⟩
    rw [HF.out] at he
    dsimp only at he
    subst he
    have B2 := Lib.hid ((B1.out).trans (bS.mono (B1.out).size))
    have os0_2 := os0_1.below bS
    have os1_2 := os1.below bS
    have sbS := bS.size
    go_wp2_with fail
    refine (toIntS_calls _ _ x0 _ ((hr0.below (B2.out)).more (B2.out).size) hs0).mono ?_
    rintro e wp0 ⟨vp0, rfl, op0, bp0⟩
    have B3 := Lib.hid ((B2.out).trans (bp0.mono (B2.out).size))
    obtain ⟨Ap0, cp0, rfl⟩ := op0.slice
    have tp0 := own_span op0
    have sbp0 := bp0.size
    go_wp2_with fail
    refine (toIntS_calls _ _ x1 _ ((hr1.below (B3.out)).more (B3.out).size) hs1).mono ?_
    rintro e wp1 ⟨vp1, rfl, op1, bp1⟩
    have B4 := Lib.hid ((B3.out).trans (bp1.mono (B3.out).size))
    have op0_4 := op0.below bp1
    obtain ⟨Ap1, cp1, rfl⟩ := op1.slice
    have tp1 := own_span op1
    have sbp1 := bp1.size
    go_wp2_with fail
    refine (iSextetKind_calls _ _ _ _ x0 x1 _ op0_4.rds HM0.out op1.rds HM1.out (hT.below (B4.out) hT.lt)).mono ?_
    rintro e wG ⟨he, bG⟩
    rw [HF.out] at he
    dsimp only at he
    subst he
    have B5 := Lib.hid ((B4.out).trans (bG.mono (B4.out).size))
    have op0_5 := op0_4.below bG
    have op1_5 := op1.below bG
    have sbG := bG.size
    go_wp2_with fail
    refine (toIntS_calls _ _ x0 _ ((hr0.below (B5.out)).more (B5.out).size) hs0).mono ?_
    rintro e wq0 ⟨vq0, rfl, oq0, bq0⟩
    have B6 := Lib.hid ((B5.out).trans (bq0.mono (B5.out).size))
    have op0_6 := op0_5.below bq0
    have op1_6 := op1_5.below bq0
    obtain ⟨Aq0, cq0, rfl⟩ := oq0.slice
    have tq0 := own_span oq0
    have sbq0 := bq0.size
    go_wp2_with fail
    refine (eqIntS_calls _ _ _ _ x0 x0 _ op0_6.rds oq0.rds op0_6.len_le oq0.len_le).mono ?_
    rintro e w' ⟨he, k1, rfl⟩
    rw [eqL_refl] at he
    subst he
    have B7 := Lib.hid (below_drewN (B6.out) k1)
    go_wp2_with fail
    refine (toIntS_calls _ _ x1 _ ((hr1.below (B7.out)).more (B7.out).size) hs1).mono ?_
    rintro e wq1 ⟨vq1, rfl, oq1, bq1⟩
    have B8 := Lib.hid ((B7.out).trans (bq1.mono (B7.out).size))
    have op0_8 := (op0_6.drewN k1).below bq1
    have op1_8 := (op1_6.drewN k1).below bq1
    obtain ⟨Aq1, cq1, rfl⟩ := oq1.slice
    have tq1 := own_span oq1
    have sbq1 := bq1.size
    go_wp2_with fail
    refine (eqIntS_calls _ _ _ _ x1 x1 _ op1_8.rds oq1.rds op1_8.len_le oq1.len_le).mono ?_
    rintro e w' ⟨he, k2, rfl⟩
    rw [eqL_refl] at he
    subst he
    have B9 := Lib.hid (below_drewN (B8.out) k2)
    go_wp2_with fail
    go_ret
    exact ⟨rfl, B9.out⟩
end Go.Proofs.YtagniijhbiglaabDoor
