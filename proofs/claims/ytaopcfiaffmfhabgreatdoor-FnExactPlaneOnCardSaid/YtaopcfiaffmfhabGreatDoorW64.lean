/- The walks of the exact laws of PlaneLine and PlaneOn. -/
import Derived.Test.YtaopcfiaffmfhabGreatDoorC153
import Derived.Test.YtaopcfiaffmfhabGreatDoorC148
import Derived.Test.YtaopcfiaffmfhabGreatDoorW8
import Derived.Test.YtaopcfiaffmfhabGreatDoorQ3
namespace Go.Proofs.YtaopcfiaffmfhabGreatDoor
open Go.RowKit
set_option linter.unusedVariables false
attribute [local irreducible] octS cN octF syn

theorem plOn_len (b p : Int) : (plOn b p).1.length ≤ 1048576 := by
  rcases hb : baseB b with _ | _
  · rw [show plOn b p = ([], false) by simp [plOn, hb]]
    exact Nat.zero_le _
  · obtain ⟨B, rfl, hB⟩ := baseB_nat hb
    rcases h1 : ptB (B : Int) p with _ | _
    · rw [show plOn (B : Int) p = ([], false) by simp [plOn, h1]]
      exact Nat.zero_le _
    · rw [show plOn (B : Int) p = ((lns (B : Int)).filter (hasB (powI p)), true) by simp [plOn, hb, h1]]
      refine Nat.le_trans (List.length_filter_le _ _) ?_
      rw [lns_len hB]
      decide
set_option maxHeartbeats 2000000 in
theorem walk_FnExactPlaneLine (a0 : Int) (a1 : Int) (a2 : Int) (w : World) (w0 : (Lit.int .i64 a0).wf = true) (w1 : (Lit.int .i64 a1).wf = true) (w2 : (Lit.int .i64 a2).wf = true) (hT : Tab2E w) :
    Calls Tryz.prog 3 #[.int .i64 a0, .int .i64 a1, .int .i64 a2] w fun e w' => e = .returned (.bool true) ∧ Below w.heap.size w w' := by
  rcases hf : plLine a0 a1 a2 with ⟨y, b⟩
  have HF := Lib.hid hf
  clear hf
  all_goals rcases b with _ | _
  all_goals
    go_enter Tryz.func3, Tryz.ntmps3
    go_wp2_with fail
    refine (sPlaneLine_calls a0 a1 a2 _).mono ?_
    rintro e wS ⟨he, bS⟩
    rw [HF.out] at he
    dsimp only at he
    subst he
    have B0 := Lib.hid ((Below.refl w.heap.size w).trans (bS.mono (Below.refl w.heap.size w).size))
    have sbS := bS.size
    go_wp2_with fail
    refine (iPlaneLine_calls a0 a1 a2 _ (hT.below (B0.out) hT.lt).two (hT.below (B0.out) hT.lt).hand).mono ?_
    rintro e wG ⟨he, bG⟩
    rw [HF.out] at he
    dsimp only at he
    subst he
    have B1 := Lib.hid ((B0.out).trans (bG.mono (B0.out).size))
    have sbG := bG.size
    go_wp2_with fail
    go_ret
    exact ⟨rfl, B1.out⟩
set_option maxHeartbeats 2000000 in
theorem walk_FnExactPlaneOn (a0 : Int) (a1 : Int) (w : World) (w0 : (Lit.int .i64 a0).wf = true) (w1 : (Lit.int .i64 a1).wf = true) (hT : Tab2E w) :
    Calls Tryz.prog 4 #[.int .i64 a0, .int .i64 a1] w fun e w' => e = .returned (.bool true) ∧ Below w.heap.size w w' := by
  have hlen : (plOn a0 a1).1.length ≤ 1048576 := plOn_len a0 a1
  rcases hf : plOn a0 a1 with ⟨y, b⟩
  rw [hf] at hlen
  dsimp only at hlen
  have HF := Lib.hid hf
  clear hf
  all_goals rcases b with _ | _
  all_goals
    go_enter Tryz.func4, Tryz.ntmps4
    go_wp2_with fail
    refine (sPlaneOn_calls a0 a1 _).mono ?_
    rintro e wS ⟨vS, he, oS, bS⟩
    rw [HF.out] at he oS
    dsimp only at he oS
    subst he
    have B0 := Lib.hid ((Below.refl w.heap.size w).trans (bS.mono (Below.refl w.heap.size w).size))
    obtain ⟨AS, cS, rfl⟩ := oS.slice
    have tS := own_span oS
    have sbS := bS.size
    go_wp2_with fail
    refine (iPlaneOn_calls a0 a1 _ (hT.below (B0.out) hT.lt).two (hT.below (B0.out) hT.lt).hand).mono ?_
    rintro e wG ⟨vG, he, oG, bG⟩
    rw [HF.out] at he oG
    dsimp only at he oG
    subst he
    have B1 := Lib.hid ((B0.out).trans (bG.mono (B0.out).size))
    have oS_1 := oS.below bG
    obtain ⟨AG, cG, rfl⟩ := oG.slice
    have tG := own_span oG
    have sbG := bG.size
    go_wp2_with fail
    refine (eqIntS_calls _ _ _ _ y y _ oG.rds oS_1.rds oG.len_le oS_1.len_le).mono ?_
    rintro e w' ⟨he, k1, rfl⟩
    rw [eqL_refl] at he
    subst he
    have B2 := Lib.hid (below_drewN (B1.out) k1)
    go_wp2_with fail
    refine (markIntS_calls _ _ y (1) _ _ (oG.drewN k1) (by omega) (by omega) (by omega)).mono ?_
    rintro e wmG ⟨rfl, omG, gmG⟩
    have B3 := Lib.hid ((B2.out).grown gmG (B2.out).size (fun k hk => Nat.le_trans ((B0.out).size) (tG k hk).1))
    have oS_3 := (oS_1.drewN k1).apart gmG (fun k hk => by have h1 := tG; have h2 := (tS k hk); intro e; have h3 := h1 k e.symm; omega)
    go_wp2_with fail
    refine (heldIntS_calls _ _ y.length 1 _ omG.rdsM (by omega) (by omega) (by omega)).mono ?_
    rintro e w' ⟨rfl, rfl⟩
    go_wp2_with fail
    refine (iPlaneOn_calls a0 a1 _ (hT.below (B3.out) hT.lt).two (hT.below (B3.out) hT.lt).hand).mono ?_
    rintro e wH ⟨vH, he, oH, bH⟩
    rw [HF.out] at he oH
    dsimp only at he oH
    subst he
    have B4 := Lib.hid ((B3.out).trans (bH.mono (B3.out).size))
    have oS_4 := oS_3.below bH
    have oG_4 := omG.below bH
    obtain ⟨AH, cH, rfl⟩ := oH.slice
    have tH := own_span oH
    have sbH := bH.size
    go_wp2_with fail
    refine (eqIntS_calls _ _ _ _ y y _ oH.rds oS_4.rds oH.len_le oS_4.len_le).mono ?_
    rintro e w' ⟨he, k2, rfl⟩
    rw [eqL_refl] at he
    subst he
    have B5 := Lib.hid (below_drewN (B4.out) k2)
    go_wp2_with fail
    refine (heldIntS_calls _ _ y.length 1 _ (oG_4.drewN k2).rdsM (by omega) (by omega) (by omega)).mono ?_
    rintro e w' ⟨rfl, rfl⟩
    go_wp2_with fail
    go_ret
    exact ⟨rfl, B5.out⟩
end Go.Proofs.YtaopcfiaffmfhabGreatDoor
