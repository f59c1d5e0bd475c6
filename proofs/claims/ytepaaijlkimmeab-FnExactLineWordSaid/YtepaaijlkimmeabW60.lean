/- The walks of the exact laws of LinePerm, LineWord. -/
import Derived.Test.YtepaaijlkimmeabC137
import Derived.Test.YtepaaijlkimmeabW8
import Derived.Test.YtepaaijlkimmeabQ3
namespace Go.Proofs.Ytepaaijlkimmeab
open Go.RowKit
set_option linter.unusedVariables false
attribute [local irreducible] cN syn

set_option maxHeartbeats 2000000 in
theorem walk_FnExactLinePerm (a0 : Int) (a1 : Int) (a2 : Int) (a3 : Int) (w : World) (w0 : (Lit.int .i64 a0).wf = true) (w1 : (Lit.int .i64 a1).wf = true) (w2 : (Lit.int .i64 a2).wf = true) (w3 : (Lit.int .i64 a3).wf = true) :
    Calls Try.prog 3 #[.int .i64 a0, .int .i64 a1, .int .i64 a2, .int .i64 a3] w fun e w' => e = .returned (.bool true) ∧ Below w.heap.size w w' := by
  have hlen : (lpL a0 a1 a2 a3).1.length ≤ 1048576 := lpL_len a0 a1 a2 a3
  rcases hf : lpL a0 a1 a2 a3 with ⟨y, b⟩
  rw [hf] at hlen
  dsimp only at hlen
  have HF := Lib.hid hf
  clear hf
  all_goals rcases b with _ | _
  all_goals
    go_enter Try.func3, Try.ntmps3
    go_wp2_with fail
    refine (sLinePerm_calls a0 a1 a2 a3 _).mono ?_
    rintro e wS ⟨vS, he, oS, bS⟩
    rw [HF.out] at he oS
    dsimp only at he oS
    subst he
    have B0 := Lib.hid ((Below.refl w.heap.size w).trans (bS.mono (Below.refl w.heap.size w).size))
    obtain ⟨AS, cS, rfl⟩ := oS.slice
    have tS := own_span oS
    have sbS := bS.size
    go_wp2_with fail
    refine (iLinePerm_calls a0 a1 a2 a3 _).mono ?_
    rintro e wG ⟨vG, he, oG, bG⟩
    rw [HF.out] at he oG
    dsimp only at he oG
    subst he
    have B1 := Lib.hid ((B0.out).trans (bG.mono (B0.out).size))
    have oS_1 := oS.below bG
    obtain ⟨AG, cG, rfl⟩ := oG.slice
    have tG := own_span oG
    have sbG := bG.size
    go_wp2_with fail
    refine (eqIntS_calls _ _ _ _ y y _ oG.rds oS_1.rds oG.len_le oS_1.len_le).mono ?_
    rintro e w' ⟨he, k1, rfl⟩
    rw [eqL_refl] at he
    subst he
    have B2 := Lib.hid (below_drewN (B1.out) k1)
    go_wp2_with fail
    refine (markIntS_calls _ _ y (1) _ _ (oG.drewN k1) (by omega) (by omega) (by omega)).mono ?_
    rintro e wmG ⟨rfl, omG, gmG⟩
    have B3 := Lib.hid ((B2.out).grown gmG (B2.out).size (fun k hk => Nat.le_trans ((B0.out).size) (tG k hk).1))
    have oS_3 := (oS_1.drewN k1).apart gmG (fun k hk => by have h1 := tG; have h2 := (tS k hk); intro e; have h3 := h1 k e.symm; omega)
    go_wp2_with fail
    refine (heldIntS_calls _ _ y.length 1 _ omG.rdsM (by omega) (by omega) (by omega)).mono ?_
    rintro e w' ⟨rfl, rfl⟩
    go_wp2_with fail
    refine (iLinePerm_calls a0 a1 a2 a3 _).mono ?_
    rintro e wH ⟨vH, he, oH, bH⟩
    rw [HF.out] at he oH
    dsimp only at he oH
    subst he
    have B4 := Lib.hid ((B3.out).trans (bH.mono (B3.out).size))
    have oS_4 := oS_3.below bH
    have oG_4 := omG.below bH
    obtain ⟨AH, cH, rfl⟩ := oH.slice
    have tH := own_span oH
    have sbH := bH.size
    go_wp2_with fail
    refine (eqIntS_calls _ _ _ _ y y _ oH.rds oS_4.rds oH.len_le oS_4.len_le).mono ?_
    rintro e w' ⟨he, k2, rfl⟩
    rw [eqL_refl] at he
    subst he
    have B5 := Lib.hid (below_drewN (B4.out) k2)
    go_wp2_with fail
    refine (heldIntS_calls _ _ y.length 1 _ (oG_4.drewN k2).rdsM (by omega) (by omega) (by omega)).mono ?_
    rintro e w' ⟨rfl, rfl⟩
    go_wp2_with fail
    go_ret
    exact ⟨rfl, B5.out⟩
set_option maxHeartbeats 2000000 in
theorem walk_FnExactLineWord (a0 : Int) (w : World) (w0 : (Lit.int .i64 a0).wf = true) :
    Calls Try.prog 4 #[.int .i64 a0] w fun e w' => e = .returned (.bool true) ∧ Below w.heap.size w w' := by
  rcases hf : lwI a0 with ⟨y, b⟩
  have HF := Lib.hid hf
  clear hf
  all_goals rcases b with _ | _
  all_goals
    go_enter Try.func4, Try.ntmps4
    go_wp2_with fail
    refine (sLineWord_calls a0 _).mono ?_
    rintro e wS ⟨he, bS⟩
    rw [HF.out] at he
    dsimp only at he
    subst he
    have B0 := Lib.hid ((Below.refl w.heap.size w).trans (bS.mono (Below.refl w.heap.size w).size))
    have sbS := bS.size
    go_wp2_with fail
    refine (iLineWord_calls a0 _).mono ?_
    rintro e wG ⟨he, bG⟩
    rw [HF.out] at he
    dsimp only at he
    subst he
    have B1 := Lib.hid ((B0.out).trans (bG.mono (B0.out).size))
    have sbG := bG.size
    go_wp2_with fail
    go_ret
    exact ⟨rfl, B1.out⟩
end Go.Proofs.Ytepaaijlkimmeab
