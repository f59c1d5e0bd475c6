/- The walk of the exact law of PermCycles. -/
import Derived.Test.YtakefnfhjiodnabC115
import Derived.Test.YtakefnfhjiodnabW8
import Derived.Test.YtakefnfhjiodnabQ3
namespace Go.Proofs.Ytakefnfhjiodnab
open Go.RowKit
set_option linter.unusedVariables false
attribute [local irreducible] cN syn

theorem plCycles_len (xs : List Int) : (plCycles xs).1.length ≤ 1048576 := by
  unfold plCycles
  split
  · rename_i h
    have := rawC_len (permB_perm h).1
    show (cycI xs).length ≤ 1048576
    unfold cycI
    rw [List.length_mergeSort, intP_len]
    omega
  · exact Nat.zero_le _
set_option maxHeartbeats 2000000 in
theorem walk_FnExactPermCycles (a0 : Option Addr) (len0 cap0 : Nat) (z0 : List Int) (w : World) (w0 : IsRow .i64 w a0 len0 cap0 z0) :
    Calls Try.prog 6 #[.slice a0 len0 cap0] w fun e w' => e = .returned (.bool true) ∧ Below w.heap.size w w' := by
  obtain ⟨hr0, hl0, _⟩ := w0.rds
  generalize z0.take len0 = x0 at *
  subst hl0
  by_cases hbig0 : 1048576 < x0.length
  · go_enter Try.func6, Try.ntmps6
    go_wp2_with fail
    go_ret
    exact ⟨rfl, Below.refl _ _⟩
  have hs0 : x0.length ≤ 1048576 := by omega
  have hm0 : x0.length ≤ maxLen := by unfold maxLen; omega
  clear hbig0
  have hlen : (plCycles x0).1.length ≤ 1048576 := plCycles_len x0
  rcases hf : plCycles x0 with ⟨y, b⟩
  rw [hf] at hlen
  dsimp only at hlen
  have HF := Lib.hid hf
  clear hf
  have HM0 := Lib.hid hm0
  clear hm0
  all_goals rcases b with _ | _
  all_goals
    go_enter Try.func6, Try.ntmps6
    go_wp2_with fail
    refine (toIntS_calls _ _ x0 _ ((hr0.below (Below.refl w.heap.size w)).more (Below.refl w.heap.size w).size) hs0).mono ?_
    rintro e ws0 ⟨vs0, rfl, os0, bs0⟩
    have B0 := Lib.hid ((Below.refl w.heap.size w).trans (bs0.mono (Below.refl w.heap.size w).size))
    obtain ⟨As0, cs0, rfl⟩ := os0.slice
    have ts0 := own_span os0
    have sbs0 := bs0.size
    go_wp2_with fail
    refine (sPermCycles_calls _ _ x0 _ os0.rds HM0.out).mono ?_
    rintro e wS ⟨vS, he, oS, bS⟩
    rw [HF.out] at he oS
    dsimp only at he oS
    subst he
    have B1 := Lib.hid ((B0.out).trans (bS.mono (B0.out).size))
    have os0_1 := os0.below bS
    obtain ⟨AS, cS, rfl⟩ := oS.slice
    have tS := own_span oS
    have sbS := bS.size
    go_wp2_with fail
    refine (toIntS_calls _ _ x0 _ ((hr0.below (B1.out)).more (B1.out).size) hs0).mono ?_
    rintro e wp0 ⟨vp0, rfl, op0, bp0⟩
    have B2 := Lib.hid ((B1.out).trans (bp0.mono (B1.out).size))
    have oS_2 := oS.below bp0
    obtain ⟨Ap0, cp0, rfl⟩ := op0.slice
    have tp0 := own_span op0
    have sbp0 := bp0.size
    go_wp2_with fail
    refine (iPermCycles_calls _ _ x0 _ op0.rds HM0.out).mono ?_
    rintro e wG ⟨vG, he, oG, bG⟩
    rw [HF.out] at he oG
    dsimp only at he oG
    subst he
    have B3 := Lib.hid ((B2.out).trans (bG.mono (B2.out).size))
    have oS_3 := oS_2.below bG
    have op0_3 := op0.below bG
    obtain ⟨AG, cG, rfl⟩ := oG.slice
    have tG := own_span oG
    have sbG := bG.size
    go_wp2_with fail
    refine (eqIntS_calls _ _ _ _ y y _ oG.rds oS_3.rds oG.len_le oS_3.len_le).mono ?_
    rintro e w' ⟨he, k1, rfl⟩
    rw [eqL_refl] at he
    subst he
    have B4 := Lib.hid (below_drewN (B3.out) k1)
    go_wp2_with fail
    refine (toIntS_calls _ _ x0 _ ((hr0.below (B4.out)).more (B4.out).size) hs0).mono ?_
    rintro e wq0 ⟨vq0, rfl, oq0, bq0⟩
    have B5 := Lib.hid ((B4.out).trans (bq0.mono (B4.out).size))
    have oS_5 := (oS_3.drewN k1).below bq0
    have op0_5 := (op0_3.drewN k1).below bq0
    have oG_5 := (oG.drewN k1).below bq0
    obtain ⟨Aq0, cq0, rfl⟩ := oq0.slice
    have tq0 := own_span oq0
    have sbq0 := bq0.size
    go_wp2_with fail
    refine (eqIntS_calls _ _ _ _ x0 x0 _ op0_5.rds oq0.rds op0_5.len_le oq0.len_le).mono ?_
    rintro e w' ⟨he, k2, rfl⟩
    rw [eqL_refl] at he
    subst he
    have B6 := Lib.hid (below_drewN (B5.out) k2)
    go_wp2_with fail
    refine (markIntS_calls _ _ x0 (1) _ _ (op0_5.drewN k2) (by omega) (by omega) (by omega)).mono ?_
    rintro e wmp0 ⟨rfl, omp0, gmp0⟩
    have B7 := Lib.hid ((B6.out).grown gmp0 (B6.out).size (fun k hk => Nat.le_trans ((B1.out).size) (tp0 k hk).1))
    have oS_7 := (oS_5.drewN k2).apart gmp0 (fun k hk => by have h1 := tp0; have h2 := (tS k hk); intro e; have h3 := h1 k e.symm; omega)
    have oG_7 := (oG_5.drewN k2).apart gmp0 (fun k hk => by have h1 := tp0; have h2 := (tG k hk); intro e; have h3 := h1 k e.symm; omega)
    go_wp2_with fail
    refine (eqIntS_calls _ _ _ _ y y _ oG_7.rds oS_7.rds oG_7.len_le oS_7.len_le).mono ?_
    rintro e w' ⟨he, k3, rfl⟩
    rw [eqL_refl] at he
    subst he
    have B8 := Lib.hid (below_drewN (B7.out) k3)
    go_wp2_with fail
    refine (markIntS_calls _ _ y (1) _ _ (oG_7.drewN k3) (by omega) (by omega) (by omega)).mono ?_
    rintro e wmG ⟨rfl, omG, gmG⟩
    have B9 := Lib.hid ((B8.out).grown gmG (B8.out).size (fun k hk => Nat.le_trans ((B2.out).size) (tG k hk).1))
    have oS_9 := (oS_7.drewN k3).apart gmG (fun k hk => by have h1 := tG; have h2 := (tS k hk); intro e; have h3 := h1 k e.symm; omega)
    go_wp2_with fail
    refine (heldIntS_calls _ _ y.length 1 _ omG.rdsM (by omega) (by omega) (by omega)).mono ?_
    rintro e w' ⟨rfl, rfl⟩
    go_wp2_with fail
    refine (toIntS_calls _ _ x0 _ ((hr0.below (B9.out)).more (B9.out).size) hs0).mono ?_
    rintro e wh0 ⟨vh0, rfl, oh0, bh0⟩
    have B10 := Lib.hid ((B9.out).trans (bh0.mono (B9.out).size))
    have oS_10 := oS_9.below bh0
    have oG_10 := omG.below bh0
    obtain ⟨Ah0, ch0, rfl⟩ := oh0.slice
    have th0 := own_span oh0
    have sbh0 := bh0.size
    go_wp2_with fail
    refine (iPermCycles_calls _ _ x0 _ oh0.rds HM0.out).mono ?_
    rintro e wH ⟨vH, he, oH, bH⟩
    rw [HF.out] at he oH
    dsimp only at he oH
    subst he
    have B11 := Lib.hid ((B10.out).trans (bH.mono (B10.out).size))
    have oS_11 := oS_10.below bH
    have oG_11 := oG_10.below bH
    have oh0_11 := oh0.below bH
    obtain ⟨AH, cH, rfl⟩ := oH.slice
    have tH := own_span oH
    have sbH := bH.size
    go_wp2_with fail
    refine (eqIntS_calls _ _ _ _ y y _ oH.rds oS_11.rds oH.len_le oS_11.len_le).mono ?_
    rintro e w' ⟨he, k4, rfl⟩
    rw [eqL_refl] at he
    subst he
    have B12 := Lib.hid (below_drewN (B11.out) k4)
    go_wp2_with fail
    refine (heldIntS_calls _ _ y.length 1 _ (oG_11.drewN k4).rdsM (by omega) (by omega) (by omega)).mono ?_
    rintro e w' ⟨rfl, rfl⟩
    go_wp2_with fail
    go_ret
    exact ⟨rfl, B12.out⟩
end Go.Proofs.Ytakefnfhjiodnab
