/- The walks of the exact laws VectorValid, LatticeInner and LatticeShape. -/
import Derived.Test.YtmeejnkpaiinaaaC166
import Derived.Test.YtmeejnkpaiinaaaC164
import Derived.Test.YtmeejnkpaiinaaaW8
namespace Go.Proofs.Ytmeejnkpaiinaaa
open Go.RowKit
set_option linter.unusedVariables false

theorem sVectorValid_b (A : Option Addr) (c : Nat) (xs : List Int) (w : World) (ha : Rds w w.heap.size .i64 A xs) (hx : xs.length ≤ maxLen) :
    Calls Try.prog 6 #[.slice A xs.length c] w fun e w' => e = .returned (.bool (vecB xs)) ∧ Below w.heap.size w w' :=
  (sVectorValid_calls A c xs w ha hx).mono fun e w' h => ⟨h.1, h.2 ▸ Below.refl _ _⟩
theorem lvShape_len (xs : List Int) : (lvShape xs).1.length ≤ 1048576 := by
  unfold lvShape
  split
  · show (shapeL xs).length ≤ _
    rw [shape_len]; omega
  · simp
set_option maxHeartbeats 2000000 in
theorem walk_FnExactVectorValid (a0 : Option Addr) (len0 cap0 : Nat) (z0 : List Int) (w : World) (w0 : IsRow .i64 w a0 len0 cap0 z0) :
    Calls Try.prog 3 #[.slice a0 len0 cap0] w fun e w' => e = .returned (.bool true) ∧ Below w.heap.size w w' := by
  obtain ⟨hr0, hl0, _⟩ := w0.rds
  generalize z0.take len0 = x0 at *
  subst hl0
  by_cases hbig0 : 1048576 < x0.length
  · go_enter Try.func3, Try.ntmps3
    go_wp2_with fail
    go_ret
    exact ⟨rfl, Below.refl _ _⟩
  have hs0 : x0.length ≤ 1048576 := by omega
  have hm0 : x0.length ≤ maxLen := by unfold maxLen; omega
  clear hbig0
  generalize hf : vecB x0 = y
  have HF := Lib.hid hf
  clear hf
  have HM0 := Lib.hid hm0
  clear hm0
  all_goals rcases y with _ | _
  all_goals
    go_enter Try.func3, Try.ntmps3
    go_wp2_with fail
    refine (toIntS_calls _ _ x0 _ ((hr0.below (Below.refl w.heap.size w)).more (Below.refl w.heap.size w).size) hs0).mono ?_
    rintro e ws0 ⟨vs0, rfl, os0, bs0⟩
    have B0 := Lib.hid ((Below.refl w.heap.size w).trans (bs0.mono (Below.refl w.heap.size w).size))
    obtain ⟨As0, cs0, rfl⟩ := os0.slice
    have ts0 := own_span os0
    have sbs0 := bs0.size
    go_wp2_with fail
    refine (sVectorValid_b _ _ x0 _ os0.rds HM0.out).mono ?_
    rintro e wS ⟨he, bS⟩
    rw [HF.out] at he
    
    subst he
    have B1 := Lib.hid ((B0.out).trans (bS.mono (B0.out).size))
    have os0_1 := os0.below bS
    have sbS := bS.size
    go_wp2_with fail
    refine (toIntS_calls _ _ x0 _ ((hr0.below (B1.out)).more (B1.out).size) hs0).mono ?_
    rintro e wp0 ⟨vp0, rfl, op0, bp0⟩
    have B2 := Lib.hid ((B1.out).trans (bp0.mono (B1.out).size))
    obtain ⟨Ap0, cp0, rfl⟩ := op0.slice
    have tp0 := own_span op0
    have sbp0 := bp0.size
    go_wp2_with fail
    refine (iVectorValid_calls _ _ x0 _ op0.rds HM0.out).mono ?_
    rintro e wG ⟨he, bG⟩
    rw [HF.out] at he
    
    subst he
    have B3 := Lib.hid ((B2.out).trans (bG.mono (B2.out).size))
    have op0_3 := op0.below bG
    have sbG := bG.size
    go_wp2_with fail
    refine (toIntS_calls _ _ x0 _ ((hr0.below (B3.out)).more (B3.out).size) hs0).mono ?_
    rintro e wq0 ⟨vq0, rfl, oq0, bq0⟩
    have B4 := Lib.hid ((B3.out).trans (bq0.mono (B3.out).size))
    have op0_4 := op0_3.below bq0
    obtain ⟨Aq0, cq0, rfl⟩ := oq0.slice
    have tq0 := own_span oq0
    have sbq0 := bq0.size
    go_wp2_with fail
    refine (eqIntS_calls _ _ _ _ x0 x0 _ op0_4.rds oq0.rds op0_4.len_le oq0.len_le).mono ?_
    rintro e w' ⟨he, k1, rfl⟩
    rw [eqL_refl] at he
    subst he
    have B5 := Lib.hid (below_drewN (B4.out) k1)
    go_wp2_with fail
    go_ret
    exact ⟨rfl, B5.out⟩
set_option maxHeartbeats 2000000 in
theorem walk_FnExactLatticeInner (a0 : Option Addr) (len0 cap0 : Nat) (z0 : List Int) (a1 : Option Addr) (len1 cap1 : Nat) (z1 : List Int) (w : World) (w0 : IsRow .i64 w a0 len0 cap0 z0) (w1 : IsRow .i64 w a1 len1 cap1 z1) :
    Calls Try.prog 4 #[.slice a0 len0 cap0, .slice a1 len1 cap1] w fun e w' => e = .returned (.bool true) ∧ Below w.heap.size w w' := by
  obtain ⟨hr0, hl0, _⟩ := w0.rds
  generalize z0.take len0 = x0 at *
  subst hl0
  obtain ⟨hr1, hl1, _⟩ := w1.rds
  generalize z1.take len1 = x1 at *
  subst hl1
  by_cases hbig0 : 1048576 < x0.length
  · go_enter Try.func4, Try.ntmps4
    go_wp2_with fail
    go_ret
    exact ⟨rfl, Below.refl _ _⟩
  have hs0 : x0.length ≤ 1048576 := by omega
  have hm0 : x0.length ≤ maxLen := by unfold maxLen; omega
  clear hbig0
  by_cases hbig1 : 1048576 < x1.length
  · go_enter Try.func4, Try.ntmps4
    go_wp2_with fail
    go_ret
    exact ⟨rfl, Below.refl _ _⟩
  have hs1 : x1.length ≤ 1048576 := by omega
  have hm1 : x1.length ≤ maxLen := by unfold maxLen; omega
  clear hbig1
  rcases hf : lvInner x0 x1 with ⟨y, b⟩
  have HF := Lib.hid hf
  clear hf
  have HM0 := Lib.hid hm0
  clear hm0
  have HM1 := Lib.hid hm1
  clear hm1
  all_goals rcases b with _ | _
  all_goals
    go_enter Try.func4, Try.ntmps4
    go_wp2_with fail
    refine (toIntS_calls _ _ x0 _ ((hr0.below (Below.refl w.heap.size w)).more (Below.refl w.heap.size w).size) hs0).mono ?_
    rintro e ws0 ⟨vs0, rfl, os0, bs0⟩
    have B0 := Lib.hid ((Below.refl w.heap.size w).trans (bs0.mono (Below.refl w.heap.size w).size))
    obtain ⟨As0, cs0, rfl⟩ := os0.slice
    have ts0 := own_span os0
    have sbs0 := bs0.size
    go_wp2_with fail
    refine (toIntS_calls _ _ x1 _ ((hr1.below (B0.out)).more (B0.out).size) hs1).mono ?_
    rintro e ws1 ⟨vs1, rfl, os1, bs1⟩
    have B1 := Lib.hid ((B0.out).trans (bs1.mono (B0.out).size))
    have os0_1 := os0.below bs1
    obtain ⟨As1, cs1, rfl⟩ := os1.slice
    have ts1 := own_span os1
    have sbs1 := bs1.size
    go_wp2_with fail
    refine (sLatticeInner_calls _ _ _ _ x0 x1 _ os0_1.rds HM0.out os1.rds HM1.out).mono ?_
    rintro e wS ⟨he, bS⟩
    rw [HF.out] at he
    dsimp only at he
    subst he
    have B2 := Lib.hid ((B1.out).trans (bS.mono (B1.out).size))
    have os0_2 := os0_1.below bS
    have os1_2 := os1.below bS
    have sbS := bS.size
    go_wp2_with fail
    refine (toIntS_calls _ _ x0 _ ((hr0.below (B2.out)).more (B2.out).size) hs0).mono ?_
    rintro e wp0 ⟨vp0, rfl, op0, bp0⟩
    have B3 := Lib.hid ((B2.out).trans (bp0.mono (B2.out).size))
    obtain ⟨Ap0, cp0, rfl⟩ := op0.slice
    have tp0 := own_span op0
    have sbp0 := bp0.size
    go_wp2_with fail
    refine (toIntS_calls _ _ x1 _ ((hr1.below (B3.out)).more (B3.out).size) hs1).mono ?_
    rintro e wp1 ⟨vp1, rfl, op1, bp1⟩
    have B4 := Lib.hid ((B3.out).trans (bp1.mono (B3.out).size))
    have op0_4 := op0.below bp1
    obtain ⟨Ap1, cp1, rfl⟩ := op1.slice
    have tp1 := own_span op1
    have sbp1 := bp1.size
    go_wp2_with fail
    refine (iLatticeInner_calls _ _ _ _ x0 x1 _ op0_4.rds HM0.out op1.rds HM1.out).mono ?_
    rintro e wG ⟨he, bG⟩
    rw [HF.out] at he
    dsimp only at he
    subst he
    have B5 := Lib.hid ((B4.out).trans (bG.mono (B4.out).size))
    have op0_5 := op0_4.below bG
    have op1_5 := op1.below bG
    have sbG := bG.size
    go_wp2_with fail
    refine (toIntS_calls _ _ x0 _ ((hr0.below (B5.out)).more (B5.out).size) hs0).mono ?_
    rintro e wq0 ⟨vq0, rfl, oq0, bq0⟩
    have B6 := Lib.hid ((B5.out).trans (bq0.mono (B5.out).size))
    have op0_6 := op0_5.below bq0
    have op1_6 := op1_5.below bq0
    obtain ⟨Aq0, cq0, rfl⟩ := oq0.slice
    have tq0 := own_span oq0
    have sbq0 := bq0.size
    go_wp2_with fail
    refine (eqIntS_calls _ _ _ _ x0 x0 _ op0_6.rds oq0.rds op0_6.len_le oq0.len_le).mono ?_
    rintro e w' ⟨he, k1, rfl⟩
    rw [eqL_refl] at he
    subst he
    have B7 := Lib.hid (below_drewN (B6.out) k1)
    go_wp2_with fail
    refine (toIntS_calls _ _ x1 _ ((hr1.below (B7.out)).more (B7.out).size) hs1).mono ?_
    rintro e wq1 ⟨vq1, rfl, oq1, bq1⟩
    have B8 := Lib.hid ((B7.out).trans (bq1.mono (B7.out).size))
    have op0_8 := (op0_6.drewN k1).below bq1
    have op1_8 := (op1_6.drewN k1).below bq1
    obtain ⟨Aq1, cq1, rfl⟩ := oq1.slice
    have tq1 := own_span oq1
    have sbq1 := bq1.size
    go_wp2_with fail
    refine (eqIntS_calls _ _ _ _ x1 x1 _ op1_8.rds oq1.rds op1_8.len_le oq1.len_le).mono ?_
    rintro e w' ⟨he, k2, rfl⟩
    rw [eqL_refl] at he
    subst he
    have B9 := Lib.hid (below_drewN (B8.out) k2)
    go_wp2_with fail
    go_ret
    exact ⟨rfl, B9.out⟩
set_option maxHeartbeats 2000000 in
theorem walk_FnExactLatticeShape (a0 : Option Addr) (len0 cap0 : Nat) (z0 : List Int) (w : World) (w0 : IsRow .i64 w a0 len0 cap0 z0) :
    Calls Try.prog 5 #[.slice a0 len0 cap0] w fun e w' => e = .returned (.bool true) ∧ Below w.heap.size w w' := by
  obtain ⟨hr0, hl0, _⟩ := w0.rds
  generalize z0.take len0 = x0 at *
  subst hl0
  by_cases hbig0 : 1048576 < x0.length
  · go_enter Try.func5, Try.ntmps5
    go_wp2_with fail
    go_ret
    exact ⟨rfl, Below.refl _ _⟩
  have hs0 : x0.length ≤ 1048576 := by omega
  have hm0 : x0.length ≤ maxLen := by unfold maxLen; omega
  clear hbig0
  have hlen : (lvShape x0).1.length ≤ 1048576 := lvShape_len x0
  rcases hf : lvShape x0 with ⟨y, b⟩
  rw [hf] at hlen
  dsimp only at hlen
  have HF := Lib.hid hf
  clear hf
  have HM0 := Lib.hid hm0
  clear hm0
  all_goals rcases b with _ | _
  all_goals
    go_enter Try.func5, Try.ntmps5
    go_wp2_with fail
    refine (toIntS_calls _ _ x0 _ ((hr0.below (Below.refl w.heap.size w)).more (Below.refl w.heap.size w).size) hs0).mono ?_
    rintro e ws0 ⟨vs0, rfl, os0, bs0⟩
    have B0 := Lib.hid ((Below.refl w.heap.size w).trans (bs0.mono (Below.refl w.heap.size w).size))
    obtain ⟨As0, cs0, rfl⟩ := os0.slice
    have ts0 := own_span os0
    have sbs0 := bs0.size
    go_wp2_with fail
    refine (sLatticeShape_calls _ _ x0 _ os0.rds HM0.out).mono ?_
    rintro e wS ⟨vS, he, oS, bS⟩
    rw [HF.out] at he oS
    dsimp only at he oS
    subst he
    have B1 := Lib.hid ((B0.out).trans (bS.mono (B0.out).size))
    have os0_1 := os0.below bS
    obtain ⟨AS, cS, rfl⟩ := oS.slice
    have tS := own_span oS
    have sbS := bS.size
    go_wp2_with fail
    refine (toIntS_calls _ _ x0 _ ((hr0.below (B1.out)).more (B1.out).size) hs0).mono ?_
    rintro e wp0 ⟨vp0, rfl, op0, bp0⟩
    have B2 := Lib.hid ((B1.out).trans (bp0.mono (B1.out).size))
    have oS_2 := oS.below bp0
    obtain ⟨Ap0, cp0, rfl⟩ := op0.slice
    have tp0 := own_span op0
    have sbp0 := bp0.size
    go_wp2_with fail
    refine (iLatticeShape_calls _ _ x0 _ op0.rds HM0.out).mono ?_
    rintro e wG ⟨vG, he, oG, bG⟩
    rw [HF.out] at he oG
    dsimp only at he oG
    subst he
    have B3 := Lib.hid ((B2.out).trans (bG.mono (B2.out).size))
    have oS_3 := oS_2.below bG
    have op0_3 := op0.below bG
    obtain ⟨AG, cG, rfl⟩ := oG.slice
    have tG := own_spanV oG
    have sbG := bG.size
    go_wp2_with fail
    refine (eqIntS_calls _ _ _ _ y y _ oG.rds oS_3.rds oG.len_le oS_3.len_le).mono ?_
    rintro e w' ⟨he, k1, rfl⟩
    rw [eqL_refl] at he
    subst he
    have B4 := Lib.hid (below_drewN (B3.out) k1)
    go_wp2_with fail
    refine (toIntS_calls _ _ x0 _ ((hr0.below (B4.out)).more (B4.out).size) hs0).mono ?_
    rintro e wq0 ⟨vq0, rfl, oq0, bq0⟩
    have B5 := Lib.hid ((B4.out).trans (bq0.mono (B4.out).size))
    have oS_5 := (oS_3.drewN k1).below bq0
    have op0_5 := (op0_3.drewN k1).below bq0
    have oG_5 := (oG.drewN k1).below bq0
    obtain ⟨Aq0, cq0, rfl⟩ := oq0.slice
    have tq0 := own_span oq0
    have sbq0 := bq0.size
    go_wp2_with fail
    refine (eqIntS_calls _ _ _ _ x0 x0 _ op0_5.rds oq0.rds op0_5.len_le oq0.len_le).mono ?_
    rintro e w' ⟨he, k2, rfl⟩
    rw [eqL_refl] at he
    subst he
    have B6 := Lib.hid (below_drewN (B5.out) k2)
    go_wp2_with fail
    refine (markIntS_calls _ _ x0 (1) _ _ (op0_5.drewN k2) (by omega) (by omega) (by omega)).mono ?_
    rintro e wmp0 ⟨rfl, omp0, gmp0⟩
    have B7 := Lib.hid ((B6.out).grown gmp0 (B6.out).size (fun k hk => Nat.le_trans ((B1.out).size) (tp0 k hk).1))
    have oS_7 := (oS_5.drewN k2).apart gmp0 (fun k hk => by have h1 := tp0; have h2 := (tS k hk); intro e; have h3 := h1 k e.symm; omega)
    have oG_7 := (oG_5.drewN k2).apart gmp0 (fun k hk => by have h1 := tp0; have h2 := (tG k hk); intro e; have h3 := h1 k e.symm; omega)
    go_wp2_with fail
    refine (eqIntS_calls _ _ _ _ y y _ oG_7.rds oS_7.rds oG_7.len_le oS_7.len_le).mono ?_
    rintro e w' ⟨he, k3, rfl⟩
    rw [eqL_refl] at he
    subst he
    have B8 := Lib.hid (below_drewN (B7.out) k3)
    go_wp2_with fail
    refine (markV_calls _ _ y (1) _ _ (oG_7.drewN k3) (by omega) (by omega) (by omega)).mono ?_
    rintro e wmG ⟨rfl, omG, gmG⟩
    have B9 := Lib.hid ((B8.out).grown gmG (B8.out).size (fun k hk => Nat.le_trans ((B2.out).size) (tG k hk).1))
    have oS_9 := (oS_7.drewN k3).apart gmG (fun k hk => by have h1 := tG; have h2 := (tS k hk); intro e; have h3 := h1 k e.symm; omega)
    go_wp2_with fail
    refine (heldIntS_calls _ _ y.length 1 _ omG.rdsM (by omega) (by omega) (by omega)).mono ?_
    rintro e w' ⟨rfl, rfl⟩
    go_wp2_with fail
    refine (toIntS_calls _ _ x0 _ ((hr0.below (B9.out)).more (B9.out).size) hs0).mono ?_
    rintro e wh0 ⟨vh0, rfl, oh0, bh0⟩
    have B10 := Lib.hid ((B9.out).trans (bh0.mono (B9.out).size))
    have oS_10 := oS_9.below bh0
    have oG_10 := omG.below bh0
    obtain ⟨Ah0, ch0, rfl⟩ := oh0.slice
    have th0 := own_span oh0
    have sbh0 := bh0.size
    go_wp2_with fail
    refine (iLatticeShape_calls _ _ x0 _ oh0.rds HM0.out).mono ?_
    rintro e wH ⟨vH, he, oH, bH⟩
    rw [HF.out] at he oH
    dsimp only at he oH
    subst he
    have B11 := Lib.hid ((B10.out).trans (bH.mono (B10.out).size))
    have oS_11 := oS_10.below bH
    have oG_11 := oG_10.below bH
    have oh0_11 := oh0.below bH
    obtain ⟨AH, cH, rfl⟩ := oH.slice
    have tH := own_spanV oH
    have sbH := bH.size
    go_wp2_with fail
    refine (eqIntS_calls _ _ _ _ y y _ oH.rds oS_11.rds oH.len_le oS_11.len_le).mono ?_
    rintro e w' ⟨he, k4, rfl⟩
    rw [eqL_refl] at he
    subst he
    have B12 := Lib.hid (below_drewN (B11.out) k4)
    go_wp2_with fail
    refine (heldIntS_calls _ _ y.length 1 _ (oG_11.drewN k4).rdsM (by omega) (by omega) (by omega)).mono ?_
    rintro e w' ⟨rfl, rfl⟩
    go_wp2_with fail
    go_ret
    exact ⟨rfl, B12.out⟩
end Go.Proofs.Ytmeejnkpaiinaaa
