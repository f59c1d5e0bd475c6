/- The walks of the exact laws of LatticeIn, LatticeAdd, LatticeFlip, LatticeOctad, LatticeThree, LatticeFour. -/
import Derived.Test.YtmeejnkpaiinaaaDoorC172
import Derived.Test.YtmeejnkpaiinaaaDoorC174
import Derived.Test.YtmeejnkpaiinaaaDoorC167
import Derived.Test.YtmeejnkpaiinaaaDoorW8
namespace Go.Proofs.YtmeejnkpaiinaaaDoor
open Go.RowKit
set_option linter.unusedVariables false
attribute [local irreducible] cN syn

theorem lvAdd_len (xs ys : List Int) : (lvAdd xs ys).1.length ≤ 1048576 := by
  unfold lvAdd
  split
  · show (addL xs ys).length ≤ _; rw [show (addL xs ys).length = 24 from vL_len _]; omega
  · simp
theorem lvFlip_len (xs : List Int) (n : Int) : (lvFlip xs n).1.length ≤ 1048576 := by
  unfold lvFlip
  split
  · show (flipL xs n.toNat).length ≤ _; rw [show (flipL xs n.toNat).length = 24 from vL_len _]; omega
  · simp
theorem lvOct_len (n s : Int) : (lvOct n s).1.length ≤ 1048576 := by
  unfold lvOct
  split
  · show (vL _).length ≤ _; rw [vL_len]; omega
  · simp
theorem lvThree_len (n s : Int) : (lvThree n s).1.length ≤ 1048576 := by
  unfold lvThree
  split
  · show (vL _).length ≤ _; rw [vL_len]; omega
  · simp
theorem lvFour_len (n s : Int) (f g : Bool) : (lvFour n s f g).1.length ≤ 1048576 := by
  unfold lvFour
  split
  · show (vL _).length ≤ _; rw [vL_len]; omega
  · simp
set_option maxHeartbeats 2000000 in
theorem walk_FnExactLatticeIn (a0 : Option Addr) (len0 cap0 : Nat) (z0 : List Int) (w : World) (w0 : IsRow .i64 w a0 len0 cap0 z0) (hT : Tab3 w) :
    Calls Tryd.prog 3 #[.slice a0 len0 cap0] w fun e w' => e = .returned (.bool true) ∧ Below w.heap.size w w' := by
  obtain ⟨hr0, hl0, _⟩ := w0.rds
  generalize z0.take len0 = x0 at *
  subst hl0
  by_cases hbig0 : 1048576 < x0.length
  · go_enter Tryd.func3, Tryd.ntmps3
    go_wp2_with fail
    go_ret
    exact ⟨rfl, Below.refl _ _⟩
  have hs0 : x0.length ≤ 1048576 := by omega
  have hm0 : x0.length ≤ maxLen := by unfold maxLen; omega
  clear hbig0
  generalize hf : latB x0 = y
  have HF := Lib.hid hf
  clear hf
  have HM0 := Lib.hid hm0
  clear hm0
  all_goals rcases y with _ | _
  all_goals
    go_enter Tryd.func3, Tryd.ntmps3
    go_wp2_with fail
    refine (toIntS_calls _ _ x0 _ ((hr0.below (Below.refl w.heap.size w)).more (Below.refl w.heap.size w).size) hs0).mono ?_
    rintro e ws0 ⟨vs0, rfl, os0, bs0⟩
    have B0 := Lib.hid ((Below.refl w.heap.size w).trans (bs0.mono (Below.refl w.heap.size w).size))
    obtain ⟨As0, cs0, rfl⟩ := os0.slice
    have ts0 := own_span os0
    have sbs0 := bs0.size
    go_wp2_with fail
    refine (sLatticeIn_calls _ _ x0 _ os0.rds HM0.out).mono ?_
    rintro e wS ⟨he, bS⟩
    rw [HF.out] at he
    
    subst he
    have B1 := Lib.hid ((B0.out).trans (bS.mono (B0.out).size))
    have os0_1 := os0.below bS
    have sbS := bS.size
    go_wp2_with fail
    refine (toIntS_calls _ _ x0 _ ((hr0.below (B1.out)).more (B1.out).size) hs0).mono ?_
    rintro e wp0 ⟨vp0, rfl, op0, bp0⟩
    have B2 := Lib.hid ((B1.out).trans (bp0.mono (B1.out).size))
    obtain ⟨Ap0, cp0, rfl⟩ := op0.slice
    have tp0 := own_span op0
    have sbp0 := bp0.size
    go_wp2_with fail
    refine (iLatticeIn_calls _ _ x0 _ op0.rds HM0.out (hT.below (B2.out) hT.lt)).mono ?_
    rintro e wG ⟨he, bG⟩
    rw [HF.out] at he
    
    subst he
    have B3 := Lib.hid ((B2.out).trans (bG.mono (B2.out).size))
    have op0_3 := op0.below bG
    have sbG := bG.size
    go_wp2_with fail
    refine (toIntS_calls _ _ x0 _ ((hr0.below (B3.out)).more (B3.out).size) hs0).mono ?_
    rintro e wq0 ⟨vq0, rfl, oq0, bq0⟩
    have B4 := Lib.hid ((B3.out).trans (bq0.mono (B3.out).size))
    have op0_4 := op0_3.below bq0
    obtain ⟨Aq0, cq0, rfl⟩ := oq0.slice
    have tq0 := own_span oq0
    have sbq0 := bq0.size
    go_wp2_with fail
    refine (eqIntS_calls _ _ _ _ x0 x0 _ op0_4.rds oq0.rds op0_4.len_le oq0.len_le).mono ?_
    rintro e w' ⟨he, k1, rfl⟩
    rw [eqL_refl] at he
    subst he
    have B5 := Lib.hid (below_drewN (B4.out) k1)
    go_wp2_with fail
    go_ret
    exact ⟨rfl, B5.out⟩
set_option maxHeartbeats 2000000 in
theorem walk_FnExactLatticeAdd (a0 : Option Addr) (len0 cap0 : Nat) (z0 : List Int) (a1 : Option Addr) (len1 cap1 : Nat) (z1 : List Int) (w : World) (w0 : IsRow .i64 w a0 len0 cap0 z0) (w1 : IsRow .i64 w a1 len1 cap1 z1) (hT : Tab3 w) :
    Calls Tryd.prog 4 #[.slice a0 len0 cap0, .slice a1 len1 cap1] w fun e w' => e = .returned (.bool true) ∧ Below w.heap.size w w' := by
  obtain ⟨hr0, hl0, _⟩ := w0.rds
  generalize z0.take len0 = x0 at *
  subst hl0
  obtain ⟨hr1, hl1, _⟩ := w1.rds
  generalize z1.take len1 = x1 at *
  subst hl1
  by_cases hbig0 : 1048576 < x0.length
  · go_enter Tryd.func4, Tryd.ntmps4
    go_wp2_with fail
    go_ret
    exact ⟨rfl, Below.refl _ _⟩
  have hs0 : x0.length ≤ 1048576 := by omega
  have hm0 : x0.length ≤ maxLen := by unfold maxLen; omega
  clear hbig0
  by_cases hbig1 : 1048576 < x1.length
  · go_enter Tryd.func4, Tryd.ntmps4
    go_wp2_with fail
    go_ret
    exact ⟨rfl, Below.refl _ _⟩
  have hs1 : x1.length ≤ 1048576 := by omega
  have hm1 : x1.length ≤ maxLen := by unfold maxLen; omega
  clear hbig1
  have hlen : (lvAdd x0 x1).1.length ≤ 1048576 := lvAdd_len x0 x1
  rcases hf : lvAdd x0 x1 with ⟨y, b⟩
  rw [hf] at hlen
  dsimp only at hlen
  have HF := Lib.hid hf
  clear hf
  have HM0 := Lib.hid hm0
  clear hm0
  have HM1 := Lib.hid hm1
  clear hm1
  all_goals rcases b with _ | _
  all_goals
    go_enter Tryd.func4, Tryd.ntmps4
    go_wp2_with fail
    refine (toIntS_calls _ _ x0 _ ((hr0.below (Below.refl w.heap.size w)).more (Below.refl w.heap.size w).size) hs0).mono ?_
    rintro e ws0 ⟨vs0, rfl, os0, bs0⟩
    have B0 := Lib.hid ((Below.refl w.heap.size w).trans (bs0.mono (Below.refl w.heap.size w).size))
    obtain ⟨As0, cs0, rfl⟩ := os0.slice
    have ts0 := own_span os0
    have sbs0 := bs0.size
    go_wp2_with fail
    refine (toIntS_calls _ _ x1 _ ((hr1.below (B0.out)).more (B0.out).size) hs1).mono ?_
    rintro e ws1 ⟨vs1, rfl, os1, bs1⟩
    have B1 := Lib.hid ((B0.out).trans (bs1.mono (B0.out).size))
    have os0_1 := os0.below bs1
    obtain ⟨As1, cs1, rfl⟩ := os1.slice
    have ts1 := own_span os1
    have sbs1 := bs1.size
    go_wp2_with fail
    refine (sLatticeAdd_calls _ _ _ _ x0 x1 _ os0_1.rds HM0.out os1.rds HM1.out).mono ?_
    rintro e wS ⟨vS, he, oS, bS⟩
    rw [HF.out] at he oS
    dsimp only at he oS
    subst he
    have B2 := Lib.hid ((B1.out).trans (bS.mono (B1.out).size))
    have os0_2 := os0_1.below bS
    have os1_2 := os1.below bS
    obtain ⟨AS, cS, rfl⟩ := oS.slice
    have tS := own_span oS
    have sbS := bS.size
    go_wp2_with fail
    refine (toIntS_calls _ _ x0 _ ((hr0.below (B2.out)).more (B2.out).size) hs0).mono ?_
    rintro e wp0 ⟨vp0, rfl, op0, bp0⟩
    have B3 := Lib.hid ((B2.out).trans (bp0.mono (B2.out).size))
    have oS_3 := oS.below bp0
    obtain ⟨Ap0, cp0, rfl⟩ := op0.slice
    have tp0 := own_span op0
    have sbp0 := bp0.size
    go_wp2_with fail
    refine (toIntS_calls _ _ x1 _ ((hr1.below (B3.out)).more (B3.out).size) hs1).mono ?_
    rintro e wp1 ⟨vp1, rfl, op1, bp1⟩
    have B4 := Lib.hid ((B3.out).trans (bp1.mono (B3.out).size))
    have oS_4 := oS_3.below bp1
    have op0_4 := op0.below bp1
    obtain ⟨Ap1, cp1, rfl⟩ := op1.slice
    have tp1 := own_span op1
    have sbp1 := bp1.size
    go_wp2_with fail
    refine (iLatticeAdd_calls _ _ _ _ x0 x1 _ op0_4.rds HM0.out op1.rds HM1.out (hT.below (B4.out) hT.lt)).mono ?_
    rintro e wG ⟨vG, he, oG, bG⟩
    rw [HF.out] at he oG
    dsimp only at he oG
    subst he
    have B5 := Lib.hid ((B4.out).trans (bG.mono (B4.out).size))
    have oS_5 := oS_4.below bG
    have op0_5 := op0_4.below bG
    have op1_5 := op1.below bG
    obtain ⟨AG, cG, rfl⟩ := oG.slice
    have tG := own_spanV oG
    have sbG := bG.size
    go_wp2_with fail
    refine (eqIntS_calls _ _ _ _ y y _ oG.rds oS_5.rds oG.len_le oS_5.len_le).mono ?_
    rintro e w' ⟨he, k1, rfl⟩
    rw [eqL_refl] at he
    subst he
    have B6 := Lib.hid (below_drewN (B5.out) k1)
    go_wp2_with fail
    refine (toIntS_calls _ _ x0 _ ((hr0.below (B6.out)).more (B6.out).size) hs0).mono ?_
    rintro e wq0 ⟨vq0, rfl, oq0, bq0⟩
    have B7 := Lib.hid ((B6.out).trans (bq0.mono (B6.out).size))
    have oS_7 := (oS_5.drewN k1).below bq0
    have op0_7 := (op0_5.drewN k1).below bq0
    have op1_7 := (op1_5.drewN k1).below bq0
    have oG_7 := (oG.drewN k1).below bq0
    obtain ⟨Aq0, cq0, rfl⟩ := oq0.slice
    have tq0 := own_span oq0
    have sbq0 := bq0.size
    go_wp2_with fail
    refine (eqIntS_calls _ _ _ _ x0 x0 _ op0_7.rds oq0.rds op0_7.len_le oq0.len_le).mono ?_
    rintro e w' ⟨he, k2, rfl⟩
    rw [eqL_refl] at he
    subst he
    have B8 := Lib.hid (below_drewN (B7.out) k2)
    go_wp2_with fail
    refine (toIntS_calls _ _ x1 _ ((hr1.below (B8.out)).more (B8.out).size) hs1).mono ?_
    rintro e wq1 ⟨vq1, rfl, oq1, bq1⟩
    have B9 := Lib.hid ((B8.out).trans (bq1.mono (B8.out).size))
    have oS_9 := (oS_7.drewN k2).below bq1
    have op0_9 := (op0_7.drewN k2).below bq1
    have op1_9 := (op1_7.drewN k2).below bq1
    have oG_9 := (oG_7.drewN k2).below bq1
    obtain ⟨Aq1, cq1, rfl⟩ := oq1.slice
    have tq1 := own_span oq1
    have sbq1 := bq1.size
    go_wp2_with fail
    refine (eqIntS_calls _ _ _ _ x1 x1 _ op1_9.rds oq1.rds op1_9.len_le oq1.len_le).mono ?_
    rintro e w' ⟨he, k3, rfl⟩
    rw [eqL_refl] at he
    subst he
    have B10 := Lib.hid (below_drewN (B9.out) k3)
    go_wp2_with fail
    refine (markIntS_calls _ _ x0 (1) _ _ (op0_9.drewN k3) (by omega) (by omega) (by omega)).mono ?_
    rintro e wmp0 ⟨rfl, omp0, gmp0⟩
    have B11 := Lib.hid ((B10.out).grown gmp0 (B10.out).size (fun k hk => Nat.le_trans ((B2.out).size) (tp0 k hk).1))
    have oS_11 := (oS_9.drewN k3).apart gmp0 (fun k hk => by have h1 := tp0; have h2 := (tS k hk); intro e; have h3 := h1 k e.symm; omega)
    have op1_11 := (op1_9.drewN k3).apart gmp0 (fun k hk => by have h1 := tp0; have h2 := (tp1 k hk); intro e; have h3 := h1 k e.symm; omega)
    have oG_11 := (oG_9.drewN k3).apart gmp0 (fun k hk => by have h1 := tp0; have h2 := (tG k hk); intro e; have h3 := h1 k e.symm; omega)
    go_wp2_with fail
    refine (markIntS_calls _ _ x1 (1 + x0.length) _ _ op1_11 (by omega) (by omega) (by omega)).mono ?_
    rintro e wmp1 ⟨rfl, omp1, gmp1⟩
    have B12 := Lib.hid ((B11.out).grown gmp1 (B11.out).size (fun k hk => Nat.le_trans ((B3.out).size) (tp1 k hk).1))
    have oS_12 := oS_11.apart gmp1 (fun k hk => by have h1 := tp1; have h2 := (tS k hk); intro e; have h3 := h1 k e.symm; omega)
    have op0_12 := omp0.apart gmp1 (fun k hk => by have h1 := tp1; have h2 := (tp0 k hk); intro e; have h3 := h1 k e.symm; omega)
    have oG_12 := oG_11.apart gmp1 (fun k hk => by have h1 := tp1; have h2 := (tG k hk); intro e; have h3 := h1 k e.symm; omega)
    go_wp2_with fail
    refine (eqIntS_calls _ _ _ _ y y _ oG_12.rds oS_12.rds oG_12.len_le oS_12.len_le).mono ?_
    rintro e w' ⟨he, k4, rfl⟩
    rw [eqL_refl] at he
    subst he
    have B13 := Lib.hid (below_drewN (B12.out) k4)
    go_wp2_with fail
    refine (markV_calls _ _ y (1) _ _ (oG_12.drewN k4) (by omega) (by omega) (by omega)).mono ?_
    rintro e wmG ⟨rfl, omG, gmG⟩
    have B14 := Lib.hid ((B13.out).grown gmG (B13.out).size (fun k hk => Nat.le_trans ((B4.out).size) (tG k hk).1))
    have oS_14 := (oS_12.drewN k4).apart gmG (fun k hk => by have h1 := tG; have h2 := (tS k hk); intro e; have h3 := h1 k e.symm; omega)
    go_wp2_with fail
    refine (heldIntS_calls _ _ y.length 1 _ omG.rdsM (by omega) (by omega) (by omega)).mono ?_
    rintro e w' ⟨rfl, rfl⟩
    go_wp2_with fail
    refine (toIntS_calls _ _ x0 _ ((hr0.below (B14.out)).more (B14.out).size) hs0).mono ?_
    rintro e wh0 ⟨vh0, rfl, oh0, bh0⟩
    have B15 := Lib.hid ((B14.out).trans (bh0.mono (B14.out).size))
    have oS_15 := oS_14.below bh0
    have oG_15 := omG.below bh0
    obtain ⟨Ah0, ch0, rfl⟩ := oh0.slice
    have th0 := own_span oh0
    have sbh0 := bh0.size
    go_wp2_with fail
    refine (toIntS_calls _ _ x1 _ ((hr1.below (B15.out)).more (B15.out).size) hs1).mono ?_
    rintro e wh1 ⟨vh1, rfl, oh1, bh1⟩
    have B16 := Lib.hid ((B15.out).trans (bh1.mono (B15.out).size))
    have oS_16 := oS_15.below bh1
    have oG_16 := oG_15.below bh1
    have oh0_16 := oh0.below bh1
    obtain ⟨Ah1, ch1, rfl⟩ := oh1.slice
    have th1 := own_span oh1
    have sbh1 := bh1.size
    go_wp2_with fail
    refine (iLatticeAdd_calls _ _ _ _ x0 x1 _ oh0_16.rds HM0.out oh1.rds HM1.out (hT.below (B16.out) hT.lt)).mono ?_
    rintro e wH ⟨vH, he, oH, bH⟩
    rw [HF.out] at he oH
    dsimp only at he oH
    subst he
    have B17 := Lib.hid ((B16.out).trans (bH.mono (B16.out).size))
    have oS_17 := oS_16.below bH
    have oG_17 := oG_16.below bH
    have oh0_17 := oh0_16.below bH
    have oh1_17 := oh1.below bH
    obtain ⟨AH, cH, rfl⟩ := oH.slice
    have tH := own_spanV oH
    have sbH := bH.size
    go_wp2_with fail
    refine (eqIntS_calls _ _ _ _ y y _ oH.rds oS_17.rds oH.len_le oS_17.len_le).mono ?_
    rintro e w' ⟨he, k5, rfl⟩
    rw [eqL_refl] at he
    subst he
    have B18 := Lib.hid (below_drewN (B17.out) k5)
    go_wp2_with fail
    refine (heldIntS_calls _ _ y.length 1 _ (oG_17.drewN k5).rdsM (by omega) (by omega) (by omega)).mono ?_
    rintro e w' ⟨rfl, rfl⟩
    go_wp2_with fail
    go_ret
    exact ⟨rfl, B18.out⟩
set_option maxHeartbeats 2000000 in
theorem walk_FnExactLatticeFlip (a0 : Option Addr) (len0 cap0 : Nat) (z0 : List Int) (a1 : Int) (w : World) (w0 : IsRow .i64 w a0 len0 cap0 z0) (w1 : (Lit.int .i64 a1).wf = true) (hT : TabB w) :
    Calls Tryd.prog 5 #[.slice a0 len0 cap0, .int .i64 a1] w fun e w' => e = .returned (.bool true) ∧ Below w.heap.size w w' := by
  obtain ⟨hr0, hl0, _⟩ := w0.rds
  generalize z0.take len0 = x0 at *
  subst hl0
  by_cases hbig0 : 1048576 < x0.length
  · go_enter Tryd.func5, Tryd.ntmps5
    go_wp2_with fail
    go_ret
    exact ⟨rfl, Below.refl _ _⟩
  have hs0 : x0.length ≤ 1048576 := by omega
  have hm0 : x0.length ≤ maxLen := by unfold maxLen; omega
  clear hbig0
  have hlen : (lvFlip x0 a1).1.length ≤ 1048576 := lvFlip_len x0 a1
  rcases hf : lvFlip x0 a1 with ⟨y, b⟩
  rw [hf] at hlen
  dsimp only at hlen
  have HF := Lib.hid hf
  clear hf
  have HM0 := Lib.hid hm0
  clear hm0
  all_goals rcases b with _ | _
  all_goals
    go_enter Tryd.func5, Tryd.ntmps5
    go_wp2_with fail
    refine (toIntS_calls _ _ x0 _ ((hr0.below (Below.refl w.heap.size w)).more (Below.refl w.heap.size w).size) hs0).mono ?_
    rintro e ws0 ⟨vs0, rfl, os0, bs0⟩
    have B0 := Lib.hid ((Below.refl w.heap.size w).trans (bs0.mono (Below.refl w.heap.size w).size))
    obtain ⟨As0, cs0, rfl⟩ := os0.slice
    have ts0 := own_span os0
    have sbs0 := bs0.size
    go_wp2_with fail
    refine (sLatticeFlip_calls _ _ x0 a1 _ os0.rds HM0.out).mono ?_
    rintro e wS ⟨vS, he, oS, bS⟩
    rw [HF.out] at he oS
    dsimp only at he oS
    subst he
    have B1 := Lib.hid ((B0.out).trans (bS.mono (B0.out).size))
    have os0_1 := os0.below bS
    obtain ⟨AS, cS, rfl⟩ := oS.slice
    have tS := own_span oS
    have sbS := bS.size
    go_wp2_with fail
    refine (toIntS_calls _ _ x0 _ ((hr0.below (B1.out)).more (B1.out).size) hs0).mono ?_
    rintro e wp0 ⟨vp0, rfl, op0, bp0⟩
    have B2 := Lib.hid ((B1.out).trans (bp0.mono (B1.out).size))
    have oS_2 := oS.below bp0
    obtain ⟨Ap0, cp0, rfl⟩ := op0.slice
    have tp0 := own_span op0
    have sbp0 := bp0.size
    go_wp2_with fail
    refine (iLatticeFlip_calls _ _ x0 a1 _ op0.rds HM0.out (hT.below (B2.out) hT.lt)).mono ?_
    rintro e wG ⟨vG, he, oG, bG⟩
    rw [HF.out] at he oG
    dsimp only at he oG
    subst he
    have B3 := Lib.hid ((B2.out).trans (bG.mono (B2.out).size))
    have oS_3 := oS_2.below bG
    have op0_3 := op0.below bG
    obtain ⟨AG, cG, rfl⟩ := oG.slice
    have tG := own_spanV oG
    have sbG := bG.size
    go_wp2_with fail
    refine (eqIntS_calls _ _ _ _ y y _ oG.rds oS_3.rds oG.len_le oS_3.len_le).mono ?_
    rintro e w' ⟨he, k1, rfl⟩
    rw [eqL_refl] at he
    subst he
    have B4 := Lib.hid (below_drewN (B3.out) k1)
    go_wp2_with fail
    refine (toIntS_calls _ _ x0 _ ((hr0.below (B4.out)).more (B4.out).size) hs0).mono ?_
    rintro e wq0 ⟨vq0, rfl, oq0, bq0⟩
    have B5 := Lib.hid ((B4.out).trans (bq0.mono (B4.out).size))
    have oS_5 := (oS_3.drewN k1).below bq0
    have op0_5 := (op0_3.drewN k1).below bq0
    have oG_5 := (oG.drewN k1).below bq0
    obtain ⟨Aq0, cq0, rfl⟩ := oq0.slice
    have tq0 := own_span oq0
    have sbq0 := bq0.size
    go_wp2_with fail
    refine (eqIntS_calls _ _ _ _ x0 x0 _ op0_5.rds oq0.rds op0_5.len_le oq0.len_le).mono ?_
    rintro e w' ⟨he, k2, rfl⟩
    rw [eqL_refl] at he
    subst he
    have B6 := Lib.hid (below_drewN (B5.out) k2)
    go_wp2_with fail
    refine (markIntS_calls _ _ x0 (1) _ _ (op0_5.drewN k2) (by omega) (by omega) (by omega)).mono ?_
    rintro e wmp0 ⟨rfl, omp0, gmp0⟩
    have B7 := Lib.hid ((B6.out).grown gmp0 (B6.out).size (fun k hk => Nat.le_trans ((B1.out).size) (tp0 k hk).1))
    have oS_7 := (oS_5.drewN k2).apart gmp0 (fun k hk => by have h1 := tp0; have h2 := (tS k hk); intro e; have h3 := h1 k e.symm; omega)
    have oG_7 := (oG_5.drewN k2).apart gmp0 (fun k hk => by have h1 := tp0; have h2 := (tG k hk); intro e; have h3 := h1 k e.symm; omega)
    go_wp2_with fail
    refine (eqIntS_calls _ _ _ _ y y _ oG_7.rds oS_7.rds oG_7.len_le oS_7.len_le).mono ?_
    rintro e w' ⟨he, k3, rfl⟩
    rw [eqL_refl] at he
    subst he
    have B8 := Lib.hid (below_drewN (B7.out) k3)
    go_wp2_with fail
    refine (markV_calls _ _ y (1) _ _ (oG_7.drewN k3) (by omega) (by omega) (by omega)).mono ?_
    rintro e wmG ⟨rfl, omG, gmG⟩
    have B9 := Lib.hid ((B8.out).grown gmG (B8.out).size (fun k hk => Nat.le_trans ((B2.out).size) (tG k hk).1))
    have oS_9 := (oS_7.drewN k3).apart gmG (fun k hk => by have h1 := tG; have h2 := (tS k hk); intro e; have h3 := h1 k e.symm; omega)
    go_wp2_with fail
    refine (heldIntS_calls _ _ y.length 1 _ omG.rdsM (by omega) (by omega) (by omega)).mono ?_
    rintro e w' ⟨rfl, rfl⟩
    go_wp2_with fail
    refine (toIntS_calls _ _ x0 _ ((hr0.below (B9.out)).more (B9.out).size) hs0).mono ?_
    rintro e wh0 ⟨vh0, rfl, oh0, bh0⟩
    have B10 := Lib.hid ((B9.out).trans (bh0.mono (B9.out).size))
    have oS_10 := oS_9.below bh0
    have oG_10 := omG.below bh0
    obtain ⟨Ah0, ch0, rfl⟩ := oh0.slice
    have th0 := own_span oh0
    have sbh0 := bh0.size
    go_wp2_with fail
    refine (iLatticeFlip_calls _ _ x0 a1 _ oh0.rds HM0.out (hT.below (B10.out) hT.lt)).mono ?_
    rintro e wH ⟨vH, he, oH, bH⟩
    rw [HF.out] at he oH
    dsimp only at he oH
    subst he
    have B11 := Lib.hid ((B10.out).trans (bH.mono (B10.out).size))
    have oS_11 := oS_10.below bH
    have oG_11 := oG_10.below bH
    have oh0_11 := oh0.below bH
    obtain ⟨AH, cH, rfl⟩ := oH.slice
    have tH := own_spanV oH
    have sbH := bH.size
    go_wp2_with fail
    refine (eqIntS_calls _ _ _ _ y y _ oH.rds oS_11.rds oH.len_le oS_11.len_le).mono ?_
    rintro e w' ⟨he, k4, rfl⟩
    rw [eqL_refl] at he
    subst he
    have B12 := Lib.hid (below_drewN (B11.out) k4)
    go_wp2_with fail
    refine (heldIntS_calls _ _ y.length 1 _ (oG_11.drewN k4).rdsM (by omega) (by omega) (by omega)).mono ?_
    rintro e w' ⟨rfl, rfl⟩
    go_wp2_with fail
    go_ret
    exact ⟨rfl, B12.out⟩
set_option maxHeartbeats 2000000 in
theorem walk_FnExactLatticeOctad (a0 : Int) (a1 : Int) (w : World) (w0 : (Lit.int .i64 a0).wf = true) (w1 : (Lit.int .i64 a1).wf = true) (hT : Tab3 w) :
    Calls Tryd.prog 6 #[.int .i64 a0, .int .i64 a1] w fun e w' => e = .returned (.bool true) ∧ Below w.heap.size w w' := by
  have hlen : (lvOct a0 a1).1.length ≤ 1048576 := lvOct_len a0 a1
  rcases hf : lvOct a0 a1 with ⟨y, b⟩
  rw [hf] at hlen
  dsimp only at hlen
  have HF := Lib.hid hf
  clear hf
  all_goals rcases b with _ | _
  all_goals
    go_enter Tryd.func6, Tryd.ntmps6
    go_wp2_with fail
    refine (sLatticeOctad_calls a0 a1 _).mono ?_
    rintro e wS ⟨vS, he, oS, bS⟩
    rw [HF.out] at he oS
    dsimp only at he oS
    subst he
    have B0 := Lib.hid ((Below.refl w.heap.size w).trans (bS.mono (Below.refl w.heap.size w).size))
    obtain ⟨AS, cS, rfl⟩ := oS.slice
    have tS := own_span oS
    have sbS := bS.size
    go_wp2_with fail
    refine (iLatticeOctad_calls a0 a1 _ (hT.below (B0.out) hT.lt)).mono ?_
    rintro e wG ⟨vG, he, oG, bG⟩
    rw [HF.out] at he oG
    dsimp only at he oG
    subst he
    have B1 := Lib.hid ((B0.out).trans (bG.mono (B0.out).size))
    have oS_1 := oS.below bG
    obtain ⟨AG, cG, rfl⟩ := oG.slice
    have tG := own_spanV oG
    have sbG := bG.size
    go_wp2_with fail
    refine (eqIntS_calls _ _ _ _ y y _ oG.rds oS_1.rds oG.len_le oS_1.len_le).mono ?_
    rintro e w' ⟨he, k1, rfl⟩
    rw [eqL_refl] at he
    subst he
    have B2 := Lib.hid (below_drewN (B1.out) k1)
    go_wp2_with fail
    refine (markV_calls _ _ y (1) _ _ (oG.drewN k1) (by omega) (by omega) (by omega)).mono ?_
    rintro e wmG ⟨rfl, omG, gmG⟩
    have B3 := Lib.hid ((B2.out).grown gmG (B2.out).size (fun k hk => Nat.le_trans ((B0.out).size) (tG k hk).1))
    have oS_3 := (oS_1.drewN k1).apart gmG (fun k hk => by have h1 := tG; have h2 := (tS k hk); intro e; have h3 := h1 k e.symm; omega)
    go_wp2_with fail
    refine (heldIntS_calls _ _ y.length 1 _ omG.rdsM (by omega) (by omega) (by omega)).mono ?_
    rintro e w' ⟨rfl, rfl⟩
    go_wp2_with fail
    refine (iLatticeOctad_calls a0 a1 _ (hT.below (B3.out) hT.lt)).mono ?_
    rintro e wH ⟨vH, he, oH, bH⟩
    rw [HF.out] at he oH
    dsimp only at he oH
    subst he
    have B4 := Lib.hid ((B3.out).trans (bH.mono (B3.out).size))
    have oS_4 := oS_3.below bH
    have oG_4 := omG.below bH
    obtain ⟨AH, cH, rfl⟩ := oH.slice
    have tH := own_spanV oH
    have sbH := bH.size
    go_wp2_with fail
    refine (eqIntS_calls _ _ _ _ y y _ oH.rds oS_4.rds oH.len_le oS_4.len_le).mono ?_
    rintro e w' ⟨he, k2, rfl⟩
    rw [eqL_refl] at he
    subst he
    have B5 := Lib.hid (below_drewN (B4.out) k2)
    go_wp2_with fail
    refine (heldIntS_calls _ _ y.length 1 _ (oG_4.drewN k2).rdsM (by omega) (by omega) (by omega)).mono ?_
    rintro e w' ⟨rfl, rfl⟩
    go_wp2_with fail
    go_ret
    exact ⟨rfl, B5.out⟩
set_option maxHeartbeats 2000000 in
theorem walk_FnExactLatticeThree (a0 : Int) (a1 : Int) (w : World) (w0 : (Lit.int .i64 a0).wf = true) (w1 : (Lit.int .i64 a1).wf = true) (hT : Tab3 w) :
    Calls Tryd.prog 7 #[.int .i64 a0, .int .i64 a1] w fun e w' => e = .returned (.bool true) ∧ Below w.heap.size w w' := by
  have hlen : (lvThree a0 a1).1.length ≤ 1048576 := lvThree_len a0 a1
  rcases hf : lvThree a0 a1 with ⟨y, b⟩
  rw [hf] at hlen
  dsimp only at hlen
  have HF := Lib.hid hf
  clear hf
  all_goals rcases b with _ | _
  all_goals
    go_enter Tryd.func7, Tryd.ntmps7
    go_wp2_with fail
    refine (sLatticeThree_calls a0 a1 _).mono ?_
    rintro e wS ⟨vS, he, oS, bS⟩
    rw [HF.out] at he oS
    dsimp only at he oS
    subst he
    have B0 := Lib.hid ((Below.refl w.heap.size w).trans (bS.mono (Below.refl w.heap.size w).size))
    obtain ⟨AS, cS, rfl⟩ := oS.slice
    have tS := own_span oS
    have sbS := bS.size
    go_wp2_with fail
    refine (iLatticeThree_calls a0 a1 _ (hT.below (B0.out) hT.lt)).mono ?_
    rintro e wG ⟨vG, he, oG, bG⟩
    rw [HF.out] at he oG
    dsimp only at he oG
    subst he
    have B1 := Lib.hid ((B0.out).trans (bG.mono (B0.out).size))
    have oS_1 := oS.below bG
    obtain ⟨AG, cG, rfl⟩ := oG.slice
    have tG := own_spanV oG
    have sbG := bG.size
    go_wp2_with fail
    refine (eqIntS_calls _ _ _ _ y y _ oG.rds oS_1.rds oG.len_le oS_1.len_le).mono ?_
    rintro e w' ⟨he, k1, rfl⟩
    rw [eqL_refl] at he
    subst he
    have B2 := Lib.hid (below_drewN (B1.out) k1)
    go_wp2_with fail
    refine (markV_calls _ _ y (1) _ _ (oG.drewN k1) (by omega) (by omega) (by omega)).mono ?_
    rintro e wmG ⟨rfl, omG, gmG⟩
    have B3 := Lib.hid ((B2.out).grown gmG (B2.out).size (fun k hk => Nat.le_trans ((B0.out).size) (tG k hk).1))
    have oS_3 := (oS_1.drewN k1).apart gmG (fun k hk => by have h1 := tG; have h2 := (tS k hk); intro e; have h3 := h1 k e.symm; omega)
    go_wp2_with fail
    refine (heldIntS_calls _ _ y.length 1 _ omG.rdsM (by omega) (by omega) (by omega)).mono ?_
    rintro e w' ⟨rfl, rfl⟩
    go_wp2_with fail
    refine (iLatticeThree_calls a0 a1 _ (hT.below (B3.out) hT.lt)).mono ?_
    rintro e wH ⟨vH, he, oH, bH⟩
    rw [HF.out] at he oH
    dsimp only at he oH
    subst he
    have B4 := Lib.hid ((B3.out).trans (bH.mono (B3.out).size))
    have oS_4 := oS_3.below bH
    have oG_4 := omG.below bH
    obtain ⟨AH, cH, rfl⟩ := oH.slice
    have tH := own_spanV oH
    have sbH := bH.size
    go_wp2_with fail
    refine (eqIntS_calls _ _ _ _ y y _ oH.rds oS_4.rds oH.len_le oS_4.len_le).mono ?_
    rintro e w' ⟨he, k2, rfl⟩
    rw [eqL_refl] at he
    subst he
    have B5 := Lib.hid (below_drewN (B4.out) k2)
    go_wp2_with fail
    refine (heldIntS_calls _ _ y.length 1 _ (oG_4.drewN k2).rdsM (by omega) (by omega) (by omega)).mono ?_
    rintro e w' ⟨rfl, rfl⟩
    go_wp2_with fail
    go_ret
    exact ⟨rfl, B5.out⟩
set_option maxHeartbeats 2000000 in
theorem walk_FnExactLatticeFour (a0 : Int) (a1 : Int) (a2 : Bool) (a3 : Bool) (w : World) (w0 : (Lit.int .i64 a0).wf = true) (w1 : (Lit.int .i64 a1).wf = true) (hT : TabB w) :
    Calls Tryd.prog 8 #[.int .i64 a0, .int .i64 a1, .bool a2, .bool a3] w fun e w' => e = .returned (.bool true) ∧ Below w.heap.size w w' := by
  have hlen : (lvFour a0 a1 a2 a3).1.length ≤ 1048576 := lvFour_len a0 a1 a2 a3
  rcases hf : lvFour a0 a1 a2 a3 with ⟨y, b⟩
  rw [hf] at hlen
  dsimp only at hlen
  have HF := Lib.hid hf
  clear hf
  all_goals rcases b with _ | _
  all_goals
    go_enter Tryd.func8, Tryd.ntmps8
    go_wp2_with fail
    refine (sLatticeFour_calls a0 a1 a2 a3 _).mono ?_
    rintro e wS ⟨vS, he, oS, bS⟩
    rw [HF.out] at he oS
    dsimp only at he oS
    subst he
    have B0 := Lib.hid ((Below.refl w.heap.size w).trans (bS.mono (Below.refl w.heap.size w).size))
    obtain ⟨AS, cS, rfl⟩ := oS.slice
    have tS := own_span oS
    have sbS := bS.size
    go_wp2_with fail
    refine (iLatticeFour_calls a0 a1 a2 a3 _ (hT.below (B0.out) hT.lt)).mono ?_
    rintro e wG ⟨vG, he, oG, bG⟩
    rw [HF.out] at he oG
    dsimp only at he oG
    subst he
    have B1 := Lib.hid ((B0.out).trans (bG.mono (B0.out).size))
    have oS_1 := oS.below bG
    obtain ⟨AG, cG, rfl⟩ := oG.slice
    have tG := own_spanV oG
    have sbG := bG.size
    go_wp2_with fail
    refine (eqIntS_calls _ _ _ _ y y _ oG.rds oS_1.rds oG.len_le oS_1.len_le).mono ?_
    rintro e w' ⟨he, k1, rfl⟩
    rw [eqL_refl] at he
    subst he
    have B2 := Lib.hid (below_drewN (B1.out) k1)
    go_wp2_with fail
    refine (markV_calls _ _ y (1) _ _ (oG.drewN k1) (by omega) (by omega) (by omega)).mono ?_
    rintro e wmG ⟨rfl, omG, gmG⟩
    have B3 := Lib.hid ((B2.out).grown gmG (B2.out).size (fun k hk => Nat.le_trans ((B0.out).size) (tG k hk).1))
    have oS_3 := (oS_1.drewN k1).apart gmG (fun k hk => by have h1 := tG; have h2 := (tS k hk); intro e; have h3 := h1 k e.symm; omega)
    go_wp2_with fail
    refine (heldIntS_calls _ _ y.length 1 _ omG.rdsM (by omega) (by omega) (by omega)).mono ?_
    rintro e w' ⟨rfl, rfl⟩
    go_wp2_with fail
    refine (iLatticeFour_calls a0 a1 a2 a3 _ (hT.below (B3.out) hT.lt)).mono ?_
    rintro e wH ⟨vH, he, oH, bH⟩
    rw [HF.out] at he oH
    dsimp only at he oH
    subst he
    have B4 := Lib.hid ((B3.out).trans (bH.mono (B3.out).size))
    have oS_4 := oS_3.below bH
    have oG_4 := omG.below bH
    obtain ⟨AH, cH, rfl⟩ := oH.slice
    have tH := own_spanV oH
    have sbH := bH.size
    go_wp2_with fail
    refine (eqIntS_calls _ _ _ _ y y _ oH.rds oS_4.rds oH.len_le oS_4.len_le).mono ?_
    rintro e w' ⟨he, k2, rfl⟩
    rw [eqL_refl] at he
    subst he
    have B5 := Lib.hid (below_drewN (B4.out) k2)
    go_wp2_with fail
    refine (heldIntS_calls _ _ y.length 1 _ (oG_4.drewN k2).rdsM (by omega) (by omega) (by omega)).mono ?_
    rintro e w' ⟨rfl, rfl⟩
    go_wp2_with fail
    go_ret
    exact ⟨rfl, B5.out⟩
end Go.Proofs.YtmeejnkpaiinaaaDoor
