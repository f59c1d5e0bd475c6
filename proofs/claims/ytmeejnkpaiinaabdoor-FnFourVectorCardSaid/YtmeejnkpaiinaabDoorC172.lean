/- The lattice of the program: LatticeIn, LatticeAdd. -/
import Derived.Test.YtmeejnkpaiinaabDoorC171
namespace Go.Proofs.YtmeejnkpaiinaabDoor
open Go.RowKit
set_option linter.unusedVariables false
set_option linter.unusedSimpArgs false
attribute [local irreducible] cN syn

set_option maxRecDepth 100000 in
set_option maxHeartbeats 2000000 in
theorem iLatticeIn_calls (A : Option Addr) (c : Nat) (xs : List Int) (w : World) (ha : Rds w w.heap.size .i64 A xs) (hx : xs.length ≤ maxLen) (hT : Tab3 w) :
    Calls Tryd.prog 11 #[.slice A xs.length c] w fun e w' => e = .returned (.bool (latB xs)) ∧ Below w.heap.size w w' := by
  have hT0 := hT.lt
  have HF := Lib.hid (vecFrom_calls A c xs w ha hx)
  have HI := Lib.hid (vcInfoL (vcL xs) (vcL_len xs))
  have HSZ := Lib.hid (show (VL z24).size = (VL (vcL xs)).size by rw [VL_size, VL_size, vcL_len]; rfl)
  have HALL := Lib.hid (VL_all (vcL xs))
  rcases hb : vecB xs with _ | _
  · rw [show latB xs = false by simp [latB, hb]]
    rw [hb] at HF
    clear ha hx hb
    generalize xs.length = n at *
    generalize VL (vcL xs) = V at *
    go_enter Tryd.func11, Tryd.ntmps11
    go_wp2_with fail
    refine HF.out.mono ?_
    rintro e w1 ⟨rfl, b1⟩
    have HN := Lib.hid (Blk.new w1 48 (VL z24))
    have HB := Lib.hid (b1.alloc b1.size (.cells (VL z24) 48))
    have hw1 := b1.size
    clear b1
    go_wp2_with (refine wpList_store_row rfl 48 _ _ rfl w1.heap.size V rfl rfl 48 (VL z24) HN.out HI.out HSZ.out HALL.out ?_)
    go_ret
    exact ⟨rfl, bel_row HB.out hw1⟩
  · rw [show latB xs = inF (atL xs) by simp [latB, hb]]
    have HL := Lib.hid (fun W h => inLattice_calls xs W hb h)
    rw [hb] at HF
    rw [vcL_yes (vecB_len hb)] at HF HI HSZ HALL
    clear ha hx hb
    generalize xs.length = n at *
    generalize inF (atL xs) = q at *
    generalize VL xs = V at *
    go_enter Tryd.func11, Tryd.ntmps11
    go_wp2_with fail
    refine HF.out.mono ?_
    rintro e w1 ⟨rfl, b1⟩
    have HN := Lib.hid (Blk.new w1 48 (VL z24))
    have HB := Lib.hid (bel_row (T := V) (b1.alloc b1.size (.cells (VL z24) 48)) b1.size)
    have HV := Lib.hid (setRow_heap _ _ _ V _ _ HN.out)
    clear b1
    go_wp2_with (first
      | (refine wpList_store_row rfl 48 _ _ rfl w1.heap.size V rfl rfl 48 (VL z24) HN.out HI.out HSZ.out HALL.out ?_)
      | (refine wpList_load_rowW (by first | rfl | (simp [go_sem]; done)) 48 _ rfl w1.heap.size rfl 48 V (0, 0) _ HV.out Tryd.underlying48 rfl HI.out ?_))
    refine (HL.out _ (hT.below HB.out hT0)).mono ?_
    rintro e w2 ⟨rfl, b2⟩
    have HB2 := Lib.hid (HB.out.trans (b2.mono HB.out.size))
    clear b2
    go_wp2_with fail
    go_ret
    exact ⟨rfl, HB2.out⟩
set_option maxRecDepth 100000 in
set_option maxHeartbeats 2000000 in
theorem vadd_calls (xs ys : List Int) (w : World) (hx : vecB xs = true) (hy : vecB ys = true) :
    Calls Tryd.prog 46 #[.agg (VL xs), .agg (VL ys)] w fun e w' => e = .returned (.agg (VL (addL xs ys))) ∧ Below w.heap.size w w' := by
  have hlx := vecB_len hx
  have hly := vecB_len hy
  have hlt : (addL xs ys).length = 24 := vL_len _
  have HAT := Lib.hid (fun k (hk : k < 24) => show (addL xs ys).getD k 0 = atL xs k + atL ys k from vL_get _ k hk)
  have HMG := Lib.hid (fun k (hk : k < 24) => show (mixL (addL xs ys) xs k).getD k 0 = atL xs k by
    unfold mixL
    show ((addL xs ys).take k ++ xs.drop k)[k]?.getD 0 = xs[k]?.getD 0
    rw [List.getElem?_append_right (by rw [List.length_take]; omega), List.length_take, List.getElem?_drop, show k + (k - min k (addL xs ys).length) = k by omega])
  have HRX := Lib.hid (fun k => vecB_rng hx k)
  have HRY := Lib.hid (fun k => vecB_rng hy k)
  have HY := Lib.hid (vcInfoL ys hly)
  have HT := Lib.hid (vcInfoL (addL xs ys) hlt)
  have HTS := Lib.hid (show (VL z24).size = (VL (addL xs ys)).size by rw [VL_size, VL_size, hlt]; rfl)
  have HTA := Lib.hid (VL_all (addL xs ys))
  have HIY := Lib.hid (fun k hk W => vdx24 ys hly k hk W)
  have HM := Lib.hid (fun k (hk : k ≤ 24) => mixL_len (addL xs ys) xs k hlt hlx hk)
  have HMS := Lib.hid (fun k (hk : k < 24) => mixL_set (addL xs ys) xs k hlt hlx hk)
  have HM24 := Lib.hid (mixL_all (addL xs ys) xs hlt hlx)
  have HVX := Lib.hid (show VL xs = VL (mixL (addL xs ys) xs 0) by rw [mixL_zero])
  generalize addL xs ys = ts at *
  generalize hVX : VL xs = VX at *
  generalize hVY : VL ys = VY at *
  clear hVX hVY hlx hly hlt hx hy
  go_enter Tryd.func46, Tryd.ntmps46
  go_wp2_with (first
    | (refine wpList_load_row rfl 48 _ rfl (w.heap.size + 1) rfl 48 VY (0, 0) _ (three_heap w _ _ _).2.1 Tryd.underlying48 rfl HY.out ?_))
  go_loopw [8] (fun i wr => ∃ p : Nat, p ≤ 24 ∧ i = .int .i64 p ∧ Hid (wr.heap[w.heap.size]? = some (.cells (VL (mixL ts xs p)) 48 (0, 0))) ∧ Hid (wr.heap[w.heap.size + 2]? = some (.cells (VL z24) 48 (0, 0))) ∧ Hid (Below w.heap.size w wr)) (fun i _ => 24 - (intOf i).toNat)
  case atStart => exact ⟨0, by omega, rfl, Lib.hid (by rw [← HVX.out]; exact (three_heap w _ _ _).1), Lib.hid (three_heap w _ _ _).2.2.1, Lib.hid (three_heap w _ _ _).2.2.2⟩
  case round =>
    obtain ⟨p, hp, rfl, h1, h2, hbl⟩ := hrel
    by_cases hlt : p < 24
    · have hp1 : (0 : Int) ≤ (p : Int) := by omega
      have hp2 : (p : Int) < 24 := by omega
      have hiy := HIY.out p hlt
      have hcx := VL_at (j := p) _ (by rw [HM.out p hp]; exact hlt) h1.out
      rw [HMG.out p hlt] at hcx
      have hfx : wr.frozen? ⟨w.heap.size, p, none⟩ = false := Lib.frozen_of_heap h1.out _
      have HF := Lib.hid (fun X => row_set (X := X) h1.out (Nat.le_refl _) hbl.out (HMS.out p hlt))
      rw [HAT.out p hlt] at HF
      have r1 := HRX.out p
      have r2 := HRY.out p
      generalize atL xs p = x at *
      generalize atL ys p = y at *
      have hw1 : wrap64 (x + y) = x + y := wrap64_of _ (by omega) (by omega)
      go_wp2_with fail
      go_roundw
      case rel =>
        refine ⟨p + 1, by omega, by go_num, Lib.hid ?_, Lib.hid ?_, Lib.hid ?_⟩
        · exact (HF.out _ rfl ⟨rfl, rfl, rfl⟩).1
        · exact ((HF.out _ rfl ⟨rfl, rfl, rfl⟩).2.1 _ (by omega)).trans h2.out
        · exact (HF.out _ rfl ⟨rfl, rfl, rfl⟩).2.2
      case measure => simp [intOf]; omega
    · obtain rfl : p = 24 := by omega
      have h1' := h1.out
      rw [HM24.out] at h1'
      have H1 := Lib.hid h1'
      clear h1'
      go_wp2_with (first
        | (refine wpList_load_row rfl 48 _ rfl w.heap.size rfl 48 (VL ts) (0, 0) _ H1.out Tryd.underlying48 rfl HT.out ?_)
        | (refine wpList_store_row rfl 48 _ _ rfl (w.heap.size + 2) (VL ts) rfl rfl 48 (VL z24) h2.out HT.out HTS.out HTA.out ?_))
      exact bodyPost_ret (results_c rfl rfl (setRow_heap _ _ _ _ _ _ h2.out : Blk _ _ _ _) Tryd.underlying48 rfl HT.out) rfl ⟨rfl, bel_row hbl.out (by omega)⟩
set_option maxRecDepth 100000 in
set_option maxHeartbeats 4000000 in
theorem iLatticeAdd_calls (A A2 : Option Addr) (c c2 : Nat) (xs ys : List Int) (w : World) (ha : Rds w w.heap.size .i64 A xs) (hx : xs.length ≤ maxLen) (ha2 : Rds w w.heap.size .i64 A2 ys) (hy : ys.length ≤ maxLen) (hT : Tab3 w) :
    Calls Tryd.prog 16 #[.slice A xs.length c, .slice A2 ys.length c2] w (GotV w (lvAdd xs ys).1 (lvAdd xs ys).2) := by
  have hT0 := hT.lt
  have HF := Lib.hid (twoFrom_calls A A2 c c2 xs ys w ha hx ha2 hy)
  have hl1 := tw_len xs ys xs (fun h _ => vecB_len h)
  have hl2 := tw_len xs ys ys (fun _ h => vecB_len h)
  have HI := Lib.hid (vcInfoL _ hl1)
  have HI2 := Lib.hid (vcInfoL _ hl2)
  have HSZ := Lib.hid (show (VL z24).size = (VL (tw xs ys xs)).size by rw [VL_size, VL_size, hl1]; rfl)
  have HSZ2 := Lib.hid (show (VL z24).size = (VL (tw xs ys ys)).size by rw [VL_size, VL_size, hl2]; rfl)
  have HALL := Lib.hid (VL_all (tw xs ys xs))
  have HALL2 := Lib.hid (VL_all (tw xs ys ys))
  have HT1 := Lib.hid (show vecB xs = true → vecB ys = true → tw xs ys xs = xs by intro h1 h2; simp [tw, h1, h2])
  have HT2 := Lib.hid (show vecB xs = true → vecB ys = true → tw xs ys ys = ys by intro h1 h2; simp [tw, h1, h2])
  clear hl1 hl2
  rcases hb : (vecB xs && vecB ys) with _ | _
  · rw [show lvAdd xs ys = ([], false) by
      unfold lvAdd latB
      rcases Bool.and_eq_false_iff.1 hb with h | h <;> simp [h]]
    rw [hb] at HF
    clear ha hx ha2 hy hb HT1 HT2
    generalize xs.length = n at *
    generalize ys.length = n2 at *
    generalize VL (tw xs ys xs) = V at *
    generalize VL (tw xs ys ys) = V2 at *
    go_enter Tryd.func16, Tryd.ntmps16
    go_wp2_with fail
    refine HF.out.mono ?_
    rintro e w1 ⟨rfl, b1⟩
    have H2 := two_heapV w1 (.cells (VL z24) 48) (.cells (VL z24) 48)
    have N0 := Lib.hid H2.1
    have N1 := Lib.hid H2.2.1
    have NB := Lib.hid (b1.trans (H2.2.2.mono b1.size))
    have hsz := b1.size
    clear H2 b1
    have N2 := Lib.hid ((setRow_other _ w1.heap.size (w1.heap.size + 1) V (by omega)).trans N1.out)
    go_wp2_with (first
      | (refine wpList_store_row rfl 48 _ _ rfl w1.heap.size V rfl rfl 48 (VL z24) N0.out HI.out HSZ.out HALL.out ?_)
      | (refine wpList_store_row rfl 48 _ _ rfl (w1.heap.size + 1) V2 rfl rfl 48 (VL z24) N2.out HI2.out HSZ2.out HALL2.out ?_))
    go_ret2
    exact ⟨_, rfl, OwnV.nil_ _ _, bel_row (bel_row NB.out hsz) (by omega)⟩
  · rw [hb] at HF
    have hb' := hb
    simp only [Bool.and_eq_true] at hb'
    rw [HT1.out hb'.1 hb'.2] at HF HI HSZ HALL
    rw [HT2.out hb'.1 hb'.2] at HF HI2 HSZ2 HALL2
    have HL1 := Lib.hid (fun W h => inLattice_calls xs W hb'.1 h)
    have HL2 := Lib.hid (fun W h => inLattice_calls ys W hb'.2 h)
    have HAD := Lib.hid (fun W => vadd_calls xs ys W hb'.1 hb'.2)
    have hla : (addL xs ys).length = 24 := vL_len _
    have HWI := Lib.hid (fun W => within_calls (addL xs ys) W hla)
    have HLI := Lib.hid (fun W => vecList_calls (addL xs ys) W hla)
    have HI3 := Lib.hid (vcInfoL (addL xs ys) hla)
    have HSZ3 := Lib.hid (show (VL z24).size = (VL (addL xs ys)).size by rw [VL_size, VL_size, hla]; rfl)
    have HALL3 := Lib.hid (VL_all (addL xs ys))
    have hlv : lvAdd xs ys = if inF (atL xs) && inF (atL ys) && vecB (addL xs ys) then (addL xs ys, true) else ([], false) := by simp [lvAdd, latB, hb'.1, hb'.2]
    obtain ⟨R, hR⟩ : ∃ R, lvAdd xs ys = R := ⟨_, rfl⟩
    rw [hR] at hlv ⊢
    have HR := Lib.hid hlv
    clear ha hx ha2 hy hb hb' HT1 HT2 hla hlv hR
    generalize xs.length = n at *
    generalize ys.length = n2 at *
    generalize inF (atL xs) = q1 at *
    generalize inF (atL ys) = q2 at *
    generalize vecB (addL xs ys) = q3 at *
    generalize addL xs ys = ts at *
    generalize VL xs = V at *
    generalize VL ys = V2 at *
    generalize VL ts = V3 at *
    go_enter Tryd.func16, Tryd.ntmps16
    go_wp2_with fail
    refine HF.out.mono ?_
    rintro e w1 ⟨rfl, b1⟩
    have H2 := two_heapV w1 (.cells (VL z24) 48) (.cells (VL z24) 48)
    have N0 := Lib.hid H2.1
    have N1 := Lib.hid H2.2.1
    have NB := Lib.hid (b1.trans (H2.2.2.mono b1.size))
    have hsz := b1.size
    clear H2 b1
    have N2 := Lib.hid ((setRow_other _ w1.heap.size (w1.heap.size + 1) V (by omega)).trans N1.out)
    have M1 := Lib.hid (setRow_heap _ _ _ V2 _ _ N2.out)
    have M0 := Lib.hid ((setRow_other _ (w1.heap.size + 1) w1.heap.size V2 (by omega)).trans (setRow_heap _ _ _ V _ _ N0.out))
    have MB := Lib.hid (bel_row (T := V2) (bel_row (T := V) NB.out hsz) (show w.heap.size ≤ w1.heap.size + 1 by omega))
    go_wp2_with (first
      | (refine wpList_store_row rfl 48 _ _ rfl w1.heap.size V rfl rfl 48 (VL z24) N0.out HI.out HSZ.out HALL.out ?_)
      | (refine wpList_store_row rfl 48 _ _ rfl (w1.heap.size + 1) V2 rfl rfl 48 (VL z24) N2.out HI2.out HSZ2.out HALL2.out ?_)
      | (refine wpList_load_rowW (by first | rfl | (simp [go_sem]; done)) 48 _ rfl w1.heap.size rfl 48 V (0, 0) _ M0.out Tryd.underlying48 rfl HI.out ?_))
    refine (HL1.out _ (hT.below MB.out hT0)).mono ?_
    rintro e w2 ⟨rfl, b2⟩
    have lt0 := (Array.getElem?_eq_some_iff.1 M0.out).1
    have lt1 := (Array.getElem?_eq_some_iff.1 M1.out).1
    have P0 := Lib.hid ((b2.block _ lt0).trans M0.out)
    have P1 := Lib.hid ((b2.block _ lt1).trans M1.out)
    have PB := Lib.hid (MB.out.trans (b2.mono MB.out.size))
    clear b2 M0 M1 MB N0 N1 N2 NB
    cases q1
    · have hR : R = ([], false) := by rw [HR.out]; rfl
      subst hR
      go_wp2_with fail
      go_ret2
      exact ⟨_, rfl, OwnV.nil_ _ _, PB.out⟩
    go_wp2_with (refine wpList_load_rowW (by first | rfl | (simp [go_sem]; done)) 48 _ rfl (w1.heap.size + 1) rfl 48 V2 (0, 0) _ P1.out Tryd.underlying48 rfl HI2.out ?_)
    refine (HL2.out _ (hT.below PB.out hT0)).mono ?_
    rintro e w3 ⟨rfl, b3⟩
    have lt0 := (Array.getElem?_eq_some_iff.1 P0.out).1
    have lt1 := (Array.getElem?_eq_some_iff.1 P1.out).1
    have R0 := Lib.hid ((b3.block _ lt0).trans P0.out)
    have R1 := Lib.hid ((b3.block _ lt1).trans P1.out)
    have RB := Lib.hid (PB.out.trans (b3.mono PB.out.size))
    clear b3 P0 P1 PB
    cases q2
    · have hR : R = ([], false) := by rw [HR.out]; rfl
      subst hR
      go_wp2_with fail
      go_ret2
      exact ⟨_, rfl, OwnV.nil_ _ _, RB.out⟩
    go_wp2_with (first
      | (refine wpList_load_row rfl 48 _ rfl w1.heap.size rfl 48 V (0, 0) _ R0.out Tryd.underlying48 rfl HI.out ?_)
      | (refine wpList_load_row rfl 48 _ rfl (w1.heap.size + 1) rfl 48 V2 (0, 0) _ R1.out Tryd.underlying48 rfl HI2.out ?_))
    refine (HAD.out _).mono ?_
    rintro e w4 ⟨rfl, b4⟩
    have SB := Lib.hid (RB.out.trans (b4.mono RB.out.size))
    have S0 := Lib.hid (heap_alloc_new w4 (.cells (VL z24) 48))
    have S1 := Lib.hid (setRow_heap _ _ _ V3 _ _ S0.out)
    have SC := Lib.hid (bel_row (T := V3) (SB.out.alloc SB.out.size (.cells (VL z24) 48)) SB.out.size)
    clear b4 R0 R1 RB
    go_wp2_with (first
      | (refine wpList_store_row rfl 48 _ _ rfl w4.heap.size V3 rfl rfl 48 (VL z24) S0.out HI3.out HSZ3.out HALL3.out ?_)
      | (refine wpList_load_row rfl 48 _ rfl w4.heap.size rfl 48 V3 (0, 0) _ S1.out Tryd.underlying48 rfl HI3.out ?_))
    refine (HWI.out _).mono ?_
    rintro e w5 ⟨rfl, b5⟩
    have lt3 := (Array.getElem?_eq_some_iff.1 S1.out).1
    have U1 := Lib.hid ((b5.block _ lt3).trans S1.out)
    have UB := Lib.hid (SC.out.trans (b5.mono SC.out.size))
    clear b5 S0 S1 SC SB
    cases q3
    · have hR : R = ([], false) := by rw [HR.out]; rfl
      subst hR
      go_wp2_with fail
      go_ret2
      exact ⟨_, rfl, OwnV.nil_ _ _, UB.out⟩
    have hR : R = (ts, true) := by rw [HR.out]; rfl
    subst hR
    go_wp2_with (refine wpList_load_row rfl 48 _ rfl w4.heap.size rfl 48 V3 (0, 0) _ U1.out Tryd.underlying48 rfl HI3.out ?_)
    refine (HLI.out _).mono ?_
    rintro e w6 ⟨v, rfl, o6, b6⟩
    go_wp2_with fail
    go_ret2
    exact ⟨_, rfl, o6.weak UB.out.size, UB.out.trans (b6.mono UB.out.size)⟩
end Go.Proofs.YtmeejnkpaiinaabDoor
