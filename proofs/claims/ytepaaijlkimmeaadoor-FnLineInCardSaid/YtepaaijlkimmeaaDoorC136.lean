/- The permutation of a move of the line, by the program. -/
import Derived.Test.YtepaaijlkimmeaaDoorC132
import Derived.Test.YtepaaijlkimmeaaDoorC102
import Derived.Test.YtepaaijlkimmeaaDoorC103
import Derived.Test.YtepaaijlkimmeaaDoorM39
import Derived.Deep.RegionHeld3
namespace Go.Proofs.YtepaaijlkimmeaaDoor
open Go.RowKit
set_option linter.unusedVariables false
attribute [local irreducible] cN syn

def lpI (a b c d : R23) : List Int := intP (lpN a b c d)
theorem lpI_len (a b c d : R23) : (lpI a b c d).length = 24 := by rw [lpI, intP_len, lpN_len]
theorem lpI_get (a b c d : R23) (y : Option R23) : (lpI a b c d).getD (lpNo y) 0 = ((lpNo (lmF a b c d y) : Nat) : Int) := by
  rw [lpI, intP_get, lpN_get _ _ _ _ _ (lpNo_lt y), lpOf_no]
theorem lpV_far : lpV none = .iface 74 (.agg #[]) := rfl
theorem lpV_res (r : R23) : lpV (some r) = .iface 40 (.int .i64 r.val) := rfl
set_option maxHeartbeats 4000000 in
theorem lm_perm (a b c d : R23) (w : World) :
    Calls Tryd.prog 26 #[lmV a b c d] w fun e w' => e = .returned (.agg (VL (lpI a b c d))) ∧ Below w.heap.size w w' := by
  have HMV := Lib.hid (fun y => lm_move a b c d y)
  have HTL := Lib.hid (lpI_len a b c d)
  have HG := Lib.hid (lpI_get a b c d)
  have HT := Lib.hid (pmInfoL (lpI a b c d) (lpI_len a b c d))
  have HTS := Lib.hid (VL_size (lpI a b c d))
  have HTA := Lib.hid (VL_all (lpI a b c d))
  have hz : z24.length = 24 := rfl
  have HML := Lib.hid (fun k (hk : k ≤ 24) => mixL_len (lpI a b c d) z24 k (lpI_len a b c d) hz hk)
  have HMS := Lib.hid (fun k (hk : k < 24) => mixL_set (lpI a b c d) z24 k (lpI_len a b c d) hz hk)
  have HM0 := Lib.hid (mixL_zero (lpI a b c d) z24)
  have HM24 := Lib.hid (mixL_all (lpI a b c d) z24 (lpI_len a b c d) hz)
  generalize lpI a b c d = ts at *
  clear hz
  unfold lmV at HMV ⊢
  go_enter Tryd.func26, Tryd.ntmps26
  go_wp2_with fail
  go_loopw [5] (fun i wr => ∃ p : Nat, p ≤ 23 ∧ i = .int .i64 p ∧ Hid (wr.heap[w.heap.size]? = some (.cells #[.int .i64 a.val, .int .i64 b.val, .int .i64 c.val, .int .i64 d.val] 42 (0, 0))) ∧ Hid (wr.heap[w.heap.size + 1]? = some (.cells (VL z24) 46 (0, 0))) ∧ Hid (wr.heap[w.heap.size + 2]? = some (.cells (VL (mixL ts z24 p)) 46 (0, 0))) ∧ Hid (Below w.heap.size w wr)) (fun i _ => 23 - (intOf i).toNat)
  case atStart => exact ⟨0, by omega, rfl, Lib.hid (three_heap w _ _ _).1, Lib.hid (three_heap w _ _ _).2.1, Lib.hid (by rw [HM0.out]; exact (three_heap w _ _ _).2.2.1), Lib.hid (three_heap w _ _ _).2.2.2⟩
  case round =>
    obtain ⟨p, hp, rfl, h0, h1, h2, hbl⟩ := hrel
    have hlt0 : w.heap.size < wr.heap.size := (Array.getElem?_eq_some_iff.1 h0.out).1
    have hlt1 : w.heap.size + 1 < wr.heap.size := (Array.getElem?_eq_some_iff.1 h1.out).1
    have hlt2 : w.heap.size + 2 < wr.heap.size := (Array.getElem?_eq_some_iff.1 h2.out).1
    by_cases hlt : p < 23
    · have hp1 : (0 : Int) ≤ (p : Int) := by omega
      have hp2 : (p : Int) < 23 := by omega
      have hp3 : (p : Int) < 24 := by omega
      have hmv := HMV.out (some ⟨p, hlt⟩)
      have hgt := HG.out (some ⟨p, hlt⟩)
      rw [show lpV (some ⟨p, hlt⟩) = .iface 40 (.int .i64 (p : Int)) from rfl] at hmv
      rw [show lpNo (some (⟨p, hlt⟩ : R23)) = p from rfl] at hgt
      have hset := HMS.out p (by omega)
      rw [hgt] at hset
      clear hgt HMV HG
      rcases hv : lmF a b c d (some ⟨p, hlt⟩) with _ | r
      · rw [hv] at hmv hset
        rw [lpV_far] at hmv
        rw [show ((lpNo none : Nat) : Int) = 23 from rfl] at hset
        have HM := Lib.hid hmv
        have HST := Lib.hid hset
        clear hmv hset hv
        go_wp2_with fail
        refine wp_region_held_drew (S := fun W => W.heap[w.heap.size]? = some (.cells #[.int .i64 a.val, .int .i64 b.val, .int .i64 c.val, .int .i64 d.val] 42 (0, 0))) (by kernel_rfl) h0.out (fun hd => ?_)
        refine wpAnyH_take (i := 0) (v := .int .i64 (p : Int)) rfl (by kernel_rfl) (by kernel_rfl) (by kernel_rfl) (fun _ _ _ h => h) (Or.inl ⟨by kernel_rfl, fun w _ => by kernel_rfl⟩) hd ?_
        change wpAnyH _ _ _ _ _ _ _ (Act.put _ (some 8) (.int .i64 (p : Int))) _
        simp only [Act.put, List.setIfInBounds_toArray, List.set_cons_zero, List.set_cons_succ]
        refine wpAnyH_take (i := 2) (v := .agg #[.int .i64 a.val, .int .i64 b.val, .int .i64 c.val, .int .i64 d.val]) rfl (by kernel_rfl) (by kernel_rfl) (by kernel_rfl) (fun _ _ _ h => h) (Or.inl ⟨by kernel_rfl, fun w hS => by have hS1 := (cell_of_row _ _ 0 _ _ (0, 0) hS).trans (show (#[.int .i64 a.val, .int .i64 b.val, .int .i64 c.val, .int .i64 d.val] : Array Value)[0]? = some (.int .i64 a.val) from rfl); have hS2 := (cell_of_row _ _ 1 _ _ (0, 0) hS).trans (show (#[.int .i64 a.val, .int .i64 b.val, .int .i64 c.val, .int .i64 d.val] : Array Value)[1]? = some (.int .i64 b.val) from rfl); have hS3 := (cell_of_row _ _ 2 _ _ (0, 0) hS).trans (show (#[.int .i64 a.val, .int .i64 b.val, .int .i64 c.val, .int .i64 d.val] : Array Value)[2]? = some (.int .i64 c.val) from rfl); have hS4 := (cell_of_row _ _ 3 _ _ (0, 0) hS).trans (show (#[.int .i64 a.val, .int .i64 b.val, .int .i64 c.val, .int .i64 d.val] : Array Value)[3]? = some (.int .i64 d.val) from rfl); clear hS; go_simp⟩) hd ?_
        change wpAnyH _ _ _ _ _ _ _ (Act.put _ (some 10) (.agg #[.int .i64 a.val, .int .i64 b.val, .int .i64 c.val, .int .i64 d.val])) _
        simp only [Act.put, List.setIfInBounds_toArray, List.set_cons_zero, List.set_cons_succ]
        refine wpAnyH_take (i := 3) (v := .int .i64 (p : Int)) rfl (by kernel_rfl) (by kernel_rfl) (by kernel_rfl) (fun _ _ _ h => h) (Or.inl ⟨by kernel_rfl, fun w _ => by kernel_rfl⟩) hd ?_
        change wpAnyH _ _ _ _ _ _ _ (Act.put _ (some 11) (.int .i64 (p : Int))) _
        simp only [Act.put, List.setIfInBounds_toArray, List.set_cons_zero, List.set_cons_succ]
        refine wpAnyH_take (i := 4) (v := .iface 40 (.int .i64 (p : Int))) rfl (by kernel_rfl) (by kernel_rfl) (by kernel_rfl) (fun _ _ _ h => h) (Or.inl ⟨by kernel_rfl, fun w hS => by go_simp⟩) hd ?_
        change wpAnyH _ _ _ _ _ _ _ (Act.put _ (some 12) (.iface 40 (.int .i64 (p : Int)))) _
        simp only [Act.put, List.setIfInBounds_toArray, List.set_cons_zero, List.set_cons_succ]
        refine wpAnyH_ready (rs := [1]) (by kernel_rfl) (by simp) ?_
        refine AllReadyH.cons rfl (fun K hK => ?_) AllReadyH.nil
        go_simp
        go_at_call 53
        refine (res_number _ _).mono ?_
        rintro e w' ⟨rfl, rfl⟩
        have hd2 := hd
        refine hK.out _ _ hd2 (fun _ => ?_)
        refine wpAnyH_ready (rs := [5]) (by kernel_rfl) (by simp) ?_
        refine AllReadyH.cons rfl (fun K hK => ?_) AllReadyH.nil
        go_simp
        go_at_call 52
        refine (HM.out _).mono ?_
        rintro e w2 ⟨rfl, b2⟩
        have B2 := Lib.hid ((hbl.out.drew).trans (b2.mono (hbl.out.drew).size))
        have G2 := Lib.hid ((b2.block _ hlt2).trans (show wr.drew.heap[w.heap.size + 2]? = _ from h2.out))
        have G1 := Lib.hid ((b2.block _ hlt1).trans (show wr.drew.heap[w.heap.size + 1]? = _ from h1.out))
        have hd2 := (b2.block _ hlt0).trans hd
        clear b2
        refine hK.out _ _ hd2 (fun _ => ?_)
        refine wpAnyH_ready (rs := [6]) (by kernel_rfl) (by simp) ?_
        refine AllReadyH.cons rfl (fun K hK => ?_) AllReadyH.nil
        go_simp
        go_invoke
        go_upon
        go_at_call 94
        refine (far_number _).mono ?_
        rintro e w3 ⟨rfl, b3⟩
        have B3 := Lib.hid (B2.out.trans (b3.mono B2.out.size))
        have hl3 := (Array.getElem?_eq_some_iff.1 G2.out).1
        have hl4 := (Array.getElem?_eq_some_iff.1 G1.out).1
        have hl5 := (Array.getElem?_eq_some_iff.1 hd2).1
        have G23 := Lib.hid ((b3.block _ hl3).trans G2.out)
        have G13 := Lib.hid ((b3.block _ hl4).trans G1.out)
        have hd3 := (b3.block _ hl5).trans hd2
        have hd2 := hd3
        clear b3
        refine hK.out _ _ hd2 (fun _ => ?_)
        refine wpAnyH_take (i := 7) (v := .pointer (some ⟨w.heap.size + 1 + 1, p, none⟩)) rfl (by kernel_rfl) (by kernel_rfl) (by kernel_rfl) (fun _ _ _ h => h) (Or.inl ⟨by kernel_rfl, fun w hS => by go_simp⟩) hd2 ?_
        change wpAnyH _ _ _ _ _ _ _ (Act.put _ (some 15) (.pointer (some ⟨w.heap.size + 1 + 1, p, none⟩))) _
        simp only [Act.put, List.setIfInBounds_toArray, List.set_cons_zero, List.set_cons_succ]
        have hcx := VL_at (j := p) _ (by rw [HML.out p (by omega)]; omega) G23.out
        have hfx : w3.frozen? ⟨w.heap.size + 2, p, none⟩ = false := Lib.frozen_of_heap G23.out _
        have HF := Lib.hid (fun X => row_set (X := X) G23.out (by omega) B3.out HST.out)
        have HD := Lib.hid hd2
        generalize (mixL ts z24 p).getD p 0 = z at *
        clear hd2
        refine wpAnyH_ready (rs := [8]) (by kernel_rfl) (by simp) ?_
        refine AllReadyH.cons rfl (fun K hK => ?_) AllReadyH.nil
        go_simp
        refine hK.out _ _ (((HF.out _ rfl ⟨rfl, rfl, rfl⟩).2.1 _ (by omega)).trans HD.out) (fun _ => ?_)
        refine wpAnyH_done (by kernel_rfl) ?_ _
        go_wp2_with fail
        go_roundw
        case rel =>
          refine ⟨p + 1, by omega, by go_num, Lib.hid ?_, Lib.hid ?_, Lib.hid ?_, Lib.hid ?_⟩
          · exact ((HF.out _ rfl ⟨rfl, rfl, rfl⟩).2.1 _ (by omega)).trans HD.out
          · exact ((HF.out _ rfl ⟨rfl, rfl, rfl⟩).2.1 _ (by omega)).trans G13.out
          · exact (HF.out _ rfl ⟨rfl, rfl, rfl⟩).1
          · exact (HF.out _ rfl ⟨rfl, rfl, rfl⟩).2.2
        case measure => simp [intOf]; omega
      · rw [hv] at hmv hset
        rw [lpV_res] at hmv
        rw [show ((lpNo (some r) : Nat) : Int) = (r.val : Int) from rfl] at hset
        have HM := Lib.hid hmv
        have HST := Lib.hid hset
        clear hmv hset hv
        generalize (r.val : Int) = rv at *
        go_wp2_with fail
        refine wp_region_held_drew (S := fun W => W.heap[w.heap.size]? = some (.cells #[.int .i64 a.val, .int .i64 b.val, .int .i64 c.val, .int .i64 d.val] 42 (0, 0))) (by kernel_rfl) h0.out (fun hd => ?_)
        refine wpAnyH_take (i := 0) (v := .int .i64 (p : Int)) rfl (by kernel_rfl) (by kernel_rfl) (by kernel_rfl) (fun _ _ _ h => h) (Or.inl ⟨by kernel_rfl, fun w _ => by kernel_rfl⟩) hd ?_
        change wpAnyH _ _ _ _ _ _ _ (Act.put _ (some 8) (.int .i64 (p : Int))) _
        simp only [Act.put, List.setIfInBounds_toArray, List.set_cons_zero, List.set_cons_succ]
        refine wpAnyH_take (i := 2) (v := .agg #[.int .i64 a.val, .int .i64 b.val, .int .i64 c.val, .int .i64 d.val]) rfl (by kernel_rfl) (by kernel_rfl) (by kernel_rfl) (fun _ _ _ h => h) (Or.inl ⟨by kernel_rfl, fun w hS => by have hS1 := (cell_of_row _ _ 0 _ _ (0, 0) hS).trans (show (#[.int .i64 a.val, .int .i64 b.val, .int .i64 c.val, .int .i64 d.val] : Array Value)[0]? = some (.int .i64 a.val) from rfl); have hS2 := (cell_of_row _ _ 1 _ _ (0, 0) hS).trans (show (#[.int .i64 a.val, .int .i64 b.val, .int .i64 c.val, .int .i64 d.val] : Array Value)[1]? = some (.int .i64 b.val) from rfl); have hS3 := (cell_of_row _ _ 2 _ _ (0, 0) hS).trans (show (#[.int .i64 a.val, .int .i64 b.val, .int .i64 c.val, .int .i64 d.val] : Array Value)[2]? = some (.int .i64 c.val) from rfl); have hS4 := (cell_of_row _ _ 3 _ _ (0, 0) hS).trans (show (#[.int .i64 a.val, .int .i64 b.val, .int .i64 c.val, .int .i64 d.val] : Array Value)[3]? = some (.int .i64 d.val) from rfl); clear hS; go_simp⟩) hd ?_
        change wpAnyH _ _ _ _ _ _ _ (Act.put _ (some 10) (.agg #[.int .i64 a.val, .int .i64 b.val, .int .i64 c.val, .int .i64 d.val])) _
        simp only [Act.put, List.setIfInBounds_toArray, List.set_cons_zero, List.set_cons_succ]
        refine wpAnyH_take (i := 3) (v := .int .i64 (p : Int)) rfl (by kernel_rfl) (by kernel_rfl) (by kernel_rfl) (fun _ _ _ h => h) (Or.inl ⟨by kernel_rfl, fun w _ => by kernel_rfl⟩) hd ?_
        change wpAnyH _ _ _ _ _ _ _ (Act.put _ (some 11) (.int .i64 (p : Int))) _
        simp only [Act.put, List.setIfInBounds_toArray, List.set_cons_zero, List.set_cons_succ]
        refine wpAnyH_take (i := 4) (v := .iface 40 (.int .i64 (p : Int))) rfl (by kernel_rfl) (by kernel_rfl) (by kernel_rfl) (fun _ _ _ h => h) (Or.inl ⟨by kernel_rfl, fun w hS => by go_simp⟩) hd ?_
        change wpAnyH _ _ _ _ _ _ _ (Act.put _ (some 12) (.iface 40 (.int .i64 (p : Int)))) _
        simp only [Act.put, List.setIfInBounds_toArray, List.set_cons_zero, List.set_cons_succ]
        refine wpAnyH_ready (rs := [1]) (by kernel_rfl) (by simp) ?_
        refine AllReadyH.cons rfl (fun K hK => ?_) AllReadyH.nil
        go_simp
        go_at_call 53
        refine (res_number _ _).mono ?_
        rintro e w' ⟨rfl, rfl⟩
        have hd2 := hd
        refine hK.out _ _ hd2 (fun _ => ?_)
        refine wpAnyH_ready (rs := [5]) (by kernel_rfl) (by simp) ?_
        refine AllReadyH.cons rfl (fun K hK => ?_) AllReadyH.nil
        go_simp
        go_at_call 52
        refine (HM.out _).mono ?_
        rintro e w2 ⟨rfl, b2⟩
        have B2 := Lib.hid ((hbl.out.drew).trans (b2.mono (hbl.out.drew).size))
        have G2 := Lib.hid ((b2.block _ hlt2).trans (show wr.drew.heap[w.heap.size + 2]? = _ from h2.out))
        have G1 := Lib.hid ((b2.block _ hlt1).trans (show wr.drew.heap[w.heap.size + 1]? = _ from h1.out))
        have hd2 := (b2.block _ hlt0).trans hd
        clear b2
        refine hK.out _ _ hd2 (fun _ => ?_)
        refine wpAnyH_ready (rs := [6]) (by kernel_rfl) (by simp) ?_
        refine AllReadyH.cons rfl (fun K hK => ?_) AllReadyH.nil
        go_simp
        go_invoke
        go_upon
        go_at_call 53
        refine (res_number _ _).mono ?_
        rintro e w3 ⟨rfl, rfl⟩
        have B3 := B2
        have G23 := G2
        have G13 := G1
        clear B2 G2 G1
        refine hK.out _ _ hd2 (fun _ => ?_)
        refine wpAnyH_take (i := 7) (v := .pointer (some ⟨w.heap.size + 1 + 1, p, none⟩)) rfl (by kernel_rfl) (by kernel_rfl) (by kernel_rfl) (fun _ _ _ h => h) (Or.inl ⟨by kernel_rfl, fun w hS => by go_simp⟩) hd2 ?_
        change wpAnyH _ _ _ _ _ _ _ (Act.put _ (some 15) (.pointer (some ⟨w.heap.size + 1 + 1, p, none⟩))) _
        simp only [Act.put, List.setIfInBounds_toArray, List.set_cons_zero, List.set_cons_succ]
        have hcx := VL_at (j := p) _ (by rw [HML.out p (by omega)]; omega) G23.out
        have hfx : w2.frozen? ⟨w.heap.size + 2, p, none⟩ = false := Lib.frozen_of_heap G23.out _
        have HF := Lib.hid (fun X => row_set (X := X) G23.out (by omega) B3.out HST.out)
        have HD := Lib.hid hd2
        generalize (mixL ts z24 p).getD p 0 = z at *
        clear hd2
        refine wpAnyH_ready (rs := [8]) (by kernel_rfl) (by simp) ?_
        refine AllReadyH.cons rfl (fun K hK => ?_) AllReadyH.nil
        go_simp
        refine hK.out _ _ (((HF.out _ rfl ⟨rfl, rfl, rfl⟩).2.1 _ (by omega)).trans HD.out) (fun _ => ?_)
        refine wpAnyH_done (by kernel_rfl) ?_ _
        go_wp2_with fail
        go_roundw
        case rel =>
          refine ⟨p + 1, by omega, by go_num, Lib.hid ?_, Lib.hid ?_, Lib.hid ?_, Lib.hid ?_⟩
          · exact ((HF.out _ rfl ⟨rfl, rfl, rfl⟩).2.1 _ (by omega)).trans HD.out
          · exact ((HF.out _ rfl ⟨rfl, rfl, rfl⟩).2.1 _ (by omega)).trans G13.out
          · exact (HF.out _ rfl ⟨rfl, rfl, rfl⟩).1
          · exact (HF.out _ rfl ⟨rfl, rfl, rfl⟩).2.2
        case measure => simp [intOf]; omega
    · obtain rfl : p = 23 := by omega
      have hmv := HMV.out none
      have hset := HMS.out 23 (by omega)
      have hgt := HG.out none
      rw [lpV_far] at hmv
      rw [show lpNo none = 23 from rfl] at hgt
      rw [hgt] at hset
      clear hgt HMV HG
      have c0 := (cell_of_row _ _ 0 _ _ (0, 0) h0.out).trans (show (#[.int .i64 a.val, .int .i64 b.val, .int .i64 c.val, .int .i64 d.val] : Array Value)[0]? = some (.int .i64 a.val) from rfl)
      have c1 := (cell_of_row _ _ 1 _ _ (0, 0) h0.out).trans (show (#[.int .i64 a.val, .int .i64 b.val, .int .i64 c.val, .int .i64 d.val] : Array Value)[1]? = some (.int .i64 b.val) from rfl)
      have c2 := (cell_of_row _ _ 2 _ _ (0, 0) h0.out).trans (show (#[.int .i64 a.val, .int .i64 b.val, .int .i64 c.val, .int .i64 d.val] : Array Value)[2]? = some (.int .i64 c.val) from rfl)
      have c3 := (cell_of_row _ _ 3 _ _ (0, 0) h0.out).trans (show (#[.int .i64 a.val, .int .i64 b.val, .int .i64 c.val, .int .i64 d.val] : Array Value)[3]? = some (.int .i64 d.val) from rfl)
      rcases hv : lmF a b c d none with _ | r
      · rw [hv] at hmv hset
        rw [lpV_far] at hmv
        rw [show ((lpNo none : Nat) : Int) = 23 from rfl] at hset
        have HM := Lib.hid hmv
        clear hmv hv
        go_wp2_with fail
        refine (HM.out _).mono ?_
        rintro e w2 ⟨rfl, b2⟩
        have B2 := Lib.hid (hbl.out.trans (b2.mono hbl.out.size))
        have G2 := Lib.hid ((b2.block _ hlt2).trans h2.out)
        have G1 := Lib.hid ((b2.block _ hlt1).trans h1.out)
        clear b2 c0 c1 c2 c3
        go_wp2_with fail
        refine (far_number _).mono ?_
        rintro e w3 ⟨rfl, b3⟩
        have B3 := Lib.hid (B2.out.trans (b3.mono B2.out.size))
        have G23 := Lib.hid ((b3.block _ (Array.getElem?_eq_some_iff.1 G2.out).1).trans G2.out)
        have G13 := Lib.hid ((b3.block _ (Array.getElem?_eq_some_iff.1 G1.out).1).trans G1.out)
        clear b3
        have hcx := VL_at (j := 23) _ (by rw [HML.out 23 (by omega)]; omega) G23.out
        have hfx : w3.frozen? ⟨w.heap.size + 2, 23, none⟩ = false := Lib.frozen_of_heap G23.out _
        have HF := Lib.hid (fun X => row_set (X := X) G23.out (by omega) B3.out (hset.trans HM24.out))
        have hF := HF.out (w3.setCell ⟨w.heap.size + 2, 23, none⟩ (.int .i64 23)) rfl ⟨rfl, rfl, rfl⟩
        have F1 := Lib.hid hF.1
        have F2 := Lib.hid ((hF.2.1 _ (by omega)).trans G13.out)
        have F3 := Lib.hid hF.2.2
        generalize (mixL ts z24 23).getD 23 0 = z at *
        clear hset hF
        go_wp2_with (first
          | (refine wpList_load_row rfl 46 _ rfl (w.heap.size + 2) rfl 46 (VL ts) (0, 0) _ F1.out Tryd.underlying46 rfl HT.out ?_)
          | (refine wpList_store_row rfl 46 _ _ rfl (w.heap.size + 1) (VL ts) rfl rfl 46 (VL z24) F2.out HT.out (by rw [HTS.out, HTL.out]; rfl) HTA.out ?_))
        exact bodyPost_ret (results_c rfl rfl (setRow_heap _ _ _ _ _ _ F2.out : Blk _ _ _ _) Tryd.underlying46 rfl HT.out) rfl ⟨rfl, bel_row F3.out (by omega)⟩
      · rw [hv] at hmv hset
        rw [lpV_res] at hmv
        rw [show ((lpNo (some r) : Nat) : Int) = (r.val : Int) from rfl] at hset
        have HM := Lib.hid hmv
        clear hmv hv
        generalize (r.val : Int) = rv at *
        go_wp2_with fail
        refine (HM.out _).mono ?_
        rintro e w2 ⟨rfl, b2⟩
        have B2 := Lib.hid (hbl.out.trans (b2.mono hbl.out.size))
        have G2 := Lib.hid ((b2.block _ hlt2).trans h2.out)
        have G1 := Lib.hid ((b2.block _ hlt1).trans h1.out)
        clear b2 c0 c1 c2 c3
        go_wp2_with fail
        refine (res_number _ _).mono ?_
        rintro e w3 ⟨rfl, rfl⟩
        have B3 := B2
        have G23 := G2
        have G13 := G1
        clear B2 G2 G1
        have hcx := VL_at (j := 23) _ (by rw [HML.out 23 (by omega)]; omega) G23.out
        have hfx : w2.frozen? ⟨w.heap.size + 2, 23, none⟩ = false := Lib.frozen_of_heap G23.out _
        have HF := Lib.hid (fun X => row_set (X := X) G23.out (by omega) B3.out (hset.trans HM24.out))
        have hF := HF.out (w2.setCell ⟨w.heap.size + 2, 23, none⟩ (.int .i64 rv)) rfl ⟨rfl, rfl, rfl⟩
        have F1 := Lib.hid hF.1
        have F2 := Lib.hid ((hF.2.1 _ (by omega)).trans G13.out)
        have F3 := Lib.hid hF.2.2
        generalize (mixL ts z24 23).getD 23 0 = z at *
        clear hset hF
        go_wp2_with (first
          | (refine wpList_load_row rfl 46 _ rfl (w.heap.size + 2) rfl 46 (VL ts) (0, 0) _ F1.out Tryd.underlying46 rfl HT.out ?_)
          | (refine wpList_store_row rfl 46 _ _ rfl (w.heap.size + 1) (VL ts) rfl rfl 46 (VL z24) F2.out HT.out (by rw [HTS.out, HTL.out]; rfl) HTA.out ?_))
        exact bodyPost_ret (results_c rfl rfl (setRow_heap _ _ _ _ _ _ F2.out : Blk _ _ _ _) Tryd.underlying46 rfl HT.out) rfl ⟨rfl, bel_row F3.out (by omega)⟩
end Go.Proofs.YtepaaijlkimmeaaDoor
