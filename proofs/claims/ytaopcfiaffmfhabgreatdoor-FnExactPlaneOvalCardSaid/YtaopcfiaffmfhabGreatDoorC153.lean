/- The program's PlaneLine and PlaneOn. -/
import Derived.Test.YtaopcfiaffmfhabGreatDoorC152
namespace Go.Proofs.YtaopcfiaffmfhabGreatDoor
open Go.RowKit
set_option linter.unusedVariables false
attribute [local irreducible] octS cN octF syn

theorem VP_last (L : List Int) (b : Int) (h : L.length = 21) : (VP L b)[21]? = some (.int .u32 b) := by
  unfold VP
  rw [Array.getElem?_append_right (by simp [h])]
  simp [h]
theorem rds_own {w : World} {B : Nat} {A : Option Addr} {n c : Nat} {xs : List Int} (h : Own w B (.slice A n c) xs) : n = xs.length := by
  obtain ⟨A', c', e⟩ := h.slice
  cases e; rfl
theorem two_line {B p q : Nat} (hB : IsBase B) (hp : p < 24) (hq : q < 24) (hpq : p ≠ q) (bp : B.testBit p = false) (bq : B.testBit q = false) : ((lns (B : Int)).filter (hasB ((2 ^ p ||| 2 ^ q : Nat) : Int))) = [thruI (lns (B : Int)) ((2 ^ p ||| 2 ^ q : Nat) : Int)] := by
  have h := two_count hB hp hq hpq bp bq
  unfold thruI
  match hL : ((lns (B : Int)).filter (hasB ((2 ^ p ||| 2 ^ q : Nat) : Int))), h with
  | [x], _ => rfl
theorem all_two (b p q : Int) : ([p, q].all fun x => ptB b x) = (ptB b p && ptB b q) := by simp
set_option maxRecDepth 100000 in
set_option maxHeartbeats 4000000 in
theorem iPlaneLine_calls (b p q : Int) (w : World) (hT : Tab2 w) (hE : TabE w) :
    Calls Tryz.prog 9 #[.int .i64 b, .int .i64 p, .int .i64 q] w fun e w' => e = .returned (.tuple #[.int .i64 (plLine b p q).1, .bool (plLine b p q).2]) ∧ Below w.heap.size w w' := by
  rcases hb : baseB b with _ | _
  · rw [show plLine b p q = (0, false) by simp [plLine, hb]]
    have HPF := Lib.hid (planeFrom_no b hb)
    have HZ := Lib.hid (VP_base 0)
    have HSZ0 := Lib.hid (VP_size (List.replicate 21 0) 0 (by simp))
    have HALL := Lib.hid (VP_all (List.replicate 21 0) 0)
    generalize VP (List.replicate 21 0) 0 = Z0 at *
    have HI := Lib.hid (show (Tryz.prog.info? 40).map (·.size) = some Z0.size by rw [HSZ0.out]; exact plInfo)
    clear hb hE
    go_enter Tryz.func9, Tryz.ntmps9
    go_wp2_with fail
    refine (HPF.out _).mono ?_
    rintro e w2 ⟨rfl, b2⟩
    go_wp2_with (refine wpList_store_row rfl 40 _ _ rfl w2.heap.size Z0 rfl rfl 40 _ (Blk.new w2 _ _) HI.out (by rw [HSZ0.out]; rfl) HALL.out ?_)
    go_ret2
    exact ⟨rfl, below_rowP (b2.alloc b2.size _) b2.size Z0⟩
  · obtain ⟨B, rfl, hB⟩ := baseB_nat hb
    have HPF := Lib.hid (planeFrom_yes B hB)
    have HSZ := Lib.hid (VP_size (lns (B : Int)) (B : Int) (lns_len hB))
    have HALL := Lib.hid (VP_all (lns (B : Int)) (B : Int))
    have HVP := Lib.hid (show VP (lns (B : Int)) (B : Int) = V21 (lns (B : Int)) ++ #[.int .u32 (B : Int)] from rfl)
    have HS21 := Lib.hid (show (Tryz.prog.info? 38).map (·.size) = some (V21 (lns (B : Int))).size by rw [V21_size, lns_len hB]; exact llInfo)
    have HLAST := Lib.hid (VP_last (lns (B : Int)) (B : Int) (lns_len hB))
    by_cases hyes : ptB (B : Int) p = true ∧ ptB (B : Int) q = true ∧ p ≠ q
    · rw [plLine_yes hb hyes.1 hyes.2.1 hyes.2.2]
      have h1 := hyes.1
      have h2 := hyes.2.1
      have h3 := hyes.2.2
      have hall : ([p, q].all fun x => ptB (B : Int) x) = true := by rw [all_two, h1, h2]; rfl
      obtain ⟨P, rfl, hp, bp⟩ := ptB_nat h1
      obtain ⟨Q, rfl, hq, bq⟩ := ptB_nat h2
      have hPQ : P ≠ Q := by omega
      have HPTS := Lib.hid (fun A c W ha => pts_yes _ B hB.1 HSZ.out HLAST.out A c [(P : Int), (Q : Int)] _ W ha (by unfold maxLen; simp) hall (wof_two P Q hp hq hPQ) (by omega) (by have := or_lt24 P Q hp hq; omega))
      have HTH := Lib.hid (fun W => through_calls (lns (B : Int)) (lns_len hB) (fun j hj => lns_W hB j hj) ((2 ^ P ||| 2 ^ Q : Nat) : Int) ⟨by omega, by have := or_lt24 P Q hp hq; omega⟩ W)
      rw [two_line hB hp hq hPQ bp bq, ← powI_or P Q hPQ] at HTH
      have HOR := Lib.hid (show powI (P : Int) + powI (Q : Int) = ((2 ^ P ||| 2 ^ Q : Nat) : Int) from powI_or P Q hPQ)
      rw [← powI_or P Q hPQ] at HPTS
      dsimp only
      clear hb hyes h1 h2 h3 hall HOR
      generalize thruI (lns (B : Int)) (powI (P : Int) + powI (Q : Int)) = R at *
      generalize powI (P : Int) + powI (Q : Int) = both at *
      generalize VP (lns (B : Int)) (B : Int) = T at *
      generalize V21 (lns (B : Int)) = VL at *
      have HI := Lib.hid (show (Tryz.prog.info? 40).map (·.size) = some T.size by rw [HSZ.out]; exact plInfo)
      go_enter Tryz.func9, Tryz.ntmps9
      go_wp2_with fail
      refine (HPF.out _ hT).mono ?_
      rintro e w2 ⟨rfl, b2⟩
      go_wp2_with (first
        | (refine wpList_store_row rfl 40 _ _ rfl w2.heap.size T rfl rfl 40 _ (Blk.new w2 _ _) HI.out (by rw [HSZ.out]; rfl) HALL.out ?_; have hcg := setRow_heap (w2.alloc (.cells #[.int .u32 0, .int .u32 0, .int .u32 0, .int .u32 0, .int .u32 0, .int .u32 0, .int .u32 0, .int .u32 0, .int .u32 0, .int .u32 0, .int .u32 0, .int .u32 0, .int .u32 0, .int .u32 0, .int .u32 0, .int .u32 0, .int .u32 0, .int .u32 0, .int .u32 0, .int .u32 0, .int .u32 0, .int .u32 0] 40)) w2.heap.size _ T 40 (0, 0) (Blk.new w2 _ _); have hb3 := below_rowP (b2.alloc b2.size (.cells #[.int .u32 0, .int .u32 0, .int .u32 0, .int .u32 0, .int .u32 0, .int .u32 0, .int .u32 0, .int .u32 0, .int .u32 0, .int .u32 0, .int .u32 0, .int .u32 0, .int .u32 0, .int .u32 0, .int .u32 0, .int .u32 0, .int .u32 0, .int .u32 0, .int .u32 0, .int .u32 0, .int .u32 0, .int .u32 0] 40)) b2.size T; generalize (w2.alloc (.cells #[.int .u32 0, .int .u32 0, .int .u32 0, .int .u32 0, .int .u32 0, .int .u32 0, .int .u32 0, .int .u32 0, .int .u32 0, .int .u32 0, .int .u32 0, .int .u32 0, .int .u32 0, .int .u32 0, .int .u32 0, .int .u32 0, .int .u32 0, .int .u32 0, .int .u32 0, .int .u32 0, .int .u32 0, .int .u32 0] 40)).setRow w2.heap.size T = w3 at *; have HCG := Lib.hid hcg; have HB3 := Lib.hid hb3; clear hcg hb3)
        | (refine wpList_load_row rfl 40 _ rfl w2.heap.size rfl 40 T (0, 0) _ HCG.out Tryz.underlying40 rfl HI.out ?_))
      refine (HPTS.out _ _ _ (own_two w3 (P : Int) (Q : Int)).rds).mono ?_
      rintro e w4 ⟨rfl, b4⟩
      have HB4 := Lib.hid ((HB3.out.alloc HB3.out.size (.cells #[.int .i64 (P : Int), .int .i64 (Q : Int)] 3)).trans (b4.mono (by have := HB3.out.size; simp; omega)))
      have hlt : w2.heap.size < w3.heap.size := by
        rcases Nat.lt_or_ge w2.heap.size w3.heap.size with h | h
        · exact h
        · have := HCG.out; rw [Array.getElem?_eq_none h] at this; cases this
      have hcg4 : w4.heap[w2.heap.size]? = some (.cells T 40 (0, 0)) := (b4.block _ (by simp; omega)).trans ((heap_alloc_old w3 _ hlt).trans HCG.out)
      have HCG4 := Lib.hid (hcg4.trans (show some (Obj.cells T 40 (0, 0)) = some (.cells (VL ++ #[.int .u32 (B : Int)]) 40 (0, 0)) by rw [HVP.out]))
      clear hcg4 hlt b4
      go_wp2_with (refine wpList_load_part rfl 38 _ rfl w2.heap.size rfl 40 VL #[.int .u32 (B : Int)] (0, 0) _ HCG4.out Tryz.underlying38 rfl HS21.out ?_)
      refine (HTH.out _).mono ?_
      rintro e w5 ⟨v, rfl, o1, b5⟩
      have HB5 := Lib.hid (HB4.out.trans (b5.mono HB4.out.size))
      obtain ⟨A1, c1, rfl⟩ := o1.slice
      obtain ⟨bb, o, rfl, hb1, hc⟩ := o1.rds.at_ (j := 0) (by simp)
      clear b5 o1
      simp only [List.getD_cons_zero, Nat.add_zero] at hc
      go_wp2_with fail
      go_ret2
      exact ⟨rfl, HB5.out⟩
    · rw [show plLine (B : Int) p q = (0, false) by
        unfold plLine
        rw [if_neg]
        intro h
        simp only [Bool.and_eq_true, decide_eq_true_eq] at h
        exact hyes ⟨h.2.1, h.2.2.1, h.2.2.2⟩]
      have hno : ([p, q].all fun x => ptB (B : Int) x) = false ∨ (([p, q].length : Nat) : Int) ≠ 2 ∨ wof [p, q] = none := by
        rw [all_two]
        rcases h1 : ptB (B : Int) p with _ | _
        · exact .inl rfl
        rcases h2 : ptB (B : Int) q with _ | _
        · exact .inl rfl
        refine .inr (.inr (wof_two_no p q fun h => hyes ⟨h1, h2, h.2.2⟩))
      have HPTS := Lib.hid (fun A c W ha hE => pts_no _ B hB.1 HSZ.out HLAST.out A c [p, q] 2 W ha (by unfold maxLen; simp) hE hno)
      have HEL := Lib.hid hE.lt
      have HE := Lib.hid hE
      clear hb hyes hno hE
      generalize VP (lns (B : Int)) (B : Int) = T at *
      generalize V21 (lns (B : Int)) = VL at *
      have HI := Lib.hid (show (Tryz.prog.info? 40).map (·.size) = some T.size by rw [HSZ.out]; exact plInfo)
      go_enter Tryz.func9, Tryz.ntmps9
      go_wp2_with fail
      refine (HPF.out _ hT).mono ?_
      rintro e w2 ⟨rfl, b2⟩
      go_wp2_with (first
        | (refine wpList_store_row rfl 40 _ _ rfl w2.heap.size T rfl rfl 40 _ (Blk.new w2 _ _) HI.out (by rw [HSZ.out]; rfl) HALL.out ?_; have hcg := setRow_heap (w2.alloc (.cells #[.int .u32 0, .int .u32 0, .int .u32 0, .int .u32 0, .int .u32 0, .int .u32 0, .int .u32 0, .int .u32 0, .int .u32 0, .int .u32 0, .int .u32 0, .int .u32 0, .int .u32 0, .int .u32 0, .int .u32 0, .int .u32 0, .int .u32 0, .int .u32 0, .int .u32 0, .int .u32 0, .int .u32 0, .int .u32 0] 40)) w2.heap.size _ T 40 (0, 0) (Blk.new w2 _ _); have hb3 := below_rowP (b2.alloc b2.size (.cells #[.int .u32 0, .int .u32 0, .int .u32 0, .int .u32 0, .int .u32 0, .int .u32 0, .int .u32 0, .int .u32 0, .int .u32 0, .int .u32 0, .int .u32 0, .int .u32 0, .int .u32 0, .int .u32 0, .int .u32 0, .int .u32 0, .int .u32 0, .int .u32 0, .int .u32 0, .int .u32 0, .int .u32 0, .int .u32 0] 40)) b2.size T; generalize (w2.alloc (.cells #[.int .u32 0, .int .u32 0, .int .u32 0, .int .u32 0, .int .u32 0, .int .u32 0, .int .u32 0, .int .u32 0, .int .u32 0, .int .u32 0, .int .u32 0, .int .u32 0, .int .u32 0, .int .u32 0, .int .u32 0, .int .u32 0, .int .u32 0, .int .u32 0, .int .u32 0, .int .u32 0, .int .u32 0, .int .u32 0] 40)).setRow w2.heap.size T = w3 at *; have HCG := Lib.hid hcg; have HB3 := Lib.hid hb3; clear hcg hb3)
        | (refine wpList_load_row rfl 40 _ rfl w2.heap.size rfl 40 T (0, 0) _ HCG.out Tryz.underlying40 rfl HI.out ?_))
      refine (HPTS.out _ _ _ (own_two w3 p q).rds (HE.out.below (HB3.out.alloc HB3.out.size (.cells #[.int .i64 p, .int .i64 q] 3)) HEL.out)).mono ?_
      rintro e w4 ⟨rfl, b4⟩
      have HB4 := Lib.hid ((HB3.out.alloc HB3.out.size (.cells #[.int .i64 p, .int .i64 q] 3)).trans (b4.mono (by have := HB3.out.size; simp; omega)))
      clear b4
      go_wp2_with fail
      go_ret2
      exact ⟨rfl, HB4.out⟩
theorem own_one (w : World) (p : Int) : Own (w.alloc (.cells #[.int .i64 p] 3)) w.heap.size (.slice (some ⟨w.heap.size, 0, none⟩) 1 1) [p] :=
  ⟨rfl, .inr ⟨w.heap.size, 1, _, rfl, Nat.le_refl _, heap_alloc_new w _, Nat.le_refl _, by unfold maxLen; omega, rfl, rfl⟩⟩
theorem wof_one (P : Nat) (hP : P < 24) : wof [(P : Int)] = some (powI (P : Int)) := by
  show addPl (some 0) (P : Int) = _
  have h0 : bitI 0 (P : Int) = 0 := by unfold bitI; simp
  rw [addPl_some, if_pos ⟨by omega, by omega, h0⟩]
  simp
set_option maxRecDepth 100000 in
set_option maxHeartbeats 4000000 in
theorem iPlaneOn_calls (b p : Int) (w : World) (hT : Tab2 w) (hE : TabE w) :
    Calls Tryz.prog 11 #[.int .i64 b, .int .i64 p] w (GotL w (plOn b p).1 (plOn b p).2) := by
  rcases hb : baseB b with _ | _
  · rw [show plOn b p = ([], false) by simp [plOn, hb]]
    have HPF := Lib.hid (planeFrom_no b hb)
    have HZ := Lib.hid (VP_base 0)
    have HSZ0 := Lib.hid (VP_size (List.replicate 21 0) 0 (by simp))
    have HALL := Lib.hid (VP_all (List.replicate 21 0) 0)
    generalize VP (List.replicate 21 0) 0 = Z0 at *
    have HI := Lib.hid (show (Tryz.prog.info? 40).map (·.size) = some Z0.size by rw [HSZ0.out]; exact plInfo)
    clear hb hE
    go_enter Tryz.func11, Tryz.ntmps11
    go_wp2_with fail
    refine (HPF.out _).mono ?_
    rintro e w2 ⟨rfl, b2⟩
    go_wp2_with (refine wpList_store_row rfl 40 _ _ rfl w2.heap.size Z0 rfl rfl 40 _ (Blk.new w2 _ _) HI.out (by rw [HSZ0.out]; rfl) HALL.out ?_)
    go_ret2
    exact ⟨_, rfl, Own.nil_ _ _, below_rowP (b2.alloc b2.size _) b2.size Z0⟩
  · obtain ⟨B, rfl, hB⟩ := baseB_nat hb
    have HPF := Lib.hid (planeFrom_yes B hB)
    have HSZ := Lib.hid (VP_size (lns (B : Int)) (B : Int) (lns_len hB))
    have HALL := Lib.hid (VP_all (lns (B : Int)) (B : Int))
    have HVP := Lib.hid (show VP (lns (B : Int)) (B : Int) = V21 (lns (B : Int)) ++ #[.int .u32 (B : Int)] from rfl)
    have HS21 := Lib.hid (show (Tryz.prog.info? 38).map (·.size) = some (V21 (lns (B : Int))).size by rw [V21_size, lns_len hB]; exact llInfo)
    have HLAST := Lib.hid (VP_last (lns (B : Int)) (B : Int) (lns_len hB))
    by_cases hyes : ptB (B : Int) p = true
    · rw [show plOn (B : Int) p = ((lns (B : Int)).filter (hasB (powI p)), true) by simp [plOn, hb, hyes]]
      have h1 := hyes
      have hall : ([p].all fun x => ptB (B : Int) x) = true := by simp [h1]
      obtain ⟨P, rfl, hp, bp⟩ := ptB_nat h1
      have HPTS := Lib.hid (fun A c W ha => pts_yes _ B hB.1 HSZ.out HLAST.out A c [(P : Int)] _ W ha (by unfold maxLen; simp) hall (wof_one P hp) (by have := powI_pos (P : Int); omega) (by have := powI_le (P : Int) (by omega) (by omega); omega))
      have HTH := Lib.hid (fun W => through_calls (lns (B : Int)) (lns_len hB) (fun j hj => lns_W hB j hj) (powI (P : Int)) ⟨by have := powI_pos (P : Int); omega, by have := powI_le (P : Int) (by omega) (by omega); omega⟩ W)
      dsimp only
      clear hb hyes h1 hall
      generalize (lns (B : Int)).filter (hasB (powI (P : Int))) = R at *
      generalize powI (P : Int) = both at *
      generalize VP (lns (B : Int)) (B : Int) = T at *
      generalize V21 (lns (B : Int)) = VL at *
      have HI := Lib.hid (show (Tryz.prog.info? 40).map (·.size) = some T.size by rw [HSZ.out]; exact plInfo)
      go_enter Tryz.func11, Tryz.ntmps11
      go_wp2_with fail
      refine (HPF.out _ hT).mono ?_
      rintro e w2 ⟨rfl, b2⟩
      go_wp2_with (first
        | (refine wpList_store_row rfl 40 _ _ rfl w2.heap.size T rfl rfl 40 _ (Blk.new w2 _ _) HI.out (by rw [HSZ.out]; rfl) HALL.out ?_; have hcg := setRow_heap (w2.alloc (.cells #[.int .u32 0, .int .u32 0, .int .u32 0, .int .u32 0, .int .u32 0, .int .u32 0, .int .u32 0, .int .u32 0, .int .u32 0, .int .u32 0, .int .u32 0, .int .u32 0, .int .u32 0, .int .u32 0, .int .u32 0, .int .u32 0, .int .u32 0, .int .u32 0, .int .u32 0, .int .u32 0, .int .u32 0, .int .u32 0] 40)) w2.heap.size _ T 40 (0, 0) (Blk.new w2 _ _); have hb3 := below_rowP (b2.alloc b2.size (.cells #[.int .u32 0, .int .u32 0, .int .u32 0, .int .u32 0, .int .u32 0, .int .u32 0, .int .u32 0, .int .u32 0, .int .u32 0, .int .u32 0, .int .u32 0, .int .u32 0, .int .u32 0, .int .u32 0, .int .u32 0, .int .u32 0, .int .u32 0, .int .u32 0, .int .u32 0, .int .u32 0, .int .u32 0, .int .u32 0] 40)) b2.size T; generalize (w2.alloc (.cells #[.int .u32 0, .int .u32 0, .int .u32 0, .int .u32 0, .int .u32 0, .int .u32 0, .int .u32 0, .int .u32 0, .int .u32 0, .int .u32 0, .int .u32 0, .int .u32 0, .int .u32 0, .int .u32 0, .int .u32 0, .int .u32 0, .int .u32 0, .int .u32 0, .int .u32 0, .int .u32 0, .int .u32 0, .int .u32 0] 40)).setRow w2.heap.size T = w3 at *; have HCG := Lib.hid hcg; have HB3 := Lib.hid hb3; clear hcg hb3)
        | (refine wpList_load_row rfl 40 _ rfl w2.heap.size rfl 40 T (0, 0) _ HCG.out Tryz.underlying40 rfl HI.out ?_))
      refine (HPTS.out _ _ _ (own_one w3 (P : Int)).rds).mono ?_
      rintro e w4 ⟨rfl, b4⟩
      have HB4 := Lib.hid ((HB3.out.alloc HB3.out.size (.cells #[.int .i64 (P : Int)] 3)).trans (b4.mono (by have := HB3.out.size; simp; omega)))
      have hlt : w2.heap.size < w3.heap.size := by
        rcases Nat.lt_or_ge w2.heap.size w3.heap.size with h | h
        · exact h
        · have := HCG.out; rw [Array.getElem?_eq_none h] at this; cases this
      have hcg4 : w4.heap[w2.heap.size]? = some (.cells T 40 (0, 0)) := (b4.block _ (by simp; omega)).trans ((heap_alloc_old w3 _ hlt).trans HCG.out)
      have HCG4 := Lib.hid (hcg4.trans (show some (Obj.cells T 40 (0, 0)) = some (.cells (VL ++ #[.int .u32 (B : Int)]) 40 (0, 0)) by rw [HVP.out]))
      clear hcg4 hlt b4
      go_wp2_with (refine wpList_load_part rfl 38 _ rfl w2.heap.size rfl 40 VL #[.int .u32 (B : Int)] (0, 0) _ HCG4.out Tryz.underlying38 rfl HS21.out ?_)
      refine (HTH.out _).mono ?_
      rintro e w5 ⟨v, rfl, o1, b5⟩
      have HB5 := Lib.hid (HB4.out.trans (b5.mono HB4.out.size))
      have HO5 := Lib.hid (o1.weak HB4.out.size)
      clear b5 o1
      go_wp2_with fail
      go_ret2
      exact ⟨_, rfl, HO5.out, HB5.out⟩
    · rw [show plOn (B : Int) p = ([], false) by simp [plOn, hyes]]
      have hno : ([p].all fun x => ptB (B : Int) x) = false ∨ (([p].length : Nat) : Int) ≠ 1 ∨ wof [p] = none := by
        left
        rcases h1 : ptB (B : Int) p with _ | _
        · simp [h1]
        · exact absurd h1 hyes
      have HPTS := Lib.hid (fun A c W ha hE => pts_no _ B hB.1 HSZ.out HLAST.out A c [p] 1 W ha (by unfold maxLen; simp) hE hno)
      have HEL := Lib.hid hE.lt
      have HE := Lib.hid hE
      clear hb hyes hno hE
      generalize VP (lns (B : Int)) (B : Int) = T at *
      generalize V21 (lns (B : Int)) = VL at *
      have HI := Lib.hid (show (Tryz.prog.info? 40).map (·.size) = some T.size by rw [HSZ.out]; exact plInfo)
      go_enter Tryz.func11, Tryz.ntmps11
      go_wp2_with fail
      refine (HPF.out _ hT).mono ?_
      rintro e w2 ⟨rfl, b2⟩
      go_wp2_with (first
        | (refine wpList_store_row rfl 40 _ _ rfl w2.heap.size T rfl rfl 40 _ (Blk.new w2 _ _) HI.out (by rw [HSZ.out]; rfl) HALL.out ?_; have hcg := setRow_heap (w2.alloc (.cells #[.int .u32 0, .int .u32 0, .int .u32 0, .int .u32 0, .int .u32 0, .int .u32 0, .int .u32 0, .int .u32 0, .int .u32 0, .int .u32 0, .int .u32 0, .int .u32 0, .int .u32 0, .int .u32 0, .int .u32 0, .int .u32 0, .int .u32 0, .int .u32 0, .int .u32 0, .int .u32 0, .int .u32 0, .int .u32 0] 40)) w2.heap.size _ T 40 (0, 0) (Blk.new w2 _ _); have hb3 := below_rowP (b2.alloc b2.size (.cells #[.int .u32 0, .int .u32 0, .int .u32 0, .int .u32 0, .int .u32 0, .int .u32 0, .int .u32 0, .int .u32 0, .int .u32 0, .int .u32 0, .int .u32 0, .int .u32 0, .int .u32 0, .int .u32 0, .int .u32 0, .int .u32 0, .int .u32 0, .int .u32 0, .int .u32 0, .int .u32 0, .int .u32 0, .int .u32 0] 40)) b2.size T; generalize (w2.alloc (.cells #[.int .u32 0, .int .u32 0, .int .u32 0, .int .u32 0, .int .u32 0, .int .u32 0, .int .u32 0, .int .u32 0, .int .u32 0, .int .u32 0, .int .u32 0, .int .u32 0, .int .u32 0, .int .u32 0, .int .u32 0, .int .u32 0, .int .u32 0, .int .u32 0, .int .u32 0, .int .u32 0, .int .u32 0, .int .u32 0] 40)).setRow w2.heap.size T = w3 at *; have HCG := Lib.hid hcg; have HB3 := Lib.hid hb3; clear hcg hb3)
        | (refine wpList_load_row rfl 40 _ rfl w2.heap.size rfl 40 T (0, 0) _ HCG.out Tryz.underlying40 rfl HI.out ?_))
      refine (HPTS.out _ _ _ (own_one w3 p).rds (HE.out.below (HB3.out.alloc HB3.out.size (.cells #[.int .i64 p] 3)) HEL.out)).mono ?_
      rintro e w4 ⟨rfl, b4⟩
      have HB4 := Lib.hid ((HB3.out.alloc HB3.out.size (.cells #[.int .i64 p] 3)).trans (b4.mono (by have := HB3.out.size; simp; omega)))
      clear b4
      go_wp2_with fail
      go_ret2
      exact ⟨_, rfl, Own.nil_ _ _, HB4.out⟩
end Go.Proofs.YtaopcfiaffmfhabGreatDoor
