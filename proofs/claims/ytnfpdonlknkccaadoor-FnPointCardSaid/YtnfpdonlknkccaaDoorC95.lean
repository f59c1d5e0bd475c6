/- The common point of two lines: the program's and the model's. -/
import Derived.Test.YtnfpdonlknkccaaDoorC93
import Derived.Test.YtnfpdonlknkccaaDoorC94
import Derived.Test.YtnfpdonlknkccaaDoorQ3
namespace Go.Proofs.YtnfpdonlknkccaaDoor
open Go.RowKit Go.Shelf
set_option linter.unusedVariables false
attribute [local irreducible] octS cN octF syn

theorem pl_pow_len (a : Nat) (h : a < 24) : (plI (2 ^ a)).length = 1 := by
  have : ∀ a : Fin 24, (plI (2 ^ a.val)).length = 1 := by decide
  exact this ⟨a, h⟩
theorem lns_Ws {B : Nat} (hB : IsBase B) : ∀ j, j < (lns (B : Int)).length → IsW ((lns (B : Int)).getD j 0) := fun j hj => lns_W hB j (by rw [lns_len hB] at hj; exact hj)
theorem lns_has {B : Nat} (hB : IsBase B) {x : Int} (h : (lns (B : Int)).contains x = true) : ∃ l, IsLine B l ∧ x = (l : Int) := by
  rw [List.contains_iff_mem] at h
  exact (lns_mem hB x).1 h
set_option maxRecDepth 100000 in
set_option maxHeartbeats 4000000 in
theorem iPlanePoint_calls (b x y : Int) (w : World) (hT : Tab3 w) :
    Calls Tryd.prog 11 #[.int .i64 b, .int .i64 x, .int .i64 y] w fun e w' => e = .returned (.tuple #[.int .i64 (plPoint b x y).1, .bool (plPoint b x y).2]) ∧ Below w.heap.size w w' := by
  rcases hb : baseB b with _ | _
  · rw [show plPoint b x y = (0, false) by simp [plPoint, hb]]
    have HPF := Lib.hid (planeFrom_no b hb)
    have HSZ0 := Lib.hid (VP_size (List.replicate 21 0) 0 (by simp))
    have HALL := Lib.hid (VP_all (List.replicate 21 0) 0)
    generalize VP (List.replicate 21 0) 0 = Z0 at *
    have HI := Lib.hid (show (Tryd.prog.info? 42).map (·.size) = some Z0.size by rw [HSZ0.out]; exact plInfo)
    clear hb
    go_enter Tryd.func11, Tryd.ntmps11
    go_wp2_with fail
    refine (HPF.out _).mono ?_
    rintro e w2 ⟨rfl, b2⟩
    go_wp2_with (refine wpList_store_row rfl 42 _ _ rfl w2.heap.size Z0 rfl rfl 42 _ (Blk.new w2 _ _) HI.out (by rw [HSZ0.out]; rfl) HALL.out ?_)
    go_ret2
    exact ⟨rfl, below_rowP (b2.alloc b2.size _) b2.size Z0⟩
  obtain ⟨B, rfl, hB⟩ := baseB_nat hb
  have HPF := Lib.hid (planeFrom_yes B hB)
  have HSZ := Lib.hid (VP_size (lns (B : Int)) (B : Int) (lns_len hB))
  have HALL := Lib.hid (VP_all (lns (B : Int)) (B : Int))
  have HVP := Lib.hid (show VP (lns (B : Int)) (B : Int) = V21 (lns (B : Int)) ++ #[.int .u32 (B : Int)] from rfl)
  have HS21 := Lib.hid (show (Tryd.prog.info? 40).map (·.size) = some (V21 (lns (B : Int))).size by rw [V21_size, lns_len hB]; exact llInfo)
  have HLY := Lib.hid (fun n h W => lineFrom_yes (lns (B : Int)) (lns_len hB) (lns_Ws hB) n h W)
  have HLN := Lib.hid (fun n h W => lineFrom_no (lns (B : Int)) (lns_len hB) n h W)
  by_cases hxy : x = y
  · rw [show plPoint (B : Int) x y = (0, false) by simp [plPoint, hxy]]
    generalize VP (lns (B : Int)) (B : Int) = T at *
    have HI := Lib.hid (show (Tryd.prog.info? 42).map (·.size) = some T.size by rw [HSZ.out]; exact plInfo)
    subst hxy
    clear hb HVP HS21 HLY HLN
    go_enter Tryd.func11, Tryd.ntmps11
    go_wp2_with fail
    refine (HPF.out _ hT.2).mono ?_
    rintro e w2 ⟨rfl, b2⟩
    go_wp2_with (refine wpList_store_row rfl 42 _ _ rfl w2.heap.size T rfl rfl 42 _ (Blk.new w2 _ _) HI.out (by rw [HSZ.out]; rfl) HALL.out ?_)
    go_ret2
    exact ⟨rfl, below_rowP (b2.alloc b2.size _) b2.size T⟩
  have hxyb : (x == y) = false := by simpa using hxy
  rcases hcx : (lns (B : Int)).contains x with _ | _
  · rw [show plPoint (B : Int) x y = (0, false) by simp only [plPoint, hcx, Bool.false_and, Bool.and_false]; rfl]
    have HX := Lib.hid (HLN.out x hcx)
    clear HLY HLN hcx hb hxy
    generalize VP (lns (B : Int)) (B : Int) = T at *
    generalize V21 (lns (B : Int)) = VL at *
    have HI := Lib.hid (show (Tryd.prog.info? 42).map (·.size) = some T.size by rw [HSZ.out]; exact plInfo)
    go_enter Tryd.func11, Tryd.ntmps11
    go_wp2_with fail
    refine (HPF.out _ hT.2).mono ?_
    rintro e w2 ⟨rfl, b2⟩
    go_wp2_with (first
      | (refine wpList_store_row rfl 42 _ _ rfl w2.heap.size T rfl rfl 42 _ (Blk.new w2 _ _) HI.out (by rw [HSZ.out]; rfl) HALL.out ?_; have hcg := setRow_heap (w2.alloc (.cells #[.int .u32 0, .int .u32 0, .int .u32 0, .int .u32 0, .int .u32 0, .int .u32 0, .int .u32 0, .int .u32 0, .int .u32 0, .int .u32 0, .int .u32 0, .int .u32 0, .int .u32 0, .int .u32 0, .int .u32 0, .int .u32 0, .int .u32 0, .int .u32 0, .int .u32 0, .int .u32 0, .int .u32 0, .int .u32 0] 42)) w2.heap.size _ T 42 (0, 0) (Blk.new w2 _ _); have hb3 := below_rowP (b2.alloc b2.size (.cells #[.int .u32 0, .int .u32 0, .int .u32 0, .int .u32 0, .int .u32 0, .int .u32 0, .int .u32 0, .int .u32 0, .int .u32 0, .int .u32 0, .int .u32 0, .int .u32 0, .int .u32 0, .int .u32 0, .int .u32 0, .int .u32 0, .int .u32 0, .int .u32 0, .int .u32 0, .int .u32 0, .int .u32 0, .int .u32 0] 42)) b2.size T; have hcg := hcg.trans (show some (Obj.cells T 42 (0, 0)) = some (.cells (VL ++ #[.int .u32 (B : Int)]) 42 (0, 0)) by rw [HVP.out]); generalize (w2.alloc (.cells #[.int .u32 0, .int .u32 0, .int .u32 0, .int .u32 0, .int .u32 0, .int .u32 0, .int .u32 0, .int .u32 0, .int .u32 0, .int .u32 0, .int .u32 0, .int .u32 0, .int .u32 0, .int .u32 0, .int .u32 0, .int .u32 0, .int .u32 0, .int .u32 0, .int .u32 0, .int .u32 0, .int .u32 0, .int .u32 0] 42)).setRow w2.heap.size T = w3 at *; have HCG := Lib.hid hcg; have HB3 := Lib.hid hb3; have HLT := Lib.hid (Array.getElem?_eq_some_iff.1 hcg).1; clear hcg hb3)
      | (refine wpList_load_part rfl 40 _ rfl w2.heap.size rfl 42 VL #[.int .u32 (B : Int)] (0, 0) _ HCG.out Tryd.underlying40 rfl HS21.out ?_))
    refine (HX.out _).mono ?_
    rintro e w4 ⟨rfl, b4⟩
    have HB4 := Lib.hid (HB3.out.trans (b4.mono HB3.out.size))
    clear b4
    go_wp2_with fail
    go_ret2
    exact ⟨rfl, HB4.out⟩
  rcases hcy : (lns (B : Int)).contains y with _ | _
  · rw [show plPoint (B : Int) x y = (0, false) by simp only [plPoint, hcx, hcy, Bool.and_false]; rfl]
    have HX := Lib.hid (HLY.out x hcx)
    have HY := Lib.hid (HLN.out y hcy)
    clear HLY HLN hcx hcy hb hxy
    generalize VP (lns (B : Int)) (B : Int) = T at *
    generalize V21 (lns (B : Int)) = VL at *
    have HI := Lib.hid (show (Tryd.prog.info? 42).map (·.size) = some T.size by rw [HSZ.out]; exact plInfo)
    go_enter Tryd.func11, Tryd.ntmps11
    go_wp2_with fail
    refine (HPF.out _ hT.2).mono ?_
    rintro e w2 ⟨rfl, b2⟩
    go_wp2_with (first
      | (refine wpList_store_row rfl 42 _ _ rfl w2.heap.size T rfl rfl 42 _ (Blk.new w2 _ _) HI.out (by rw [HSZ.out]; rfl) HALL.out ?_; have hcg := setRow_heap (w2.alloc (.cells #[.int .u32 0, .int .u32 0, .int .u32 0, .int .u32 0, .int .u32 0, .int .u32 0, .int .u32 0, .int .u32 0, .int .u32 0, .int .u32 0, .int .u32 0, .int .u32 0, .int .u32 0, .int .u32 0, .int .u32 0, .int .u32 0, .int .u32 0, .int .u32 0, .int .u32 0, .int .u32 0, .int .u32 0, .int .u32 0] 42)) w2.heap.size _ T 42 (0, 0) (Blk.new w2 _ _); have hb3 := below_rowP (b2.alloc b2.size (.cells #[.int .u32 0, .int .u32 0, .int .u32 0, .int .u32 0, .int .u32 0, .int .u32 0, .int .u32 0, .int .u32 0, .int .u32 0, .int .u32 0, .int .u32 0, .int .u32 0, .int .u32 0, .int .u32 0, .int .u32 0, .int .u32 0, .int .u32 0, .int .u32 0, .int .u32 0, .int .u32 0, .int .u32 0, .int .u32 0] 42)) b2.size T; have hcg := hcg.trans (show some (Obj.cells T 42 (0, 0)) = some (.cells (VL ++ #[.int .u32 (B : Int)]) 42 (0, 0)) by rw [HVP.out]); generalize (w2.alloc (.cells #[.int .u32 0, .int .u32 0, .int .u32 0, .int .u32 0, .int .u32 0, .int .u32 0, .int .u32 0, .int .u32 0, .int .u32 0, .int .u32 0, .int .u32 0, .int .u32 0, .int .u32 0, .int .u32 0, .int .u32 0, .int .u32 0, .int .u32 0, .int .u32 0, .int .u32 0, .int .u32 0, .int .u32 0, .int .u32 0] 42)).setRow w2.heap.size T = w3 at *; have HCG := Lib.hid hcg; have HB3 := Lib.hid hb3; have HLT := Lib.hid (Array.getElem?_eq_some_iff.1 hcg).1; clear hcg hb3)
      | (refine wpList_load_part rfl 40 _ rfl w2.heap.size rfl 42 VL #[.int .u32 (B : Int)] (0, 0) _ HCG.out Tryd.underlying40 rfl HS21.out ?_))
    refine (HX.out _).mono ?_
    rintro e w4 ⟨rfl, b4⟩
    have HB4 := Lib.hid (HB3.out.trans (b4.mono HB3.out.size))
    have HCG4 := Lib.hid ((b4.block w2.heap.size HLT.out).trans HCG.out)
    clear b4
    go_wp2_with (refine wpList_load_part rfl 40 _ rfl w2.heap.size rfl 42 VL #[.int .u32 (B : Int)] (0, 0) _ HCG4.out Tryd.underlying40 rfl HS21.out ?_)
    refine (HY.out _).mono ?_
    rintro e w5 ⟨rfl, b5⟩
    have HB5 := Lib.hid (HB4.out.trans (b5.mono HB4.out.size))
    clear b5
    go_wp2_with fail
    go_ret2
    exact ⟨rfl, HB5.out⟩
  · rw [show plPoint (B : Int) x y = ((plI (andI x y).toNat).getD 0 0, true) by simp only [plPoint, hcx, hcy, hb, hxy, Bool.and_true, decide_true, ne_eq, not_false_eq_true]; rfl]
    have HX := Lib.hid (HLY.out x hcx)
    have HY := Lib.hid (HLY.out y hcy)
    obtain ⟨l, hl, rfl⟩ := lns_has hB hcx
    obtain ⟨m, hm, rfl⟩ := lns_has hB hcy
    obtain ⟨a, ha, hand, _, _⟩ := meet_at hB hl hm (fun e => hxy (by rw [e]))
    have hl0 := (hl.facts hB).1
    have hm0 := (hm.facts hB).1
    have hai : andI (l : Int) (m : Int) = ((2 ^ a : Nat) : Int) := by rw [andI_nat, hand]
    have hres : (plI (andI (l : Int) (m : Int)).toNat).getD 0 0 = (a : Int) := by rw [hai, Int.toNat_natCast]; exact pl_pow a ha
    rw [hres]
    have HM := Lib.hid (fun W => word_meet (l : Int) (m : Int) W (by omega) (by omega) (by omega) (by omega))
    rw [hai] at HM
    have HOP := Lib.hid (fun W h => onlyPlace_calls a ha W h)
    clear HLY HLN hcx hcy hb hxy hai hres hand
    generalize ((2 ^ a : Nat) : Int) = pw at *
    generalize VP (lns (B : Int)) (B : Int) = T at *
    generalize V21 (lns (B : Int)) = VL at *
    have HI := Lib.hid (show (Tryd.prog.info? 42).map (·.size) = some T.size by rw [HSZ.out]; exact plInfo)
    go_enter Tryd.func11, Tryd.ntmps11
    go_wp2_with fail
    refine (HPF.out _ hT.2).mono ?_
    rintro e w2 ⟨rfl, b2⟩
    go_wp2_with (first
      | (refine wpList_store_row rfl 42 _ _ rfl w2.heap.size T rfl rfl 42 _ (Blk.new w2 _ _) HI.out (by rw [HSZ.out]; rfl) HALL.out ?_; have hcg := setRow_heap (w2.alloc (.cells #[.int .u32 0, .int .u32 0, .int .u32 0, .int .u32 0, .int .u32 0, .int .u32 0, .int .u32 0, .int .u32 0, .int .u32 0, .int .u32 0, .int .u32 0, .int .u32 0, .int .u32 0, .int .u32 0, .int .u32 0, .int .u32 0, .int .u32 0, .int .u32 0, .int .u32 0, .int .u32 0, .int .u32 0, .int .u32 0] 42)) w2.heap.size _ T 42 (0, 0) (Blk.new w2 _ _); have hb3 := below_rowP (b2.alloc b2.size (.cells #[.int .u32 0, .int .u32 0, .int .u32 0, .int .u32 0, .int .u32 0, .int .u32 0, .int .u32 0, .int .u32 0, .int .u32 0, .int .u32 0, .int .u32 0, .int .u32 0, .int .u32 0, .int .u32 0, .int .u32 0, .int .u32 0, .int .u32 0, .int .u32 0, .int .u32 0, .int .u32 0, .int .u32 0, .int .u32 0] 42)) b2.size T; have hcg := hcg.trans (show some (Obj.cells T 42 (0, 0)) = some (.cells (VL ++ #[.int .u32 (B : Int)]) 42 (0, 0)) by rw [HVP.out]); generalize (w2.alloc (.cells #[.int .u32 0, .int .u32 0, .int .u32 0, .int .u32 0, .int .u32 0, .int .u32 0, .int .u32 0, .int .u32 0, .int .u32 0, .int .u32 0, .int .u32 0, .int .u32 0, .int .u32 0, .int .u32 0, .int .u32 0, .int .u32 0, .int .u32 0, .int .u32 0, .int .u32 0, .int .u32 0, .int .u32 0, .int .u32 0] 42)).setRow w2.heap.size T = w3 at *; have HCG := Lib.hid hcg; have HB3 := Lib.hid hb3; have HLT := Lib.hid (Array.getElem?_eq_some_iff.1 hcg).1; clear hcg hb3)
      | (refine wpList_load_part rfl 40 _ rfl w2.heap.size rfl 42 VL #[.int .u32 (B : Int)] (0, 0) _ HCG.out Tryd.underlying40 rfl HS21.out ?_))
    refine (HX.out _).mono ?_
    rintro e w4 ⟨rfl, b4⟩
    have HB4 := Lib.hid (HB3.out.trans (b4.mono HB3.out.size))
    have HCG4 := Lib.hid ((b4.block w2.heap.size HLT.out).trans HCG.out)
    clear b4
    go_wp2_with (refine wpList_load_part rfl 40 _ rfl w2.heap.size rfl 42 VL #[.int .u32 (B : Int)] (0, 0) _ HCG4.out Tryd.underlying40 rfl HS21.out ?_)
    refine (HY.out _).mono ?_
    rintro e w5 ⟨rfl, b5⟩
    have HB5 := Lib.hid (HB4.out.trans (b5.mono HB4.out.size))
    clear b5
    have hTB := hT.1.below HB5.out hT.1.lt
    go_wp2_with (first
      | (go_at_call 23; refine (HM.out _).mono ?_; rintro e w' ⟨rfl, rfl⟩)
      | (go_at_call 24; refine (HOP.out _ hTB).mono ?_; rintro e w' ⟨rfl, rfl⟩))
    go_ret2
    exact ⟨rfl, HB5.out⟩
set_option maxHeartbeats 1000000 in
theorem l6pIs_calls (L : List Int) (A : Option Addr) (c : Nat) (x : Int) (w : World) (hl : L.length ≤ 4096) (hr : Rds w w.heap.size .i64 A L) :
    Calls Tryd.prog 25 #[.slice A L.length c, .int .i64 x] w fun e w' => e = .returned (.bool (L.contains x)) ∧ w = w' := by
  have HR := Lib.hid hr
  have HY := Lib.hid (fun k (hk : k < L.length) (e : L.getD k 0 = x) => show L.contains x = true by
    rw [List.contains_iff_mem, ← e, ← getD_at _ k hk]; exact List.getElem_mem _)
  have HN := Lib.hid (fun (h : ∀ j, j < L.length → L.getD j 0 ≠ x) => show L.contains x = false by
    rw [Bool.eq_false_iff]
    intro hc
    rw [List.contains_iff_mem] at hc
    obtain ⟨j, hj, e⟩ := List.getElem_of_mem hc
    exact h j hj (by rw [← getD_at _ j hj, e]))
  clear hr
  generalize L.contains x = cc at *
  obtain ⟨n, hn⟩ : ∃ n, L.length = n := ⟨_, rfl⟩
  rw [hn] at HY HN hl ⊢
  have HLEN := Lib.hid hn
  clear hn
  go_enter Tryd.func25, Tryd.ntmps25
  go_wp2_with fail
  go_loopw [5] (fun i wr => ∃ k : Nat, k ≤ n ∧ i = .int .i64 k ∧ Hid (wr = w ∧ ∀ j, j < k → L.getD j 0 ≠ x)) (fun i _ => n - (intOf i).toNat)
  case atStart => exact ⟨0, by omega, rfl, Lib.hid ⟨rfl, fun j h => absurd h (by omega)⟩⟩
  case round =>
    obtain ⟨k, hk, rfl, hh⟩ := hrel
    obtain ⟨hw, hnn⟩ := hh.out
    subst hw
    by_cases hlt : k < n
    · obtain ⟨bb, o, rfl, hb1, hc⟩ := HR.out.at_ (j := k) (by rw [HLEN.out]; exact hlt)
      have HY1 := Lib.hid (HY.out k hlt)
      have HN1 := Lib.hid (fun (h : L.getD k 0 ≠ x) j (hj : j < k + 1) => show L.getD j 0 ≠ x by
        rcases (by omega : j < k ∨ j = k) with h1 | h1
        · exact hnn j h1
        · rw [h1]; exact h)
      have hq1 : (0 : Int) ≤ (k : Int) := by omega
      have hq2 : (k : Int) < (n : Int) := by omega
      clear hnn hh
      generalize L.getD k 0 = z at *
      by_cases hx : z = x
      · have HD := Lib.hid (HY1.out hx)
        subst hx
        go_wp2_with fail
        go_ret
        exact ⟨ret_b (by rw [HD.out]), rfl⟩
      · have hxb : (z == x) = false := by simpa using hx
        have HD := Lib.hid (HN1.out hx)
        clear hx
        go_wp2_with fail
        go_roundw
        case rel => exact ⟨k + 1, by omega, by go_num, Lib.hid ⟨by first | exact rfl | trivial, HD.out⟩⟩
        case measure => simp [intOf]; omega
    · obtain rfl : k = n := by omega
      have HD := Lib.hid (HN.out hnn)
      clear hnn hh
      go_wp2_with fail
      go_ret
      exact ⟨ret_b (by rw [HD.out]), rfl⟩
set_option maxRecDepth 100000 in
set_option maxHeartbeats 2000000 in
theorem sPlanePoint_calls (b x y : Int) (w : World) :
    Calls Tryd.prog 12 #[.int .i64 b, .int .i64 x, .int .i64 y] w fun e w' => e = .returned (.tuple #[.int .i64 (plPoint b x y).1, .bool (plPoint b x y).2]) ∧ Below w.heap.size w w' := by
  rcases hb : baseB b with _ | _
  · rw [show plPoint b x y = (0, false) by simp [plPoint, hb]]
    have HN := Lib.hid (l6pBase_no b hb)
    clear hb
    go_enter Tryd.func12, Tryd.ntmps12
    go_wp2_with (go_at_call 17; refine (HN.out _).mono ?_; rintro e w' ⟨rfl, rfl⟩)
    go_ret2
    exact ⟨rfl, Below.refl _ _⟩
  obtain ⟨B, rfl, hB⟩ := baseB_nat hb
  have HN := Lib.hid (l6pBase_yes (B : Int) hb)
  by_cases hxy : x = y
  · rw [show plPoint (B : Int) x y = (0, false) by simp [plPoint, hxy]]
    subst hxy
    clear hb
    generalize (B : Int) = b at *
    go_enter Tryd.func12, Tryd.ntmps12
    go_wp2_with (go_at_call 17; refine (HN.out _).mono ?_; rintro e w' ⟨rfl, rfl⟩)
    go_ret2
    exact ⟨rfl, Below.refl _ _⟩
  have hxyb : (x == y) = false := by simpa using hxy
  have HLS := Lib.hid (l6pLines_calls B hB)
  have HLEN := Lib.hid (lns_len hB)
  have HIS := Lib.hid (fun A c z W hr => l6pIs_calls (lns (B : Int)) A c z W (by rw [lns_len hB]; decide) hr)
  rw [lns_len hB] at HIS
  rcases hcx : (lns (B : Int)).contains x with _ | _
  · rw [show plPoint (B : Int) x y = (0, false) by simp only [plPoint, hcx, Bool.false_and, Bool.and_false]; rfl]
    have HC := Lib.hid hcx
    clear hcx hb hxy
    generalize lns (B : Int) = L at *
    generalize (B : Int) = b at *
    go_enter Tryd.func12, Tryd.ntmps12
    go_wp2_with (first
      | (go_at_call 17; refine (HN.out _).mono ?_; rintro e w' ⟨rfl, rfl⟩)
      | (go_at_call 18; refine (HLS.out _).mono ?_; rintro e w1 ⟨v, rfl, o1, b1⟩; obtain ⟨A1, c1, rfl⟩ := o1.slice; rw [HLEN.out])
      | (go_at_call 25; refine (HIS.out _ _ _ _ o1.rds).mono ?_; rintro e w' ⟨he, rfl⟩; rw [HC.out] at he; subst he))
    go_ret2
    exact ⟨rfl, b1⟩
  rcases hcy : (lns (B : Int)).contains y with _ | _
  · rw [show plPoint (B : Int) x y = (0, false) by simp only [plPoint, hcx, hcy, Bool.and_false]; rfl]
    have HC := Lib.hid hcx
    have HC2 := Lib.hid hcy
    clear hcx hcy hb hxy
    generalize lns (B : Int) = L at *
    generalize (B : Int) = b at *
    go_enter Tryd.func12, Tryd.ntmps12
    go_wp2_with (first
      | (go_at_call 17; refine (HN.out _).mono ?_; rintro e w' ⟨rfl, rfl⟩)
      | (go_at_call 18; refine (HLS.out _).mono ?_; rintro e w1 ⟨v, rfl, o1, b1⟩; obtain ⟨A1, c1, rfl⟩ := o1.slice; rw [HLEN.out]))
    refine (HIS.out _ _ x _ o1.rds).mono ?_
    rintro e w' ⟨he, rfl⟩
    rw [HC.out] at he
    subst he
    go_wp2_with fail
    refine (HIS.out _ _ y _ o1.rds).mono ?_
    rintro e w' ⟨he, rfl⟩
    rw [HC2.out] at he
    subst he
    go_wp2_with fail
    go_ret2
    exact ⟨rfl, b1⟩
  · rw [show plPoint (B : Int) x y = ((plI (andI x y).toNat).getD 0 0, true) by simp only [plPoint, hcx, hcy, hb, hxy, Bool.and_true, decide_true, ne_eq, not_false_eq_true]; rfl]
    have HC := Lib.hid hcx
    have HC2 := Lib.hid hcy
    obtain ⟨l, hl, rfl⟩ := lns_has hB hcx
    obtain ⟨m, hm, rfl⟩ := lns_has hB hcy
    obtain ⟨a, ha, hand, _, _⟩ := meet_at hB hl hm (fun e => hxy (by rw [e]))
    have hl0 := (hl.facts hB).1
    have hm0 := (hm.facts hB).1
    have hai : andI (l : Int) (m : Int) = ((2 ^ a : Nat) : Int) := by rw [andI_nat, hand]
    have hband : bits .and .i64 (l : Int) (m : Int) = ((2 ^ a : Nat) : Int) := by rw [and_i64 _ _ (by omega) (by omega) (by omega) (by omega)]; exact hai
    have hres : (plI (andI (l : Int) (m : Int)).toNat).getD 0 0 = (a : Int) := by rw [hai, Int.toNat_natCast]; exact pl_pow a ha
    have hlen : (plI (2 ^ a)).length = 1 := pl_pow_len a ha
    rw [hres]
    have HPL := Lib.hid (fun W => l1Places_calls (2 ^ a) W)
    have HP0 := Lib.hid (pl_pow a ha)
    clear hcx hcy hb hxy hai hres hand
    generalize plI (2 ^ a) = PL at *
    generalize 2 ^ a = pw at *
    generalize lns (B : Int) = L at *
    generalize (B : Int) = b at *
    generalize (l : Int) = x at *
    generalize (m : Int) = y at *
    have HLP := Lib.hid hlen
    clear hlen
    go_enter Tryd.func12, Tryd.ntmps12
    go_wp2_with (first
      | (go_at_call 17; refine (HN.out _).mono ?_; rintro e w' ⟨rfl, rfl⟩)
      | (go_at_call 18; refine (HLS.out _).mono ?_; rintro e w1 ⟨v, rfl, o1, b1⟩; obtain ⟨A1, c1, rfl⟩ := o1.slice; rw [HLEN.out]))
    refine (HIS.out _ _ x _ o1.rds).mono ?_
    rintro e w' ⟨he, rfl⟩
    rw [HC.out] at he
    subst he
    go_wp2_with fail
    refine (HIS.out _ _ y _ o1.rds).mono ?_
    rintro e w' ⟨he, rfl⟩
    rw [HC2.out] at he
    subst he
    go_wp2_with fail
    refine (HPL.out _).mono ?_
    rintro e w2 ⟨v, rfl, o2, b2⟩
    obtain ⟨g, cc, rfl⟩ : ∃ g cc, v = .slice (some ⟨g, 0, none⟩) 1 cc := by
      rcases o2.form with ⟨_, h0⟩ | ⟨g, cap, h0, _⟩
      · have := HLP.out; rw [h0] at this; simp at this
      · rw [HLP.out] at h0; exact ⟨g, cap, h0⟩
    have hc0 := o2.cell (j := 0) (by rw [HLP.out]; decide)
    rw [HP0.out] at hc0
    have HB2 := Lib.hid (b1.trans (b2.mono b1.size))
    clear o1 o2 b1 b2
    go_wp2_with fail
    go_ret2
    exact ⟨rfl, HB2.out⟩
end Go.Proofs.YtnfpdonlknkccaaDoor
