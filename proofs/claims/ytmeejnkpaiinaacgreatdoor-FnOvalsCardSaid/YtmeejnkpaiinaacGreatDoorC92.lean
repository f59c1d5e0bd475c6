/- Planes of the program: the plane of a number, its lines. -/
import Derived.Test.YtmeejnkpaiinaacGreatDoorC91
import Derived.Test.YtmeejnkpaiinaacGreatDoorC90
namespace Go.Proofs.YtmeejnkpaiinaacGreatDoor
open Go.RowKit Go.Shelf
set_option linter.unusedVariables false
attribute [local irreducible] octS cN octF syn

section
variable {P : Program}
theorem addr0 (g j : Nat) : (⟨g, 0, none⟩ : Addr).add j = ⟨g, j, none⟩ := by unfold Addr.add; split <;> simp_all
theorem run_loadVar_part (w : World) (g : Nat) (t ty : TypeId) (A R : Array Value) (fr : Nat × Nat) (d : TypeDesc) (hg : w.heap[g]? = some (.cells (A ++ R) t fr))
    (hu : P.underlying ty = some d) (hd : (match d with | .struct _ | .array _ _ => true | _ => false) = true) (hi : (P.info? ty).map (·.size) = some A.size) :
    (loadVar ty ⟨g, 0, none⟩).run P w = .ok (.agg A) w := by
  have hl : (loadCells ⟨g, 0, none⟩ A.toList.length).run P w = .ok A.toList.toArray w :=
    run_loadCells_list (P := P) w ⟨g, 0, none⟩ A.toList (fun j v hv => by
      have hadd := addr0 g j
      have hv2 : A[j]? = some v := by simpa using hv
      have hj : j < A.size := (Array.getElem?_eq_some_iff.1 hv2).1
      rw [hadd, cell_of_row w g j (A ++ R) t fr hg, Array.getElem?_append_left hj]
      exact hv2)
  cases hq : P.info? ty with
  | none => simp [hq] at hi
  | some i =>
    have hs : i.size = A.size := by simpa [hq] using hi
    have hagg : (isAgg ty).run P w = .ok true w := by
      unfold isAgg
      rw [Sem.run_bind, run_underlying hu w]
      cases d <;> simp_all
    simp only [Array.length_toList, Array.toArray_toList] at hl
    simp [loadVar, Sem.run_bind, hagg, sizeOf, typeInfo, hq, hs, hl]
theorem wpList_load_part {ops : Array Oper} {rest : List Oper} {o : Oper} {a : Act} {w : World} {Q : Exit → Act → World → Prop} (hgd : o.guard = none) (ty : TypeId) (x : Operand) (ho : o.op = .load ty x)
    (g : Nat) (hx : a.eval x = .pointer (some ⟨g, 0, none⟩)) (t : TypeId) (A R : Array Value) (fr : Nat × Nat) (d : TypeDesc) (hg : w.heap[g]? = some (.cells (A ++ R) t fr))
    (hu : P.underlying ty = some d) (hd : (match d with | .struct _ | .array _ _ => true | _ => false) = true) (hi : (P.info? ty).map (·.size) = some A.size)
    (h : wpList P ops Q rest (a.put o.dst (.agg A)) w) : wpList P ops Q (o :: rest) a w :=
  wpList_plain hgd fun K hK => by
    have hk := hK _ _ h
    unfold Oper.wp execOp
    simp only [ho, hx, Instr.loadAt, Instr.sureAddr, Sem.run_bind, Sem.run_pure, Result.andThen_ok, run_loadVar_part w g t ty A R fr d hg hu hd hi]
    exact hk
theorem wpList_build0 {ops : Array Oper} {rest : List Oper} {o : Oper} {a : Act} {w : World} {Q : Exit → Act → World → Prop} (hg : o.guard = none) (t : TypeId) (ho : o.op = .build t #[])
    (cells : Array Value) (hf : (Tryz.prog).built t [] = some cells) (h : wpList Tryz.prog ops Q rest (a.put o.dst (.agg cells)) w) : wpList Tryz.prog ops Q (o :: rest) a w := by
  refine wpList_build hg t #[] ho (by simp [hf]) ?_
  simpa [hf] using h
end
theorem plBuilt0 : (Tryz.prog).built 67 [] = some (VP (List.replicate 21 0) 0) := by
  rw [VP_base]
  kernel_rfl
theorem plane_calls (B : Nat) (hB : IsBase B) (w : World) (hT : Tab2 w) :
    Calls Tryz.prog 107 #[.int .u32 (B : Int)] w fun e w' => e = .returned (.agg (VP (lns (B : Int)) (B : Int))) ∧ Below w.heap.size w w' := by
  obtain ⟨k, hk⟩ : ∃ k, k = 4096 := ⟨_, rfl⟩
  exact callsIn_wide.1 (plane_in B hB k hk w hT)
set_option maxRecDepth 100000 in
set_option maxHeartbeats 2000000 in
theorem planeFrom_yes (B : Nat) (hB : IsBase B) (w : World) (hT : Tab2 w) :
    Calls Tryz.prog 53 #[.int .i64 (B : Int)] w fun e w' => e = .returned (.tuple #[.agg (VP (lns (B : Int)) (B : Int)), .bool true]) ∧ Below w.heap.size w w' := by
  have HPL := Lib.hid (plane_calls B hB)
  have HBF := Lib.hid (baseFrom_yes B hB)
  have HSZ := Lib.hid (VP_size (lns (B : Int)) (B : Int) (lns_len hB))
  have HALL := Lib.hid (VP_all (lns (B : Int)) (B : Int))
  have HZ := Lib.hid (VP_base 0)
  have HSZ0 := Lib.hid (VP_size (List.replicate 21 0) 0 (by simp))
  generalize VP (lns (B : Int)) (B : Int) = T at *
  generalize VP (List.replicate 21 0) 0 = Z0 at *
  have HI := Lib.hid (show (Tryz.prog.info? 67).map (·.size) = some T.size by rw [HSZ.out]; exact plInfo)
  go_enter Tryz.func53, Tryz.ntmps53
  go_wp2_with (go_at_call 70; refine (HBF.out _).mono ?_; rintro e w' ⟨rfl, kk, rfl⟩)
  rw [← HZ.out]
  have HB0 := Lib.hid (below_drewN ((Below.refl _ w).alloc (Nat.le_refl _) (.cells Z0 67)) kk)
  have HG := Lib.hid (show ((w.alloc (.cells Z0 67)).drewN kk).heap[w.heap.size]? = some (.cells Z0 67 (0, 0)) from Blk.new w _ _)
  have hlt : w.heap.size < ((w.alloc (.cells Z0 67)).drewN kk).heap.size := by show _ < (w.alloc _).heap.size; simp
  refine (HPL.out _ (hT.below HB0.out hT.lt)).mono ?_
  rintro e w2 ⟨rfl, b2⟩
  have HG2 := Lib.hid ((b2.block _ hlt).trans HG.out)
  have HB2 := Lib.hid (HB0.out.trans (b2.mono HB0.out.size))
  clear HG HB0 b2 hlt
  go_wp2_with (refine wpList_store_row rfl 67 _ _ rfl w.heap.size T rfl rfl 67 Z0 HG2.out HI.out (by rw [HSZ.out, HSZ0.out]) HALL.out ?_)
  exact bodyPost_ret (results_ct rfl rfl rfl (setRow_heap _ _ _ _ _ _ HG2.out : Blk _ _ _ _) Tryz.underlying67 rfl HI.out) rfl ⟨rfl, below_rowP HB2.out (Nat.le_refl _) T⟩
set_option maxRecDepth 100000 in
set_option maxHeartbeats 2000000 in
theorem planeFrom_no (b : Int) (h : baseB b = false) (w : World) :
    Calls Tryz.prog 53 #[.int .i64 b] w fun e w' => e = .returned (.tuple #[.agg (VP (List.replicate 21 0) 0), .bool false]) ∧ Below w.heap.size w w' := by
  have HBF := Lib.hid (baseFrom_no b h)
  have HSZ0 := Lib.hid (VP_size (List.replicate 21 0) 0 (by simp))
  have HALL := Lib.hid (VP_all (List.replicate 21 0) 0)
  have HB0 := Lib.hid plBuilt0
  have HZ := Lib.hid (VP_base 0)
  generalize VP (List.replicate 21 0) 0 = Z0 at *
  have HI := Lib.hid (show (Tryz.prog.info? 67).map (·.size) = some Z0.size by rw [HSZ0.out]; exact plInfo)
  clear h
  go_enter Tryz.func53, Tryz.ntmps53
  go_wp2_with (first
    | (go_at_call 70; refine (HBF.out _).mono ?_; rintro e w' ⟨rfl, kk, rfl⟩)
    | (refine wpList_build0 rfl 67 rfl Z0 HB0.out ?_)
    | (refine wpList_store_row rfl 67 _ _ rfl w.heap.size Z0 rfl rfl 67 _ (Blk.new w _ _) HI.out (by rw [HSZ0.out]; rfl) HALL.out ?_))
  exact bodyPost_ret (results_ct rfl rfl rfl (setRow_heap _ _ _ _ _ _ (Blk.new w _ _) : Blk _ _ _ _) Tryz.underlying67 rfl HI.out) rfl ⟨rfl, below_rowP (below_drewN ((Below.refl _ w).alloc (Nat.le_refl _) _) kk) (Nat.le_refl _) Z0⟩
theorem hasB_zero (L : List Int) : L.filter (hasB 0) = L := List.filter_eq_self.2 fun x _ => by simp [hasB, andI]
set_option maxRecDepth 100000 in
set_option maxHeartbeats 2000000 in
theorem iPlaneLines_calls (b : Int) (w : World) (hT : Tab2 w) :
    Calls Tryz.prog 23 #[.int .i64 b] w (GotL w (plLines b).1 (plLines b).2) := by
  rcases hb : baseB b with _ | _
  · rw [show plLines b = ([], false) by simp [plLines, hb]]
    have HPF := Lib.hid (planeFrom_no b hb)
    have HZ := Lib.hid (VP_base 0)
    have HSZ0 := Lib.hid (VP_size (List.replicate 21 0) 0 (by simp))
    have HALL := Lib.hid (VP_all (List.replicate 21 0) 0)
    generalize VP (List.replicate 21 0) 0 = Z0 at *
    have HI := Lib.hid (show (Tryz.prog.info? 67).map (·.size) = some Z0.size by rw [HSZ0.out]; exact plInfo)
    clear hb
    go_enter Tryz.func23, Tryz.ntmps23
    go_wp2_with fail
    refine (HPF.out _).mono ?_
    rintro e w2 ⟨rfl, b2⟩
    go_wp2_with (refine wpList_store_row rfl 67 _ _ rfl w2.heap.size Z0 rfl rfl 67 _ (Blk.new w2 _ _) HI.out (by rw [HSZ0.out]; rfl) HALL.out ?_)
    go_ret2
    exact ⟨_, rfl, Own.nil_ _ _, below_rowP (b2.alloc b2.size _) b2.size Z0⟩
  · obtain ⟨B, rfl, hB⟩ := baseB_nat hb
    rw [show plLines (B : Int) = (lns (B : Int), true) by simp [plLines, hb]]
    have HPF := Lib.hid (planeFrom_yes B hB)
    have HTH := Lib.hid (fun W => through_calls (lns (B : Int)) (lns_len hB) (fun j hj => lns_W hB j hj) 0 ⟨by omega, by omega⟩ W)
    rw [hasB_zero] at HTH
    have HSZ := Lib.hid (VP_size (lns (B : Int)) (B : Int) (lns_len hB))
    have HALL := Lib.hid (VP_all (lns (B : Int)) (B : Int))
    have HVP := Lib.hid (show VP (lns (B : Int)) (B : Int) = V21 (lns (B : Int)) ++ #[.int .u32 (B : Int)] from rfl)
    have HS21 := Lib.hid (show (Tryz.prog.info? 65).map (·.size) = some (V21 (lns (B : Int))).size by rw [V21_size, lns_len hB]; exact llInfo)
    generalize VP (lns (B : Int)) (B : Int) = T at *
    generalize V21 (lns (B : Int)) = VL at *
    have HI := Lib.hid (show (Tryz.prog.info? 67).map (·.size) = some T.size by rw [HSZ.out]; exact plInfo)
    clear hb
    go_enter Tryz.func23, Tryz.ntmps23
    go_wp2_with fail
    refine (HPF.out _ hT).mono ?_
    rintro e w2 ⟨rfl, b2⟩
    go_wp2_with (first
      | (refine wpList_store_row rfl 67 _ _ rfl w2.heap.size T rfl rfl 67 _ (Blk.new w2 _ _) HI.out (by rw [HSZ.out]; rfl) HALL.out ?_; have hcg := setRow_heap (w2.alloc (.cells #[.int .u32 0, .int .u32 0, .int .u32 0, .int .u32 0, .int .u32 0, .int .u32 0, .int .u32 0, .int .u32 0, .int .u32 0, .int .u32 0, .int .u32 0, .int .u32 0, .int .u32 0, .int .u32 0, .int .u32 0, .int .u32 0, .int .u32 0, .int .u32 0, .int .u32 0, .int .u32 0, .int .u32 0, .int .u32 0] 67)) w2.heap.size _ T 67 (0, 0) (Blk.new w2 _ _); have hb3 := below_rowP (b2.alloc b2.size (.cells #[.int .u32 0, .int .u32 0, .int .u32 0, .int .u32 0, .int .u32 0, .int .u32 0, .int .u32 0, .int .u32 0, .int .u32 0, .int .u32 0, .int .u32 0, .int .u32 0, .int .u32 0, .int .u32 0, .int .u32 0, .int .u32 0, .int .u32 0, .int .u32 0, .int .u32 0, .int .u32 0, .int .u32 0, .int .u32 0] 67)) b2.size T; have hcg := hcg.trans (show some (Obj.cells T 67 (0, 0)) = some (.cells (VL ++ #[.int .u32 (B : Int)]) 67 (0, 0)) by rw [HVP.out]); generalize (w2.alloc (.cells #[.int .u32 0, .int .u32 0, .int .u32 0, .int .u32 0, .int .u32 0, .int .u32 0, .int .u32 0, .int .u32 0, .int .u32 0, .int .u32 0, .int .u32 0, .int .u32 0, .int .u32 0, .int .u32 0, .int .u32 0, .int .u32 0, .int .u32 0, .int .u32 0, .int .u32 0, .int .u32 0, .int .u32 0, .int .u32 0] 67)).setRow w2.heap.size T = w3 at *; have HCG := Lib.hid hcg; have HB3 := Lib.hid hb3; clear hcg hb3)
      | (refine wpList_load_part rfl 65 _ rfl w2.heap.size rfl 67 VL #[.int .u32 (B : Int)] (0, 0) _ HCG.out Tryz.underlying65 rfl HS21.out ?_))
    refine (HTH.out _).mono ?_
    rintro e w4 ⟨v, rfl, o1, b4⟩
    have HO := Lib.hid (o1.weak HB3.out.size)
    have HB4 := Lib.hid (HB3.out.trans (b4.mono HB3.out.size))
    clear o1 b4
    go_wp2_with fail
    go_ret2
    exact ⟨_, rfl, HO.out, HB4.out⟩
end Go.Proofs.YtmeejnkpaiinaacGreatDoor
