/- Moves of the line by the program. -/
import Derived.Test.YtepaaijlkimmeaaDoorC130
import Derived.Test.YtepaaijlkimmeaaDoorM11
import Derived.Deep.RegionHeld3
namespace Go.Proofs.YtepaaijlkimmeaaDoor
open Go.RowKit
set_option linter.unusedVariables false

/-- A place of the line as the program holds it. -/
def lpV : Option R23 → Value
  | none => .iface 74 (.agg #[])
  | some x => .iface 40 (.int .i64 x.val)
theorem res_over (r s : R23) (w : World) :
    Calls Tryd.prog 66 #[.int .i64 r.val, .int .i64 s.val] w fun e w' => e = .returned (lpV (ovF r s)) ∧ w = w' := by
  have HT := Lib.hid (res_turned s w)
  by_cases h0 : s = 0
  · have hs : (s != 0) = false := by simp [h0]
    rw [show ovF r s = none by rw [h0]; exact ov_none r]
    rw [hs] at HT
    clear hs h0
    rw [show lpV none = .iface 74 (.agg #[]) from rfl]
    generalize ((tn s).val : Int) = v at *
    generalize (r.val : Int) = n at *
    generalize (s.val : Int) = m at *
    go_enter Tryd.func66, Tryd.ntmps66
    go_wp2_with fail
    refine HT.out.mono ?_
    rintro e w' ⟨rfl, rfl⟩
    go_wp2_with fail
    go_ret
    exact ⟨rfl, rfl⟩
  · have hs : (s != 0) = true := by simpa using h0
    rw [show ovF r s = some (r * tn s) by unfold ovF; rw [if_neg h0]]
    rw [hs] at HT
    clear hs h0
    have HM := Lib.hid (res_times r (tn s) w)
    rw [show lpV (some (r * tn s)) = .iface 40 (.int .i64 (r * tn s).val) from rfl]
    generalize ((r * tn s).val : Int) = p at *
    generalize ((tn s).val : Int) = v at *
    generalize (r.val : Int) = n at *
    generalize (s.val : Int) = m at *
    go_enter Tryd.func66, Tryd.ntmps66
    go_wp2_with fail
    refine HT.out.mono ?_
    rintro e w' ⟨rfl, rfl⟩
    go_wp2_with fail
    refine HM.out.mono ?_
    rintro e w' ⟨rfl, rfl⟩
    go_wp2_with fail
    go_ret
    exact ⟨rfl, rfl⟩
theorem far_number (w : World) :
    Calls Tryd.prog 94 #[.agg #[]] w fun e w' => e = .returned (.int .i64 23) ∧ Below w.heap.size w w' := by
  go_enter Tryd.func94, Tryd.ntmps94
  go_wp2
  go_ret
  exact ⟨rfl, (Below.refl _ _).alloc (Nat.le_refl _) _⟩
/-- A move as the program holds it. -/
def lmV (a b c d : R23) : Value := .agg #[.int .i64 a.val, .int .i64 b.val, .int .i64 c.val, .int .i64 d.val]
theorem is_res_no (v : Value) (W : World) : (Instr.typeAssert (.iface 74 v) 71 40 true).run Tryd.prog W = .ok (.tuple #[.int .i64 0, .bool false]) W := by kernel_rfl
theorem is_res_yes (n : Int) (W : World) : (Instr.typeAssert (.iface 40 (.int .i64 n)) 71 40 true).run Tryd.prog W = .ok (.tuple #[.int .i64 n, .bool true]) W := by kernel_rfl
theorem lm_move (a b c d : R23) (x : Option R23) (w : World) :
    Calls Tryd.prog 52 #[lmV a b c d, lpV x] w fun e w' => e = .returned (lpV (lmF a b c d x)) ∧ Below w.heap.size w w' := by
  cases x with
  | none =>
    have HM := Lib.hid (res_over a c)
    rw [show lmF a b c d none = ovF a c from rfl, show lpV none = .iface 74 (.agg #[]) from rfl]
    have HI := is_res_no (.agg #[])
    unfold lmV
    generalize lpV (ovF a c) = y at *
    go_enter Tryd.func52, Tryd.ntmps52
    go_wp2_with fail
    refine (HM.out _).mono ?_
    rintro e w' ⟨rfl, rfl⟩
    go_wp2_with fail
    go_ret
    exact ⟨rfl, (Below.refl _ _).alloc (Nat.le_refl _) _⟩
  | some x =>
    have H1 := Lib.hid (res_times a x)
    have H2 := Lib.hid (res_add (a * x) b)
    have H3 := Lib.hid (res_times c x)
    have H4 := Lib.hid (res_add (c * x) d)
    have HM := Lib.hid (res_over (a * x + b) (c * x + d))
    rw [show lmF a b c d (some x) = ovF (a * x + b) (c * x + d) from rfl, show lpV (some x) = .iface 40 (.int .i64 x.val) from rfl]
    have HI := is_res_yes (x.val : Int)
    unfold lmV
    generalize lpV (ovF (a * x + b) (c * x + d)) = y at *
    generalize ((a * x + b).val : Int) = n1 at *
    generalize ((c * x + d).val : Int) = n2 at *
    generalize ((a * x).val : Int) = n3 at *
    generalize ((c * x).val : Int) = n4 at *
    go_enter Tryd.func52, Tryd.ntmps52
    go_wp2_with fail
    go_quiet ((first | (go_at_call 49; first | with_reducible exact qsL (H1.out _) | with_reducible exact qsA (H1.out _) | with_reducible exact qsL (H3.out _) | with_reducible exact qsA (H3.out _)) | (go_at_call 65; first | with_reducible exact qsL (H2.out _) | with_reducible exact qsA (H2.out _) | with_reducible exact qsL (H4.out _) | with_reducible exact qsA (H4.out _)) | (go_at_call 66; first | with_reducible exact qsL (HM.out _) | with_reducible exact qsA (HM.out _))))
    go_wp2_with fail
    go_ret
    exact ⟨rfl, below_drewN ((Below.refl _ _).alloc (Nat.le_refl _) _) _⟩
theorem heap3 (w : World) (o1 o2 : Obj) (cs : Array Value) (t : TypeId) : (((w.alloc o1).alloc o2).alloc (.cells cs t)).heap[w.heap.size + 1 + 1]? = some (.cells cs t (0, 0)) := by
  have := heap_alloc_new ((w.alloc o1).alloc o2) (.cells cs t)
  simpa using this
theorem heap1 (w : World) (cs : Array Value) (t : TypeId) (o1 o2 : Obj) : Blk ((((w.alloc (.cells cs t)).alloc o1).alloc o2).drew) w.heap.size t cs := by
  have h1 : (w.alloc (.cells cs t)).heap[w.heap.size]? = some (.cells cs t (0, 0)) := heap_alloc_new w _
  have h2 : ((w.alloc (.cells cs t)).alloc o1).heap[w.heap.size]? = some (.cells cs t (0, 0)) := (heap_alloc_old _ o1 (by simp)).trans h1
  exact (heap_alloc_old _ o2 (by simp; omega)).trans h2
theorem cell3 (w : World) (o1 o2 : Obj) (cs : Array Value) (t : TypeId) (j : Nat) (v : Value) (h : cs[j]? = some v) : (((w.alloc o1).alloc o2).alloc (.cells cs t)).cell? ⟨w.heap.size + 1 + 1, j, none⟩ = some v :=
  (cell_of_row _ _ j cs t (0, 0) (heap3 w o1 o2 cs t)).trans h
theorem iq0 (v0 v1 v2 v3 : Value) (W : World) : (Instr.index 68 (.agg #[v0, v1, v2, v3]) (.int .i64 0)).run Tryd.prog W = .ok v0 W := by kernel_rfl
theorem iq1 (v0 v1 v2 v3 : Value) (W : World) : (Instr.index 68 (.agg #[v0, v1, v2, v3]) (.int .i64 1)).run Tryd.prog W = .ok v1 W := by kernel_rfl
theorem iq2 (v0 v1 v2 v3 : Value) (W : World) : (Instr.index 68 (.agg #[v0, v1, v2, v3]) (.int .i64 2)).run Tryd.prog W = .ok v2 W := by kernel_rfl
theorem iq3 (v0 v1 v2 v3 : Value) (W : World) : (Instr.index 68 (.agg #[v0, v1, v2, v3]) (.int .i64 3)).run Tryd.prog W = .ok v3 W := by kernel_rfl
set_option maxHeartbeats 2000000 in
theorem lmFrom_ok (a b c d : R23) (w : World) :
    Calls Tryd.prog 25 #[.int .i64 a.val, .int .i64 b.val, .int .i64 c.val, .int .i64 d.val] w fun e w' => e = .returned (.tuple #[lmV a b c d, .bool (sqF (a * d - b * c))]) ∧ Below w.heap.size w w' := by
  have I0 := iq0 (.int .i64 a.val) (.int .i64 b.val) (.int .i64 c.val) (.int .i64 d.val)
  have I1 := iq1 (.int .i64 a.val) (.int .i64 b.val) (.int .i64 c.val) (.int .i64 d.val)
  have I2 := iq2 (.int .i64 a.val) (.int .i64 b.val) (.int .i64 c.val) (.int .i64 d.val)
  have I3 := iq3 (.int .i64 a.val) (.int .i64 b.val) (.int .i64 c.val) (.int .i64 d.val)
  have H1 := Lib.hid (res_times a d)
  have H2 := Lib.hid (res_times b c)
  have H3 := Lib.hid (res_minus (a * d) (b * c))
  have H4 := Lib.hid (res_sq (a * d - b * c))
  unfold lmV
  go_enter Tryd.func25, Tryd.ntmps25
  go_wp2
  refine wp_loop_rounds 5 ?_
  iterate 5 (rw [rounds_succ]; go_wp2_with (go_at_call 32; refine (resFrom_ok _ _).mono ?_; rintro e w' ⟨rfl, rfl⟩))
  -- region
  have HSW : Hid ((fun W => W.heap[w.heap.size + 1 + 1]? = some (.cells #[.int .i64 a.val, .int .i64 b.val, .int .i64 c.val, .int .i64 d.val] 42 (0, 0))) (((w.alloc (.cells #[.int .i64 0, .int .i64 0, .int .i64 0, .int .i64 0] 42)).alloc (.cells #[.int .i64 a.val, .int .i64 b.val, .int .i64 c.val, .int .i64 d.val] 67)).alloc (.cells #[.int .i64 a.val, .int .i64 b.val, .int .i64 c.val, .int .i64 d.val] 42))) := Lib.hid (heap3 _ _ _ _ _)
  refine wp_region_held_drew (S := fun W => W.heap[w.heap.size + 1 + 1]? = some (.cells #[.int .i64 a.val, .int .i64 b.val, .int .i64 c.val, .int .i64 d.val] 42 (0, 0))) (by kernel_rfl) HSW.out (fun hd => ?_)
  refine wpAnyH_take (i := 0) (v := .agg #[.int .i64 a.val, .int .i64 b.val, .int .i64 c.val, .int .i64 d.val]) rfl (by kernel_rfl) (by kernel_rfl) (by kernel_rfl) (fun _ _ _ h => h) (Or.inl ⟨by kernel_rfl, fun w hS => by have hS1 := (cell_of_row _ _ 0 _ _ (0, 0) hS).trans (show (#[.int .i64 a.val, .int .i64 b.val, .int .i64 c.val, .int .i64 d.val] : Array Value)[0]? = some (.int .i64 a.val) from rfl); have hS2 := (cell_of_row _ _ 1 _ _ (0, 0) hS).trans (show (#[.int .i64 a.val, .int .i64 b.val, .int .i64 c.val, .int .i64 d.val] : Array Value)[1]? = some (.int .i64 b.val) from rfl); have hS3 := (cell_of_row _ _ 2 _ _ (0, 0) hS).trans (show (#[.int .i64 a.val, .int .i64 b.val, .int .i64 c.val, .int .i64 d.val] : Array Value)[2]? = some (.int .i64 c.val) from rfl); have hS4 := (cell_of_row _ _ 3 _ _ (0, 0) hS).trans (show (#[.int .i64 a.val, .int .i64 b.val, .int .i64 c.val, .int .i64 d.val] : Array Value)[3]? = some (.int .i64 d.val) from rfl); clear hS; go_simp⟩) hd ?_
  change wpAnyH _ _ _ _ _ _ _ (Act.put _ (some 46) (.agg #[.int .i64 a.val, .int .i64 b.val, .int .i64 c.val, .int .i64 d.val])) _
  simp only [Act.put, List.setIfInBounds_toArray, List.set_cons_zero, List.set_cons_succ]
  refine wpAnyH_take (i := 1) (v := .pointer (some ⟨w.heap.size + 1 + 1, 0, none⟩)) rfl (by kernel_rfl) (by kernel_rfl) (by kernel_rfl) (fun _ _ _ h => h) (Or.inl ⟨by kernel_rfl, fun w hS => by go_simp⟩) hd ?_
  change wpAnyH _ _ _ _ _ _ _ (Act.put _ (some 47) (.pointer (some ⟨w.heap.size + 1 + 1, 0, none⟩))) _
  simp only [Act.put, List.setIfInBounds_toArray, List.set_cons_zero, List.set_cons_succ]
  refine wpAnyH_take (i := 2) (v := .int .i64 (a.val : Int)) rfl (by kernel_rfl) (by kernel_rfl) (by kernel_rfl) (fun _ _ _ h => h) (Or.inl ⟨by kernel_rfl, fun w hS => by have hS1 := (cell_of_row _ _ 0 _ _ (0, 0) hS).trans (show (#[.int .i64 a.val, .int .i64 b.val, .int .i64 c.val, .int .i64 d.val] : Array Value)[0]? = some (.int .i64 a.val) from rfl); clear hS; go_simp⟩) hd ?_
  change wpAnyH _ _ _ _ _ _ _ (Act.put _ (some 48) (.int .i64 (a.val : Int))) _
  simp only [Act.put, List.setIfInBounds_toArray, List.set_cons_zero, List.set_cons_succ]
  refine wpAnyH_take (i := 3) (v := .pointer (some ⟨w.heap.size + 1 + 1, 3, none⟩)) rfl (by kernel_rfl) (by kernel_rfl) (by kernel_rfl) (fun _ _ _ h => h) (Or.inl ⟨by kernel_rfl, fun w hS => by go_simp⟩) hd ?_
  change wpAnyH _ _ _ _ _ _ _ (Act.put _ (some 49) (.pointer (some ⟨w.heap.size + 1 + 1, 3, none⟩))) _
  simp only [Act.put, List.setIfInBounds_toArray, List.set_cons_zero, List.set_cons_succ]
  refine wpAnyH_take (i := 4) (v := .int .i64 (d.val : Int)) rfl (by kernel_rfl) (by kernel_rfl) (by kernel_rfl) (fun _ _ _ h => h) (Or.inl ⟨by kernel_rfl, fun w hS => by have hS1 := (cell_of_row _ _ 3 _ _ (0, 0) hS).trans (show (#[.int .i64 a.val, .int .i64 b.val, .int .i64 c.val, .int .i64 d.val] : Array Value)[3]? = some (.int .i64 d.val) from rfl); clear hS; go_simp⟩) hd ?_
  change wpAnyH _ _ _ _ _ _ _ (Act.put _ (some 50) (.int .i64 (d.val : Int))) _
  simp only [Act.put, List.setIfInBounds_toArray, List.set_cons_zero, List.set_cons_succ]
  refine wpAnyH_take (i := 6) (v := .pointer (some ⟨w.heap.size + 1 + 1, 1, none⟩)) rfl (by kernel_rfl) (by kernel_rfl) (by kernel_rfl) (fun _ _ _ h => h) (Or.inl ⟨by kernel_rfl, fun w hS => by go_simp⟩) hd ?_
  change wpAnyH _ _ _ _ _ _ _ (Act.put _ (some 52) (.pointer (some ⟨w.heap.size + 1 + 1, 1, none⟩))) _
  simp only [Act.put, List.setIfInBounds_toArray, List.set_cons_zero, List.set_cons_succ]
  refine wpAnyH_take (i := 7) (v := .int .i64 (b.val : Int)) rfl (by kernel_rfl) (by kernel_rfl) (by kernel_rfl) (fun _ _ _ h => h) (Or.inl ⟨by kernel_rfl, fun w hS => by have hS1 := (cell_of_row _ _ 1 _ _ (0, 0) hS).trans (show (#[.int .i64 a.val, .int .i64 b.val, .int .i64 c.val, .int .i64 d.val] : Array Value)[1]? = some (.int .i64 b.val) from rfl); clear hS; go_simp⟩) hd ?_
  change wpAnyH _ _ _ _ _ _ _ (Act.put _ (some 53) (.int .i64 (b.val : Int))) _
  simp only [Act.put, List.setIfInBounds_toArray, List.set_cons_zero, List.set_cons_succ]
  refine wpAnyH_take (i := 8) (v := .pointer (some ⟨w.heap.size + 1 + 1, 2, none⟩)) rfl (by kernel_rfl) (by kernel_rfl) (by kernel_rfl) (fun _ _ _ h => h) (Or.inl ⟨by kernel_rfl, fun w hS => by go_simp⟩) hd ?_
  change wpAnyH _ _ _ _ _ _ _ (Act.put _ (some 54) (.pointer (some ⟨w.heap.size + 1 + 1, 2, none⟩))) _
  simp only [Act.put, List.setIfInBounds_toArray, List.set_cons_zero, List.set_cons_succ]
  refine wpAnyH_take (i := 9) (v := .int .i64 (c.val : Int)) rfl (by kernel_rfl) (by kernel_rfl) (by kernel_rfl) (fun _ _ _ h => h) (Or.inl ⟨by kernel_rfl, fun w hS => by have hS1 := (cell_of_row _ _ 2 _ _ (0, 0) hS).trans (show (#[.int .i64 a.val, .int .i64 b.val, .int .i64 c.val, .int .i64 d.val] : Array Value)[2]? = some (.int .i64 c.val) from rfl); clear hS; go_simp⟩) hd ?_
  change wpAnyH _ _ _ _ _ _ _ (Act.put _ (some 55) (.int .i64 (c.val : Int))) _
  simp only [Act.put, List.setIfInBounds_toArray, List.set_cons_zero, List.set_cons_succ]
  refine wpAnyH_ready (rs := [5]) (by kernel_rfl) (by simp) ?_
  refine AllReadyH.cons rfl (fun K hK => ?_) AllReadyH.nil
  go_simp
  go_at_call 49
  refine (H1.out _).mono ?_
  rintro e w' ⟨rfl, rfl⟩
  have hd2 := hd
  refine hK.out _ _ hd2 (fun _ => ?_)
  refine wpAnyH_ready (rs := [10]) (by kernel_rfl) (by simp) ?_
  refine AllReadyH.cons rfl (fun K hK => ?_) AllReadyH.nil
  go_simp
  go_at_call 49
  refine (H2.out _).mono ?_
  rintro e w' ⟨rfl, rfl⟩
  have hd2 := hd
  refine hK.out _ _ hd2 (fun _ => ?_)
  refine wpAnyH_ready (rs := [11]) (by kernel_rfl) (by simp) ?_
  refine AllReadyH.cons rfl (fun K hK => ?_) AllReadyH.nil
  go_simp
  go_at_call 50
  refine (H3.out _).mono ?_
  rintro e w' ⟨rfl, rfl⟩
  have hd2 := hd
  refine hK.out _ _ hd2 (fun _ => ?_)
  refine wpAnyH_ready (rs := [12]) (by kernel_rfl) (by simp) ?_
  refine AllReadyH.cons rfl (fun K hK => ?_) AllReadyH.nil
  go_simp
  go_at_call 51
  refine (H4.out _).mono ?_
  rintro e w' ⟨rfl, rfl⟩
  have hd2 := hd
  refine hK.out _ _ hd2 (fun _ => ?_)
  refine wpAnyH_ready (rs := [13]) (by kernel_rfl) (by simp) ?_
  refine AllReadyH.cons rfl (fun K hK => ?_) AllReadyH.nil
  go_simp
  have hd2 := heap3 w (.cells #[.int .i64 a.val, .int .i64 b.val, .int .i64 c.val, .int .i64 d.val] 42) (.cells #[.int .i64 a.val, .int .i64 b.val, .int .i64 c.val, .int .i64 d.val] 67) #[.int .i64 a.val, .int .i64 b.val, .int .i64 c.val, .int .i64 d.val] 42
  refine hK.out _ _ hd2 (fun _ => ?_)
  refine wpAnyH_take (i := 14) (v := .bool (sqF (a * d - b * c))) rfl (by kernel_rfl) (by kernel_rfl) (by kernel_rfl) (fun _ _ _ h => h) (Or.inl ⟨by kernel_rfl, fun w hS => by go_simp⟩) hd2 ?_
  change wpAnyH _ _ _ _ _ _ _ (Act.put _ (some 9) (.bool (sqF (a * d - b * c)))) _
  simp only [Act.put, List.setIfInBounds_toArray, List.set_cons_zero, List.set_cons_succ]
  refine wpAnyH_done (by kernel_rfl) ?_ _
  go_wp2_with fail
  exact bodyPost_ret (results_ct rfl rfl rfl (heap1 w _ _ _ _) Tryd.underlying42 rfl (by kernel_rfl)) rfl ⟨rfl, ((((Below.refl _ _).alloc (Nat.le_refl _) _).alloc (by simp) _).alloc (by simp; omega) _).drew⟩
end Go.Proofs.YtepaaijlkimmeaaDoor
