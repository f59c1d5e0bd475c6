/- The triangle of the program: rows made, octads counted. -/
import Derived.Test.YtnfpdonlknkccacDoorC70
import Derived.Test.YtnfpdonlknkccacDoorM26
import Derived.Test.YtnfpdonlknkccacDoorC41
namespace Go.Proofs.YtnfpdonlknkccacDoor
open Go.RowKit Go.Shelf
attribute [local go_sem] Oper.semAt_some
set_option linter.unusedVariables false
attribute [local irreducible] octS cN octF

/-- A row of the triangle of some octads. -/
def triV (L : List Int) (W i : Nat) : List Int := (List.range (i + 1)).map fun k => ((triN L (fstI W i) (fstI W k) : Nat) : Int)
theorem triV_len (L : List Int) (W i : Nat) : (triV L W i).length = i + 1 := by simp [triV]
theorem triV_at (L : List Int) (W i k : Nat) (h : k ≤ i) : (triV L W i).getD k 0 = ((triN L (fstI W i) (fstI W k) : Nat) : Int) := by
  rw [List.getD_eq_getElem?_getD, List.getElem?_eq_getElem (by rw [triV_len]; omega)]
  simp [triV]
theorem triV_octS (W i : Nat) : triV octS W i = triR W i (i + 1) := rfl
theorem triV_perm {L M : List Int} (h : L.Perm M) (W i : Nat) : triV L W i = triV M W i := by
  unfold triV triN
  refine List.map_congr_left fun k _ => ?_
  rw [h.countP_eq]
theorem fst_wt (W k : Nat) (hW : W < 16777216) (h8 : pop W = 8) (hk : k ≤ 8) : wt (fstI W k) = (k : Int) := by
  unfold fstI
  rw [wt_pop, pop_first W k hW (by omega)]
theorem triV_yes (L : List Int) (x : Int) (W i k : Nat) (hW : W < 16777216) (h8 : pop W = 8) (hi : i ≤ 8) (hk : k ≤ i) (h : andI x (fstI W i) = fstI W k) :
    triV (L ++ [x]) W i = (triV L W i).set k ((triV L W i).getD k 0 + 1) := by
  refine List.ext_getElem (by simp [triV_len]) fun j h1 h2 => ?_
  rw [triV_len] at h1
  have e1 : (triV (L ++ [x]) W i)[j] = (triV (L ++ [x]) W i).getD j 0 := getD_at _ _ _
  rw [e1, triV_at _ _ _ _ (by omega), triN_snoc, List.getElem_set]
  by_cases e : k = j
  · subst e
    rw [if_pos rfl, triV_at _ _ _ _ hk, h, beq_self_eq_true, if_pos rfl]
    simp
  · have hne : ¬ (andI x (fstI W i) == fstI W j) = true := fun q => by
      rw [beq_iff_eq, h] at q
      have := congrArg wt q
      rw [fst_wt W k hW h8 (by omega), fst_wt W j hW h8 (by omega)] at this
      omega
    rw [if_neg e, if_neg hne]
    have e2 : (triV L W i)[j]'(by rw [triV_len]; omega) = (triV L W i).getD j 0 := getD_at _ _ _
    rw [e2, triV_at _ _ _ _ (by omega)]
theorem triV_no (L : List Int) (x : Int) (W i k : Nat) (hW : W < 16777216) (h8 : pop W = 8) (hi : i ≤ 8) (hk : wt (andI x (fstI W i)) = (k : Int)) (h : ¬ andI x (fstI W i) = fstI W k) :
    triV (L ++ [x]) W i = triV L W i := by
  refine List.ext_getElem (by simp [triV_len]) fun j h1 h2 => ?_
  rw [triV_len] at h1
  have e1 : (triV (L ++ [x]) W i)[j] = (triV (L ++ [x]) W i).getD j 0 := getD_at _ _ _
  have e2 : (triV L W i)[j] = (triV L W i).getD j 0 := getD_at _ _ _
  have hne : ¬ (andI x (fstI W i) == fstI W j) = true := fun q => by
    rw [beq_iff_eq] at q
    have := congrArg wt q
    rw [hk, fst_wt W j hW h8 (by omega)] at this
    have hkj : k = j := by omega
    rw [hkj] at h
    exact h q
  rw [e1, e2, triV_at _ _ _ _ (by omega), triV_at _ _ _ _ (by omega), triN_snoc, if_neg hne]
theorem triV_le (L : List Int) (W i k : Nat) (h : k ≤ i) : 0 ≤ (triV L W i).getD k 0 ∧ (triV L W i).getD k 0 ≤ L.length := by
  rw [triV_at _ _ _ _ h]
  have := triN_le L (fstI W i) (fstI W k)
  omega
theorem triV_nil (W i : Nat) : triV [] W i = List.replicate (i + 1) 0 := by
  unfold triV triN
  simp only [List.countP_nil]
  rw [show (fun (k : Nat) => (((0 : Nat) : Nat) : Int)) = fun _ => (0 : Int) from rfl, List.map_const', List.length_range]
theorem mkRow (n : Nat) (h : n ≤ 9) (W : World) : (Instr.makeSlice 28 (.int .i64 (n : Int)) (.int .i64 (n : Int))).run Tryd.prog W = .ok (.slice (some ⟨W.heap.size, 0, none⟩) n n) (W.alloc (.cells (vals .i64 (List.replicate n 0)).toArray 3)) := by
  rcases (by omega : n = 0 ∨ n = 1 ∨ n = 2 ∨ n = 3 ∨ n = 4 ∨ n = 5 ∨ n = 6 ∨ n = 7 ∨ n = 8 ∨ n = 9) with rfl | rfl | rfl | rfl | rfl | rfl | rfl | rfl | rfl | rfl
  all_goals kernel_rfl
theorem mkOuter (W : World) : (Instr.makeSlice 24 (.int .i64 9) (.int .i64 9)).run Tryd.prog W = .ok (.slice (some ⟨W.heap.size, 0, none⟩) 9 9) (W.alloc (.cells #[.slice none 0 0, .slice none 0 0, .slice none 0 0, .slice none 0 0, .slice none 0 0, .slice none 0 0, .slice none 0 0, .slice none 0 0, .slice none 0 0] 28)) := by kernel_rfl
/-- The outer array when its first i rows are made. -/
def outA (B i : Nat) : Array Value := ((List.range 9).map fun j => if j < i then Value.slice (some ⟨B + 3 + j, 0, none⟩) (j + 1) (j + 1) else .slice none 0 0).toArray
theorem outA_zero (B : Nat) : outA B 0 = #[.slice none 0 0, .slice none 0 0, .slice none 0 0, .slice none 0 0, .slice none 0 0, .slice none 0 0, .slice none 0 0, .slice none 0 0, .slice none 0 0] := rfl
theorem outA_at (B i j : Nat) (hj : j < 9) : (outA B i)[j]? = some (if j < i then Value.slice (some ⟨B + 3 + j, 0, none⟩) (j + 1) (j + 1) else .slice none 0 0) := by
  unfold outA
  rw [List.getElem?_toArray, List.getElem?_map, List.getElem?_range hj]
  rfl
theorem outA_size (B i : Nat) : (outA B i).size = 9 := by simp [outA]
theorem outA_set (B i : Nat) (hi : i < 9) : (outA B i).setIfInBounds i (.slice (some ⟨B + 3 + i, 0, none⟩) (i + 1) (i + 1)) = outA B (i + 1) := by
  apply Array.ext_getElem?
  intro j
  rw [Array.getElem?_setIfInBounds]
  by_cases hj : j < 9
  · rw [outA_at B (i + 1) j hj]
    by_cases e : i = j
    · subst e
      rw [if_pos rfl, if_pos (by rw [outA_size]; exact hi), if_pos (by omega)]
    · rw [if_neg e, outA_at B i j hj]
      by_cases h : j < i
      · rw [if_pos h, if_pos (by omega)]
      · rw [if_neg h, if_neg (by omega)]
  · have h0 : ∀ k, (outA B k)[j]? = none := fun k => Array.getElem?_eq_none (by rw [outA_size]; omega)
    rw [h0, h0]
    split
    · rename_i e; subst e; rw [if_neg (by rw [outA_size]; omega)]
    · rfl
/-- The memory of the triangle: its word, the outer list, its box, the rows. -/
def TriM (w : World) (W i : Nat) (f : Nat → List Int) (V : World) : Prop :=
  V.heap[w.heap.size]? = some (.cells #[.int .u32 (W : Int)] 45 (0, 0)) ∧ V.heap[w.heap.size + 1]? = some (.cells (outA w.heap.size i) 28 (0, 0)) ∧ V.heap[w.heap.size + 2]? = some (.cells #[.slice (some ⟨w.heap.size + 1, 0, none⟩) 9 9] 24 (0, 0)) ∧
  (∀ j, j < i → V.heap[w.heap.size + 3 + j]? = some (.cells (vals .i64 (f j)).toArray 3 (0, 0))) ∧ Below w.heap.size w V
theorem TriM.drew {w V : World} {W i : Nat} {f : Nat → List Int} (h : TriM w W i f V) : TriM w W i f V.drew :=
  ⟨h.1, h.2.1, h.2.2.1, h.2.2.2.1, ⟨h.2.2.2.2.os, h.2.2.2.2.tape, h.2.2.2.2.output, h.2.2.2.2.size, h.2.2.2.2.block⟩⟩
theorem TriM.drewN {w V : World} {W i : Nat} {f : Nat → List Int} (h : TriM w W i f V) (n : Nat) : TriM w W i f (V.drewN n) :=
  ⟨h.1, h.2.1, h.2.2.1, h.2.2.2.1, ⟨h.2.2.2.2.os, h.2.2.2.2.tape, h.2.2.2.2.output, h.2.2.2.2.size, h.2.2.2.2.block⟩⟩
theorem TriM.congr {w V : World} {W i : Nat} {f f' : Nat → List Int} (h : TriM w W i f V) (e : ∀ j, j < i → f j = f' j) : TriM w W i f' V :=
  ⟨h.1, h.2.1, h.2.2.1, fun j hj => by rw [← e j hj]; exact h.2.2.2.1 j hj, h.2.2.2.2⟩
theorem TriM.step {w V : World} {W i k : Nat} {y : Int} {f f' : Nat → List Int} (h : TriM w W 9 f V) (hi : i < 9) (e1 : f' i = (f i).set k y) (e2 : ∀ j, j < 9 → j ≠ i → f' j = f j) :
    TriM w W 9 f' (V.setCell ⟨w.heap.size + 3 + i, k, none⟩ (.int .i64 y)) := by
  obtain ⟨h1, h2, h3, h4, h5⟩ := h
  have hS : ∀ q, q ≠ w.heap.size + 3 + i → (V.setCell ⟨w.heap.size + 3 + i, k, none⟩ (.int .i64 y)).heap[q]? = V.heap[q]? := fun q hq => Below.heap_setCell _ ⟨w.heap.size + 3 + i, k, none⟩ _ q hq
  refine ⟨(hS _ (by omega)).trans h1, (hS _ (by omega)).trans h2, (hS _ (by omega)).trans h3, fun j hj => ?_, h5.setCell (by show w.heap.size ≤ w.heap.size + 3 + i; omega) _⟩
  by_cases e : j = i
  · subst e
    rw [e1]
    exact arr_set (f j) y (h4 j hj)
  · rw [hS _ (by omega), e2 j hj e]
    exact h4 j hj
theorem TriM.put {w V : World} {W D : Nat} {o : Obj} {f : Nat → List Int} (h : TriM w W 9 f V) (hD : w.heap.size + 12 ≤ D) : TriM w W 9 f (V.putObj D o) :=
  have hp : ∀ q, q < w.heap.size + 12 → (V.putObj D o).heap[q]? = V.heap[q]? := fun q hq => World.putObj_heap_other (by omega)
  ⟨(hp _ (by omega)).trans h.1, (hp _ (by omega)).trans h.2.1, (hp _ (by omega)).trans h.2.2.1, fun j hj => (hp _ (by omega)).trans (h.2.2.2.1 j hj), h.2.2.2.2.trans ⟨rfl, rfl, rfl, by simp [World.putObj], fun q hq => hp q (by omega)⟩⟩
theorem own_arrN {w : World} {B g : Nat} (xs : List Int) (hg : w.heap[g]? = some (.cells (vals .i64 xs).toArray 3 (0, 0))) (hB : B ≤ g) (hl : xs.length ≤ 100) : Own w B (.slice (some ⟨g, 0, none⟩) xs.length xs.length) xs :=
  ⟨by simp [vals_len], .inr ⟨g, xs.length, _, rfl, hB, hg, by simp, by unfold maxLen; omega, by simp [vals_len], by
    have : (vals .i64 xs).length ≤ xs.length * 1 := by rw [vals_len]; omega
    simp [List.take_of_length_le, vals_len]⟩⟩
theorem TriM.own2 {w V : World} {W : Nat} (h : TriM w W 9 (fun j => triV octS W j) V) : Own2 V w.heap.size (some ⟨w.heap.size + 1, 0, none⟩) (triL W) := by
  refine .inr ⟨w.heap.size + 1, fun j => w.heap.size + 3 + j, fun j => j + 1, rfl, by omega, ?_⟩
  rw [triL_len]
  refine ⟨(Array.getElem?_eq_some_iff.1 h.2.1).1, fun i hi => ?_⟩
  have e : (triL W).getD i [] = triV octS W i := by rw [← triL_at W i hi, triV_octS]
  have hl := triV_len octS W i
  have hc := outA_at w.heap.size 9 i hi
  rw [if_pos hi] at hc
  refine ⟨?_, ?_, by show w.heap.size + 3 + i ≠ w.heap.size + 1; omega, fun j hj hne => by show w.heap.size + 3 + j ≠ w.heap.size + 3 + i; omega⟩
  · dsimp only
    rw [e, hl]
    simp only [World.cell?, h.2.1]
    exact hc
  · dsimp only
    rw [e]
    have := own_arrN (B := w.heap.size) (triV octS W i) (h.2.2.2.1 i hi) (by omega) (by omega)
    rw [hl] at this ⊢
    exact this
theorem TriM.own {β : Type} {w : World} {W B0 : Nat} (f : β → Nat → List Int) (hB : w.heap.size + 12 ≤ B0) : OwnFrom B0 (fun (s : β) V => TriM w W 9 (f s) V) :=
  fun s A C row ⟨h1, h2, h3, h4, h5⟩ hg hr => by
    have hk : ∀ q, q < B0 → q < A.heap.size → C.heap[q]? = A.heap[q]? := fun q hq hq2 => hg.block q hq2 fun e => by have := (hr q e.symm).1; omega
    have ht : ∀ {q : Nat} {o : Obj}, q < B0 → A.heap[q]? = some o → C.heap[q]? = some o := fun {q o} hq ho => (hk q hq (Array.getElem?_eq_some_iff.1 ho).1).trans ho
    refine ⟨ht (by omega) h1, ht (by omega) h2, ht (by omega) h3, fun j hj => ht (by omega) (h4 j hj), h5.trans ⟨hg.os, hg.tape, hg.output, hg.size, fun q hq => ?_⟩⟩
    exact hk q (by omega) (Nat.lt_of_lt_of_le hq h5.size)
theorem TriM.row {w V : World} {W i : Nat} (h : TriM w W i (fun j => List.replicate (j + 1) 0) V) (hs : V.heap.size = w.heap.size + 3 + i) (hi : i < 9) :
    TriM w W (i + 1) (fun j => List.replicate (j + 1) 0) ((V.alloc (.cells (vals .i64 (List.replicate (i + 1) 0)).toArray 3)).setCell ⟨w.heap.size + 1, i, none⟩ (.slice (some ⟨V.heap.size, 0, none⟩) (i + 1) (i + 1))) := by
  obtain ⟨h1, h2, h3, h4, h5⟩ := h
  have hA : ∀ q, q < V.heap.size → (V.alloc (.cells (vals .i64 (List.replicate (i + 1) 0)).toArray 3)).heap[q]? = V.heap[q]? := fun q hq => Below.heap_alloc _ _ q hq
  have hS : ∀ q, q ≠ w.heap.size + 1 → ((V.alloc (.cells (vals .i64 (List.replicate (i + 1) 0)).toArray 3)).setCell ⟨w.heap.size + 1, i, none⟩ (.slice (some ⟨V.heap.size, 0, none⟩) (i + 1) (i + 1))).heap[q]? = (V.alloc (.cells (vals .i64 (List.replicate (i + 1) 0)).toArray 3)).heap[q]? := fun q hq => Below.heap_setCell _ ⟨w.heap.size + 1, i, none⟩ _ q hq
  refine ⟨?_, ?_, ?_, fun j hj => ?_, ?_⟩
  · rw [hS _ (by omega), hA _ (by omega)]; exact h1
  · have := heap_setCell_same (V.alloc (.cells (vals .i64 (List.replicate (i + 1) 0)).toArray 3)) (w.heap.size + 1) i _ 28 (.slice (some ⟨V.heap.size, 0, none⟩) (i + 1) (i + 1)) ((hA _ (by omega)).trans h2)
    rw [this, hs, outA_set _ _ hi]
  · rw [hS _ (by omega), hA _ (by omega)]; exact h3
  · rw [hS _ (by omega)]
    by_cases e : j = i
    · subst e
      rw [← hs]
      exact heap_alloc_new V _
    · rw [hA _ (by omega)]; exact h4 j (by omega)
  · exact h5.trans (((Below.refl _ V).alloc (by omega) _).setCell (Nat.le_succ _) _)
set_option maxRecDepth 100000 in
set_option maxHeartbeats 600000 in
theorem triangle_in (W : Nat) (hW : W < 16777216) (h8 : pop W = 8) (k : Nat) (hk : k = 4096) (w : World) (hT : Tab2 w) :
    CallsIn Fence.wide 6 Tryd.prog 30 #[.int .u32 (W : Int)] w fun e w' => ∃ A c, e = .returned (.slice A 9 c) ∧ Own2 w' w.heap.size A (triL W) ∧ Below w.heap.size w w' := by
  have HMO := mkOuter
  have HMR := Lib.hid mkRow
  have HFST := Lib.hid (fun i (hi : i ≤ 8) => show IsW (fstI W i) ∧ wt (fstI W i) = (i : Int) from ⟨⟨by unfold fstI; omega, by unfold fstI; have := firstW_lt W i hW; omega⟩, fst_wt W i hW h8 hi⟩)
  refine callsIn_of_wp_marks Tryd.func30 rfl trivial ?_ rfl
  simp only [Tryd.ntmps30, List.size_toArray, List.length_cons, List.length_nil, Nat.reduceAdd, Nat.reduceSub, Array.replicate_succ, Array.replicate_zero, List.push_toArray, List.append_toArray, List.nil_append, List.cons_append]
  gi_wp2_with fail
  have hM0 : TriM w W 0 (fun j => List.replicate (j + 1) 0) (((w.alloc (.cells #[.int .u32 (W : Int)] 45)).alloc (.cells #[.slice none 0 0, .slice none 0 0, .slice none 0 0, .slice none 0 0, .slice none 0 0, .slice none 0 0, .slice none 0 0, .slice none 0 0, .slice none 0 0] 28)).alloc (.cells #[.slice (some ⟨w.heap.size + 1, 0, none⟩) 9 9] 24)) := by
    refine ⟨?_, ?_, ?_, fun j hj => absurd hj (by omega), (((Below.refl _ w).alloc (Nat.le_refl _) _).alloc (by simp) _).alloc (by simp; omega) _⟩
    · exact (Below.heap_alloc _ _ w.heap.size (by simp; omega)).trans ((Below.heap_alloc _ _ w.heap.size (by simp)).trans (heap_alloc_new w _))
    · refine (Below.heap_alloc _ _ (w.heap.size + 1) (by simp)).trans ?_
      have := heap_alloc_new (w.alloc (.cells #[.int .u32 (W : Int)] 45)) (.cells #[.slice none 0 0, .slice none 0 0, .slice none 0 0, .slice none 0 0, .slice none 0 0, .slice none 0 0, .slice none 0 0, .slice none 0 0, .slice none 0 0] 28)
      rwa [World.size_alloc] at this
    · have := heap_alloc_new ((w.alloc (.cells #[.int .u32 (W : Int)] 45)).alloc (.cells #[.slice none 0 0, .slice none 0 0, .slice none 0 0, .slice none 0 0, .slice none 0 0, .slice none 0 0, .slice none 0 0, .slice none 0 0, .slice none 0 0] 28)) (.cells #[.slice (some ⟨w.heap.size + 1, 0, none⟩) 9 9] 24)
      rwa [World.size_alloc, World.size_alloc] at this
  have hs0 : (((w.alloc (.cells #[.int .u32 (W : Int)] 45)).alloc (.cells #[.slice none 0 0, .slice none 0 0, .slice none 0 0, .slice none 0 0, .slice none 0 0, .slice none 0 0, .slice none 0 0, .slice none 0 0, .slice none 0 0] 28)).alloc (.cells #[.slice (some ⟨w.heap.size + 1, 0, none⟩) 9 9] 24)).heap.size = w.heap.size + 3 := by simp
  have HM0 := Lib.hid hM0
  have HS0 := Lib.hid hs0
  clear hM0 hs0 HMO
  generalize ((w.alloc (.cells #[.int .u32 (W : Int)] 45)).alloc (.cells #[.slice none 0 0, .slice none 0 0, .slice none 0 0, .slice none 0 0, .slice none 0 0, .slice none 0 0, .slice none 0 0, .slice none 0 0, .slice none 0 0] 28)).alloc (.cells #[.slice (some ⟨w.heap.size + 1, 0, none⟩) 9 9] 24) = w3 at *
  gi_loopw [13] (fun v wq => ∃ i : Nat, i ≤ 9 ∧ v = .int .i64 i ∧ Hid (TriM w W i (fun j => List.replicate (j + 1) 0) wq) ∧ Hid (wq.heap.size = w.heap.size + 3 + i)) (fun v _ => 9 - (intOf v).toNat)
  case atStart => exact ⟨0, by omega, rfl, HM0, HS0⟩
  case round =>
    obtain ⟨i, hi, rfl, hm, hsz⟩ := hrel
    by_cases hlt : i < 9
    · have hc3 : wr.cell? ⟨w.heap.size + 2, 0, none⟩ = some (.slice (some ⟨w.heap.size + 1, 0, none⟩) 9 9) := Boxed.cell (t := 24) hm.out.2.2.1
      have hco : wr.cell? ⟨w.heap.size + 1, i, none⟩ = some (.slice none 0 0) := by
        have := outA_at w.heap.size i i hlt
        rw [if_neg (Nat.lt_irrefl i)] at this
        simp only [World.cell?, hm.out.2.1]
        exact this
      have hfo : wr.frozen? ⟨w.heap.size + 1, i, none⟩ = false := Lib.frozen_of_heap hm.out.2.1 _
      have hmk := fun V => HMR.out (i + 1) (by omega) V
      rw [show ((i + 1 : Nat) : Int) = (i : Int) + 1 by omega] at hmk
      have HROW := Lib.hid (hm.out.row hsz.out hlt)
      generalize (vals .i64 (List.replicate (i + 1) 0)).toArray = Z at *
      obtain ⟨m, hm1⟩ : ∃ m : Nat, i + 1 = m := ⟨_, rfl⟩
      have hm1I : (i : Int) + 1 = (m : Int) := by omega
      rw [hm1I, hm1] at hmk
      rw [hm1] at HROW
      have HM1 := Lib.hid hm1
      clear hm1
      have hq1 : (0 : Int) ≤ (i : Int) := by omega
      have hq2 : (i : Int) < 9 := by omega
      have hwr : IntKind.i64.wrap (m : Int) = (m : Int) := by rw [IntKind.wrap_i64]; omega
      have hlt3 : w.heap.size + 2 < wr.heap.size := by have := hsz.out; omega
      have hc3a : ∀ o, (wr.alloc o).cell? ⟨w.heap.size + 2, 0, none⟩ = some (.slice (some ⟨w.heap.size + 1, 0, none⟩) 9 9) := fun o => (World.cell?_alloc_lt wr o ⟨w.heap.size + 2, 0, none⟩ hlt3).trans hc3
      have hcoa : ∀ o, (wr.alloc o).cell? ⟨w.heap.size + 1, i, none⟩ = some (.slice none 0 0) := fun o => (World.cell?_alloc_lt wr o ⟨w.heap.size + 1, i, none⟩ (by show w.heap.size + 1 < _; omega)).trans hco
      have hfoa : ∀ o, (wr.alloc o).frozen? ⟨w.heap.size + 1, i, none⟩ = false := fun o => Lib.frozen_of_heap ((Below.heap_alloc wr o (w.heap.size + 1) (by omega)).trans hm.out.2.1) _
      gi_wp2_with fail
      refine wpIn_wide.2 ?_
      go_region
      all_goals gi_wp2_with fail
      go_roundw
      case rel => exact ⟨i + 1, by omega, by go_num, by rw [HM1.out]; exact Lib.hid HROW.out.drew, Lib.hid (by show ((wr.alloc _).setCell _ _).heap.size = _; rw [World.size_setCell, World.size_alloc, hsz.out]; omega)⟩
      case measure => first | (simp [intOf]; done) | (simp [intOf]; omega)
    · obtain rfl : i = 9 := by omega
      have HB0 := Lib.hid hm.out.2.2.2.2
      have HSZ := Lib.hid (show wr.heap.size = w.heap.size + 12 by rw [hsz.out])
      have HTM := Lib.hid hm
      clear hm hsz HM0 HS0
      gi_wp2_with (refine ⟨trivial, ?_⟩; gi_at_call 52; refine (callsIn_wide.2 (octadsWith_calls _ _ _)).mono ?_; rintro e w' ⟨rfl, rfl⟩)
      have hT2 : Tab2 wr := hT.below HB0.out hT.lt
      have hsz := HSZ.out
      have hs4 := owW_size 0 0 wr
      have hcb := owW_below 0 0 wr
      have w00 : IsW 0 := ⟨by omega, by omega⟩
      have hit := octs_it 0 0 w00 w00 k w.heap.size hk wr (by omega) hT.lt hT2
      have hkeep : ∀ q, q < wr.heap.size → (owW 0 0 wr).heap[q]? = wr.heap[q]? := fun q hq => hcb.block q hq
      have hM4 : TriM w W 9 (fun j => triV (([] : List (Oc 0 0)).map fun x => x.val) W j) (owW 0 0 wr) := by
        obtain ⟨h1, h2, h3, h4, h5⟩ := HTM.out.out
        refine ⟨(hkeep _ (by omega)).trans h1, (hkeep _ (by omega)).trans h2, (hkeep _ (by omega)).trans h3, fun j hj => (hkeep _ (by omega)).trans ?_, h5.trans (hcb.mono h5.size)⟩
        have := h4 j hj
        dsimp only at this ⊢
        rw [List.map_nil, triV_nil]
        exact this
      generalize wr.heap.size = sz at *
      have HM4 := Lib.hid hM4
      clear hcb hkeep hM4 HTM HB0 hT2
      generalize owW 0 0 wr = w4 at *
      refine wp_range_it (gf := 70) (lb := #[.pointer (some ⟨sz, 0, none⟩), .pointer (some ⟨sz + 1, 0, none⟩)]) rfl (enters_of Tryd.func70 (by kernel_rfl) rfl) hit (fun h k => KpOf.trans h k) (fun V j o hj hjl => KpOf.put V j o (by omega) (by omega) hjl) (Below.refl _ _) (fun _ => rfl)
        (fun (pre : List (Oc 0 0)) V => TriM w W 9 (fun j => triV (pre.map fun x => x.val) W j) V)
        (fun _ _ _ => False)
        (TriM.own (fun (pre : List (Oc 0 0)) j => triV (pre.map fun x => x.val) W j) (by omega))
        (fun _ _ _ _ _ hs _ _ => hs)
        HM4.out
        (fun x => { tmps := #[.int .u32 (W : Int), .pointer (some ⟨w.heap.size, 0, none⟩), .slice none 0 0, .pointer (some ⟨w.heap.size + 1 + 1, 0, none⟩), u4, .int .u32 x.val, undef, undef, undef, undef, .slice (some ⟨w.heap.size + 1, 0, none⟩) 9 9, .slice (some ⟨w.heap.size + 1, 0, none⟩) 9 9, .int .i64 9, .int .i64 9, .bool false, u15, u16, u17, u18, u19, u20, u21, u22, .func (.func 70) #[] #[.pointer (some ⟨sz, 0, none⟩), .pointer (some ⟨sz + 1, 0, none⟩)], .int .u32 x.val, undef, undef, undef, undef, undef, undef, undef, undef, undef, undef, undef, undef, undef, undef, undef, undef, undef, undef, undef, undef, undef, undef, undef, undef, undef, undef, undef], defers := [] }) ?assign ?body ?done ?stop
      case assign =>
        intro l x V K hK
        clear hsz HSZ
        unfold encO
        gi_wp2
        first
          | exact hK
          | (go_simp; exact hK)
      case body =>
        rintro l pre x V hM hlen hsK
        have HSZ2 := Lib.hid hsz
        clear hsz
        have hc3 : V.cell? ⟨w.heap.size + 2, 0, none⟩ = some (.slice (some ⟨w.heap.size + 1, 0, none⟩) 9 9) := Boxed.cell (t := 24) hM.2.2.1
        have hd : 1 ≤ 6 - 1 - 1 := by omega
        have hx := x.property.1
        have wx : IsW x.val := hx.rng
        have HPRE := Lib.hid (show ∃ q : List Int, pre.map (fun x => x.val) = q ∧ (pre ++ [x]).map (fun x => x.val) = q ++ [x.val] from ⟨_, rfl, by simp⟩)
        obtain ⟨L, hL1, hL2⟩ := HPRE.out
        rw [hL1] at hM
        have hlL : L.length < 4096 := by rw [← hL1, List.length_map]; omega
        have HL2 := Lib.hid hL2
        have HM := Lib.hid hM
        clear HPRE hL1 hL2 hM hit HM4 hx
        generalize x.val = xv at *
        gi_wp2_with fail
        gi_loopw [27] (fun v wq => ∃ i : Nat, i ≤ 9 ∧ v = .int .i64 i ∧ Hid (TriM w W 9 (fun j => if j < i then triV (L ++ [xv]) W j else triV L W j) wq) ∧ Hid (wq.heap.size = V.heap.size ∧ Below w.heap.size V wq ∧ ∀ q, (q < w.heap.size + 3 ∨ w.heap.size + 12 ≤ q) → wq.heap[q]? = V.heap[q]?)) (fun v _ => 9 - (intOf v).toNat)
        case atStart => exact ⟨0, by omega, rfl, by simpa using HM, Lib.hid ⟨rfl, Below.refl _ _, fun _ _ => rfl⟩⟩
        case round =>
          obtain ⟨i, hi, rfl, hm, hch⟩ := hrel
          by_cases hlt : i < 9
          · have hwf := HFST.out i (by omega)
            have hle := wt_and_le xv (fstI W i) wx.1 hwf.1.1
            have hnn := wt_range (andI xv (fstI W i))
            rw [hwf.2] at hle
            obtain ⟨k', hk'⟩ := Int.eq_ofNat_of_zero_le hnn.1
            have hki : k' ≤ i := by omega
            have hwf2 := (HFST.out k' (by omega)).1
            have wc : IsW (andI xv (fstI W i)) := ⟨andI_nonneg _ _, andI_le _ _ hwf.1.2⟩
            have hcw : wr.cell? ⟨w.heap.size, 0, none⟩ = some (.int .u32 (W : Int)) := Boxed.cell (t := 45) hm.out.1
            have hco : wr.cell? ⟨w.heap.size + 1, i, none⟩ = some (.slice (some ⟨w.heap.size + 3 + i, 0, none⟩) (i + 1) (i + 1)) := by
              have := outA_at w.heap.size 9 i hlt
              rw [if_pos hlt] at this
              simp only [World.cell?, hm.out.2.1]
              exact this
            have hrow := hm.out.2.2.2.1 i hlt
            dsimp only at hrow
            rw [if_neg (Nat.lt_irrefl i)] at hrow
            have hcr := arr_at (triV L W i) (j := k') (by rw [triV_len]; omega) hrow
            have hfr : wr.frozen? ⟨w.heap.size + 3 + i, k', none⟩ = false := Lib.frozen_of_heap hrow _
            have hrg := triV_le L W i k' hki
            have HY := Lib.hid (fun h => triV_yes L xv W i k' hW h8 (by omega) hki h)
            have HN := Lib.hid (fun h => triV_no L xv W i k' hW h8 (by omega) hk' h)
            have HK := Lib.hid hk'
            have hq1 : (0 : Int) ≤ (i : Int) := by omega
            have hq2 : (i : Int) < 9 := by omega
            have hq3 : (0 : Int) ≤ (k' : Int) := by omega
            have hq4 : (k' : Int) < (i : Int) + 1 := by omega
            have hHM := hm
            have HF1 := Lib.hid (fun U => word_first W i U hW (by omega))
            have HF2 := Lib.hid (fun U => word_first W k' U hW (by omega))
            have hwfw := hwf.1
            clear hle hnn hk' hrow hwf
            rw [show ((firstW W i : Nat) : Int) = fstI W i from rfl] at HF1
            rw [show ((firstW W k' : Nat) : Int) = fstI W k' from rfl] at HF2
            generalize (triV L W i).getD k' 0 = y at *
            generalize hf1 : fstI W i = f1 at *
            generalize hf2 : fstI W k' = f2 at *
            generalize hcc : andI xv f1 = cc at *
            have HCC := Lib.hid hcc
            clear hf1 hf2 hcc
            gi_wp2_with fail
            refine ⟨trivial, ?_⟩
            refine (CallsIn.inRound l (callsIn_wide.2 (HF1.out _))).mono ?_
            rintro e w' ⟨rfl, rfl⟩
            gi_wp2_with fail
            refine ⟨trivial, ?_⟩
            refine (CallsIn.inRound l (callsIn_wide.2 (word_meet xv f1 _ wx.1 wx.2 hwfw.1 hwfw.2))).mono ?_
            rintro e w' ⟨he, rfl⟩
            rw [HCC.out] at he
            subst he
            gi_wp2_with fail
            refine ⟨trivial, ?_⟩
            refine (CallsIn.inRound l (callsIn_wide.2 (word_weight cc _ wc.1 wc.2))).mono ?_
            rintro e w' ⟨he, kk, rfl⟩
            rw [HK.out] at he
            subst he
            gi_wp2_with fail
            refine ⟨trivial, ?_⟩
            refine (CallsIn.inRound l (callsIn_wide.2 (HF2.out _))).mono ?_
            rintro e w' ⟨rfl, rfl⟩
            by_cases hcf : cc = f2
            · have HYY := Lib.hid (HY.out hcf)
              have hwy : IntKind.i64.wrap (y + 1) = y + 1 := by rw [IntKind.wrap_i64]; omega
              subst hcf
              gi_wp2_with fail
              refine ⟨⟨i + 1, by omega, by go_num, Lib.hid (((hHM.out.drewN kk).step (f' := fun j => if j < i + 1 then triV (L ++ [xv]) W j else triV L W j) hlt (by
                rw [if_pos (Nat.lt_succ_self i), if_neg (Nat.lt_irrefl i)]; exact HYY.out) (fun j hj hne => by
                by_cases h : j < i
                · rw [if_pos h, if_pos (by omega)]
                · rw [if_neg h, if_neg (by omega)]))), Lib.hid ?_⟩, ?_⟩
              · refine ⟨by rw [World.size_setCell]; exact hch.out.1, (hch.out.2.1.trans (below_drewN (Below.refl _ _) kk)).setCell (by show w.heap.size ≤ w.heap.size + 3 + i; omega) _, fun q hq => ?_⟩
                exact (Below.heap_setCell _ ⟨w.heap.size + 3 + i, k', none⟩ _ q (by show q ≠ w.heap.size + 3 + i; omega)).trans (hch.out.2.2 q hq)
              · first | (simp [intOf]; done) | (simp [intOf]; omega)
            · have HNN := Lib.hid (HN.out hcf)
              have hcfb : (cc == f2) = false := by simpa using hcf
              gi_wp2_with fail
              go_roundw
              case rel => exact ⟨i + 1, by omega, by go_num, Lib.hid ((hHM.out.drewN kk).congr fun j hj => by
                by_cases e : j = i
                · subst e; rw [if_neg (Nat.lt_irrefl j), if_pos (by omega), HNN.out]
                · by_cases h : j < i
                  · rw [if_pos h, if_pos (by omega)]
                  · rw [if_neg h, if_neg (by omega)]), Lib.hid ⟨hch.out.1, hch.out.2.1.trans (below_drewN (Below.refl _ _) kk), hch.out.2.2⟩⟩
              case measure => first | (simp [intOf]; done) | (simp [intOf]; omega)
          · obtain rfl : i = 9 := by omega
            gi_wp2_with fail
            have hz := HSZ2.out
            refine ⟨⟨by rw [hch.out.1]; exact Nat.le_refl _, fun q h1 h2 => hch.out.2.2 q (by omega)⟩, ⟨hch.out.2.1, ⟨by rw [hch.out.1]; exact Nat.le_refl _, fun q h1 h2 => hch.out.2.2 q (by omega)⟩⟩, ?_⟩
            show TriM w W 9 (fun j => triV ((pre ++ [x]).map fun (x : Oc 0 0) => x.val) W j) wr
            rw [show (fun j => triV ((pre ++ [x]).map fun (x : Oc 0 0) => x.val) W j) = fun j => triV (L ++ [xv]) W j from funext fun j => by rw [HL2.out]]
            exact hm.out.congr fun j hj => if_pos hj
      case done =>
        rintro D ys V hD hS hM hK
        have hc3 : V.cell? ⟨w.heap.size + 2, 0, none⟩ = some (.slice (some ⟨w.heap.size + 1, 0, none⟩) 9 9) := Boxed.cell (t := 24) hM.2.2.1
        have HS := Lib.hid (fun j => show triV (ys.map fun x => x.val) W j = triV octS W j by rw [hS, filter_00]; exact triV_perm (octF_perm k hk) W j)
        have HM := Lib.hid hM
        have HSZ2 := Lib.hid hsz
        clear hM hS hit HM4 hsz
        gi_wp2
        refine ⟨by simp, .inl ⟨_, _, rfl, run_takeDeferred hK, ?_⟩⟩
        have hz := HSZ2.out
        refine ⟨_, results_tmp rfl _ _ _, _, _, rfl, ?_, ?_⟩
        · exact ((HM.out.congr fun j _ => HS.out j).put (by omega)).own2
        · exact HM.out.2.2.2.2.trans (belowK_b (w := w) (Nat.le_refl _) V D _ _ (by omega) hK rfl rfl)
      case stop =>
        rintro D c pre V _ _ h _
        exact h.elim
end Go.Proofs.YtnfpdonlknkccacDoor
