/- Permutations of the program: one after the other, turned, what stays. -/
import Derived.Test.YtepaaijlkimmeaaDoorC102
namespace Go.Proofs.YtepaaijlkimmeaaDoor
open Go.RowKit
set_option linter.unusedVariables false
attribute [local irreducible] cN syn

theorem three_heap (w : World) (o0 o1 o2 : Obj) : (((w.alloc o0).alloc o1).alloc o2).heap[w.heap.size]? = some o0 ∧ (((w.alloc o0).alloc o1).alloc o2).heap[w.heap.size + 1]? = some o1 ∧ (((w.alloc o0).alloc o1).alloc o2).heap[w.heap.size + 2]? = some o2 ∧ Below w.heap.size w (((w.alloc o0).alloc o1).alloc o2) := by
  refine ⟨?_, ?_, ?_, (((Below.refl _ w).alloc (Nat.le_refl _) _).alloc (by simp) _).alloc (by simp; omega) _⟩
  · exact (Below.heap_alloc _ _ _ (by simp; try omega)).trans ((Below.heap_alloc _ _ _ (by simp; try omega)).trans (heap_alloc_new w _))
  · have := heap_alloc_new (w.alloc o0) o1
    rw [alloc_sz] at this
    exact (Below.heap_alloc _ _ _ (by simp; try omega)).trans this
  · have := heap_alloc_new ((w.alloc o0).alloc o1) o2
    rw [alloc_sz, alloc_sz] at this
    exact this
/-- The first k of one list, and the others of another one. -/
def mixL (ts xs : List Int) (k : Nat) : List Int := ts.take k ++ xs.drop k
theorem mixL_len (ts xs : List Int) (k : Nat) (h1 : ts.length = 24) (h2 : xs.length = 24) (hk : k ≤ 24) : (mixL ts xs k).length = 24 := by simp [mixL]; omega
theorem mixL_zero (ts xs : List Int) : mixL ts xs 0 = xs := by simp [mixL]
theorem mixL_all (ts xs : List Int) (h1 : ts.length = 24) (h2 : xs.length = 24) : mixL ts xs 24 = ts := by
  unfold mixL
  rw [List.take_of_length_le (by omega), List.drop_of_length_le (by omega), List.append_nil]
theorem mixL_set (ts xs : List Int) (k : Nat) (h1 : ts.length = 24) (h2 : xs.length = 24) (hk : k < 24) : (mixL ts xs k).set k (ts.getD k 0) = mixL ts xs (k + 1) := by
  unfold mixL
  have hl : (ts.take k).length = k := by simp; omega
  have e : ts.getD k 0 = ts[k]'(by omega) := by simp [show k < ts.length by omega]
  rw [List.set_append_right _ _ (by omega), hl, Nat.sub_self, List.drop_eq_getElem_cons (show k < xs.length by omega), List.set_cons_zero, e, List.take_succ_eq_append_getElem (show k < ts.length by omega), List.append_assoc, List.singleton_append]
/-- A cell of the array is set. -/
theorem row_set {w V X : World} {g j : Nat} {t0 : TypeId} {cs Z : List Int} {t : Int} (h3 : V.heap[g]? = some (.cells (VL cs) t0 (0, 0))) (hg : w.heap.size ≤ g) (hB : Below w.heap.size w V) (hZ : cs.set j t = Z)
    (hX : X.heap = (V.setCell ⟨g, j, none⟩ (.int .i64 t)).heap) (hX2 : X.os = V.os ∧ X.tape = V.tape ∧ X.output = V.output) :
    X.heap[g]? = some (.cells (VL Z) t0 (0, 0)) ∧ (∀ q, q ≠ g → X.heap[q]? = V.heap[q]?) ∧ Below w.heap.size w X := by
  have k1 : ∀ q, q ≠ g → X.heap[q]? = V.heap[q]? := fun q hq => by rw [hX]; exact Below.heap_setCell V _ _ q hq
  have a3 := VL_set (j := j) cs t h3
  rw [hZ, ← hX] at a3
  have b0 : Below w.heap.size V (V.setCell ⟨g, j, none⟩ (.int .i64 t)) := (Below.refl _ V).setCell (show w.heap.size ≤ g from hg) _
  exact ⟨a3, k1, hB.trans ⟨hX2.1, hX2.2.1, hX2.2.2, by rw [hX]; exact b0.size, fun q hq => by rw [hX]; exact b0.block q hq⟩⟩
set_option maxRecDepth 100000 in
set_option maxHeartbeats 2000000 in
theorem then_calls (xs ys : List Int) (w : World) (hp : permB xs = true) (hq : permB ys = true) :
    Calls Tryd.prog 57 #[.agg (VL xs), .agg (VL ys)] w fun e w' => e = .returned (.agg (VL (intP (thenN (natP xs) (natP ys))))) ∧ Below w.heap.size w w' := by
  have hlx := permB_len hp
  have hly := permB_len hq
  obtain ⟨ts, hts⟩ : ∃ ts, intP (thenN (natP xs) (natP ys)) = ts := ⟨_, rfl⟩
  have hlt : ts.length = 24 := by rw [← hts, intP_len, thenN_len, natP_len, hlx]
  have hat : ∀ k, k < 24 → ∃ p : Nat, p < 24 ∧ xs.getD k 0 = (p : Int) ∧ ys.getD p 0 = ts.getD k 0 := fun k hk => by
    obtain ⟨e1, h1⟩ := permB_at hp k hk
    obtain ⟨e2, h2⟩ := permB_at hq _ h1
    refine ⟨_, h1, e1, ?_⟩
    rw [e2, ← hts, intP_get, thenN_get _ k (by rw [natP_len]; omega)]
  have HAT := Lib.hid hat
  have HX := Lib.hid (pmInfoL xs hlx)
  have HT := Lib.hid (pmInfoL ts hlt)
  have HTS := Lib.hid (VL_size ts)
  have HTA := Lib.hid (VL_all ts)
  have HIX := Lib.hid (fun k hk W => idx24 xs hlx k hk W)
  have HIY := Lib.hid (fun (W : World) g t (h : W.heap[g]? = some (Obj.cells (VL ys) t (0, 0))) (p : Nat) (hp : p < 24) => VL_at (j := p) ys (by omega) h)
  have HM := Lib.hid (fun k (hk : k ≤ 24) => mixL_len ts xs k hlt hlx hk)
  have HMS := Lib.hid (fun k (hk : k < 24) => mixL_set ts xs k hlt hlx hk)
  have HM0 := Lib.hid (mixL_zero ts xs)
  have HM24 := Lib.hid (mixL_all ts xs hlt hlx)
  have HLT := Lib.hid hlt
  rw [hts]
  have HVX := Lib.hid (show VL xs = VL (mixL ts xs 0) by rw [mixL_zero])
  generalize hVX : VL xs = VX at *
  obtain ⟨VY, hVY⟩ : ∃ VY, VL ys = VY := ⟨_, rfl⟩
  rw [hVY] at HIY ⊢
  clear hVX hVY hts hat hlx hly hlt hp hq
  go_enter Tryd.func57, Tryd.ntmps57
  go_wp2_with (first
    | (refine wpList_load_row rfl 46 _ rfl w.heap.size rfl 46 VX (0, 0) _ (three_heap w _ _ _).1 Tryd.underlying46 rfl HX.out ?_))
  go_loopw [8] (fun i wr => ∃ p : Nat, p ≤ 24 ∧ i = .int .i64 p ∧ Hid (wr.heap[w.heap.size]? = some (.cells (VL (mixL ts xs p)) 46 (0, 0))) ∧ Hid (wr.heap[w.heap.size + 1]? = some (.cells VY 46 (0, 0))) ∧ Hid (wr.heap[w.heap.size + 2]? = some (.cells (VL z24) 46 (0, 0))) ∧ Hid (Below w.heap.size w wr)) (fun i _ => 24 - (intOf i).toNat)
  case atStart => exact ⟨0, by omega, rfl, Lib.hid (by rw [← HVX.out]; exact (three_heap w _ _ _).1), Lib.hid (three_heap w _ _ _).2.1, Lib.hid (three_heap w _ _ _).2.2.1, Lib.hid (three_heap w _ _ _).2.2.2⟩
  case round =>
    obtain ⟨p, hp, rfl, h1, h2, h3, hbl⟩ := hrel
    by_cases hlt : p < 24
    · have hp1 : (0 : Int) ≤ (p : Int) := by omega
      have hp2 : (p : Int) < 24 := by omega
      obtain ⟨q, hq, eq1, eq2⟩ := HAT.out p hlt
      have hq1 : (0 : Int) ≤ (q : Int) := by omega
      have hq2 : (q : Int) < 24 := by omega
      have hix := HIX.out p hlt
      have hcy := HIY.out wr _ _ h2.out q hq
      have hcx := VL_at (j := p) _ (by rw [HM.out p hp]; exact hlt) h1.out
      have hfx : wr.frozen? ⟨w.heap.size, p, none⟩ = false := Lib.frozen_of_heap h1.out _
      rw [eq1] at hix
      rw [eq2] at hcy
      have HF := Lib.hid (fun X => row_set (X := X) h1.out (Nat.le_refl _) hbl.out (HMS.out p hlt))
      clear eq1 eq2
      generalize (mixL ts xs p).getD p 0 = z at *
      generalize ts.getD p 0 = t at *
      go_wp2_with fail
      go_roundw
      case rel =>
        refine ⟨p + 1, by omega, by go_num, Lib.hid ?_, Lib.hid ?_, Lib.hid ?_, Lib.hid ?_⟩
        · exact (HF.out _ rfl ⟨rfl, rfl, rfl⟩).1
        · exact ((HF.out _ rfl ⟨rfl, rfl, rfl⟩).2.1 _ (by omega)).trans h2.out
        · exact ((HF.out _ rfl ⟨rfl, rfl, rfl⟩).2.1 _ (by omega)).trans h3.out
        · exact (HF.out _ rfl ⟨rfl, rfl, rfl⟩).2.2
      case measure => simp [intOf]; omega
    · obtain rfl : p = 24 := by omega
      have h1' := h1.out
      rw [HM24.out] at h1'
      have H1 := Lib.hid h1'
      clear h1'
      go_wp2_with (first
        | (refine wpList_load_row rfl 46 _ rfl w.heap.size rfl 46 (VL ts) (0, 0) _ H1.out Tryd.underlying46 rfl HT.out ?_)
        | (refine wpList_store_row rfl 46 _ _ rfl (w.heap.size + 2) (VL ts) rfl rfl 46 (VL z24) h3.out HT.out (by rw [HTS.out, HLT.out]; rfl) HTA.out ?_))
      exact bodyPost_ret (results_c rfl rfl (setRow_heap _ _ _ _ _ _ h3.out : Blk _ _ _ _) Tryd.underlying46 rfl HT.out) rfl ⟨rfl, bel_row hbl.out (by omega)⟩
end Go.Proofs.YtepaaijlkimmeaaDoor
