/- Lists of 24 numbers in arrays: the cells; boxes; a first part of one list and the rest of another. -/
import Derived.Test.YtiodikflmijhkaaM11
import Derived.Laws.Rows
import Derived.Laws.Tables
import Derived.Laws.CopyOwn
namespace Go.Proofs.Ytiodikflmijhkaa
open Go.RowKit
set_option linter.unusedVariables false

/-- The cells of a list of numbers. -/
def VL (L : List Int) : Array Value := (L.map (Value.int .i64)).toArray
def z24 : List Int := List.replicate 24 0
theorem VL_size (L : List Int) : (VL L).size = L.length := by simp [VL]
theorem VL_at {w : World} {g j : Nat} {t : TypeId} (xs : List Int) (hj : j < xs.length) (hg : w.heap[g]? = some (.cells (VL xs) t (0, 0))) : w.cell? ⟨g, j, none⟩ = some (.int .i64 (xs.getD j 0)) := by
  rw [Lib.cell_of_heap hg]
  simp [VL, hj]
theorem VL_set {w : World} {g j : Nat} {t : TypeId} (xs : List Int) (x : Int) (hg : w.heap[g]? = some (.cells (VL xs) t (0, 0))) : (w.setCell ⟨g, j, none⟩ (.int .i64 x)).heap[g]? = some (.cells (VL (xs.set j x)) t (0, 0)) := by
  have := heap_setCell_same w g j (VL xs) t (.int .i64 x) hg
  unfold VL at this ⊢
  rw [List.setIfInBounds_toArray, ← List.map_set] at this
  exact this
theorem VL_all (L : List Int) : (VL L).all (·.oneCell') = true := by
  rw [Array.all_eq_true_iff_forall_mem]
  intro x hx
  simp [VL] at hx
  obtain ⟨a, _, rfl⟩ := hx
  rfl
theorem bel_row {w V : World} {g : Nat} {T : Array Value} (h : Below w.heap.size w V) (hg : w.heap.size ≤ g) : Below w.heap.size w (V.setRow g T) :=
  h.trans ⟨rfl, rfl, rfl, by simp, fun q hq => setRow_other V g q T (by omega)⟩
theorem list24 (L : List Int) (h : L.length = 24) : ∃ x0 x1 x2 x3 x4 x5 x6 x7 x8 x9 x10 x11 x12 x13 x14 x15 x16 x17 x18 x19 x20 x21 x22 x23, L = [x0, x1, x2, x3, x4, x5, x6, x7, x8, x9, x10, x11, x12, x13, x14, x15, x16, x17, x18, x19, x20, x21, x22, x23] := by
  match L, h with
  | [x0, x1, x2, x3, x4, x5, x6, x7, x8, x9, x10, x11, x12, x13, x14, x15, x16, x17, x18, x19, x20, x21, x22, x23], _ => exact ⟨x0, x1, x2, x3, x4, x5, x6, x7, x8, x9, x10, x11, x12, x13, x14, x15, x16, x17, x18, x19, x20, x21, x22, x23, rfl⟩
theorem wrap_i64_of (n : Int) (h0 : -9223372036854775808 ≤ n) (h1 : n < 9223372036854775808) : IntKind.i64.wrap n = n := by rw [IntKind.wrap_i64]; omega
theorem wrap64_of (n : Int) (h0 : -9223372036854775808 ≤ n) (h1 : n < 9223372036854775808) : wrap64 n = n := by unfold wrap64; omega
theorem two_heapV (w : World) (o0 o1 : Obj) : ((w.alloc o0).alloc o1).heap[w.heap.size]? = some o0 ∧ ((w.alloc o0).alloc o1).heap[w.heap.size + 1]? = some o1 ∧ Below w.heap.size w ((w.alloc o0).alloc o1) := by
  refine ⟨?_, ?_, ((Below.refl _ w).alloc (Nat.le_refl _) _).alloc (by simp) _⟩
  · exact (Below.heap_alloc _ _ _ (by simp)).trans (heap_alloc_new w _)
  · have := heap_alloc_new (w.alloc o0) o1
    rw [alloc_sz] at this
    exact this
theorem three_heap (w : World) (o0 o1 o2 : Obj) : (((w.alloc o0).alloc o1).alloc o2).heap[w.heap.size]? = some o0 ∧ (((w.alloc o0).alloc o1).alloc o2).heap[w.heap.size + 1]? = some o1 ∧ (((w.alloc o0).alloc o1).alloc o2).heap[w.heap.size + 2]? = some o2 ∧ Below w.heap.size w (((w.alloc o0).alloc o1).alloc o2) := by
  refine ⟨?_, ?_, ?_, (((Below.refl _ w).alloc (Nat.le_refl _) _).alloc (by simp) _).alloc (by simp; omega) _⟩
  · exact (Below.heap_alloc _ _ _ (by simp; try omega)).trans ((Below.heap_alloc _ _ _ (by simp; try omega)).trans (heap_alloc_new w _))
  · have := heap_alloc_new (w.alloc o0) o1
    rw [alloc_sz] at this
    exact (Below.heap_alloc _ _ _ (by simp; try omega)).trans this
  · have := heap_alloc_new ((w.alloc o0).alloc o1) o2
    rw [alloc_sz, alloc_sz] at this
    exact this
/-- The first k of one list, and the others of another one. -/
def mixL (ts xs : List Int) (k : Nat) : List Int := ts.take k ++ xs.drop k
theorem mixL_len (ts xs : List Int) (k : Nat) (h1 : ts.length = 24) (h2 : xs.length = 24) (hk : k ≤ 24) : (mixL ts xs k).length = 24 := by simp [mixL]; omega
theorem mixL_zero (ts xs : List Int) : mixL ts xs 0 = xs := by simp [mixL]
theorem mixL_all (ts xs : List Int) (h1 : ts.length = 24) (h2 : xs.length = 24) : mixL ts xs 24 = ts := by
  unfold mixL
  rw [List.take_of_length_le (by omega), List.drop_of_length_le (by omega), List.append_nil]
theorem mixL_set (ts xs : List Int) (k : Nat) (h1 : ts.length = 24) (h2 : xs.length = 24) (hk : k < 24) : (mixL ts xs k).set k (ts.getD k 0) = mixL ts xs (k + 1) := by
  unfold mixL
  have hl : (ts.take k).length = k := by simp; omega
  have e : ts.getD k 0 = ts[k]'(by omega) := by simp [show k < ts.length by omega]
  rw [List.set_append_right _ _ (by omega), hl, Nat.sub_self, List.drop_eq_getElem_cons (show k < xs.length by omega), List.set_cons_zero, e, List.take_succ_eq_append_getElem (show k < ts.length by omega), List.append_assoc, List.singleton_append]
/-- A cell of the array is set. -/
theorem row_set {w V X : World} {g j : Nat} {t0 : TypeId} {cs Z : List Int} {t : Int} (h3 : V.heap[g]? = some (.cells (VL cs) t0 (0, 0))) (hg : w.heap.size ≤ g) (hB : Below w.heap.size w V) (hZ : cs.set j t = Z)
    (hX : X.heap = (V.setCell ⟨g, j, none⟩ (.int .i64 t)).heap) (hX2 : X.os = V.os ∧ X.tape = V.tape ∧ X.output = V.output) :
    X.heap[g]? = some (.cells (VL Z) t0 (0, 0)) ∧ (∀ q, q ≠ g → X.heap[q]? = V.heap[q]?) ∧ Below w.heap.size w X := by
  have k1 : ∀ q, q ≠ g → X.heap[q]? = V.heap[q]? := fun q hq => by rw [hX]; exact Below.heap_setCell V _ _ q hq
  have a3 := VL_set (j := j) cs t h3
  rw [hZ, ← hX] at a3
  have b0 : Below w.heap.size V (V.setCell ⟨g, j, none⟩ (.int .i64 t)) := (Below.refl _ V).setCell (show w.heap.size ≤ g from hg) _
  exact ⟨a3, k1, hB.trans ⟨hX2.1, hX2.2.1, hX2.2.2, by rw [hX]; exact b0.size, fun q hq => by rw [hX]; exact b0.block q hq⟩⟩
end Go.Proofs.Ytiodikflmijhkaa
