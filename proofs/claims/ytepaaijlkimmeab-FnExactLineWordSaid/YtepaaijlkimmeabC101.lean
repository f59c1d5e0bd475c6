/- Permutations of the program: read from a list, listed, one after the other, turned. -/
import Derived.Test.YtepaaijlkimmeabC100
import Derived.Test.YtepaaijlkimmeabM11
import Derived.Laws.Rows
import Derived.Laws.Tables
import Derived.Laws.CopyOwn
namespace Go.Proofs.Ytepaaijlkimmeab
open Go.RowKit
set_option linter.unusedVariables false
attribute [local irreducible] cN syn

/-- The cells of a list of numbers. -/
def VL (L : List Int) : Array Value := (L.map (Value.int .i64)).toArray
def z24 : List Int := List.replicate 24 0
theorem VL_size (L : List Int) : (VL L).size = L.length := by simp [VL]
theorem VL_at {w : World} {g j : Nat} {t : TypeId} (xs : List Int) (hj : j < xs.length) (hg : w.heap[g]? = some (.cells (VL xs) t (0, 0))) : w.cell? ⟨g, j, none⟩ = some (.int .i64 (xs.getD j 0)) := by
  rw [Lib.cell_of_heap hg]
  simp [VL, hj]
theorem VL_set {w : World} {g j : Nat} {t : TypeId} (xs : List Int) (x : Int) (hg : w.heap[g]? = some (.cells (VL xs) t (0, 0))) : (w.setCell ⟨g, j, none⟩ (.int .i64 x)).heap[g]? = some (.cells (VL (xs.set j x)) t (0, 0)) := by
  have := heap_setCell_same w g j (VL xs) t (.int .i64 x) hg
  unfold VL at this ⊢
  rw [List.setIfInBounds_toArray, ← List.map_set] at this
  exact this
theorem VL_all (L : List Int) : (VL L).all (·.oneCell') = true := by
  rw [Array.all_eq_true_iff_forall_mem]
  intro x hx
  simp [VL] at hx
  obtain ⟨a, _, rfl⟩ := hx
  rfl
theorem bel_row {w V : World} {g : Nat} {T : Array Value} (h : Below w.heap.size w V) (hg : w.heap.size ≤ g) : Below w.heap.size w (V.setRow g T) :=
  h.trans ⟨rfl, rfl, rfl, by simp, fun q hq => setRow_other V g q T (by omega)⟩
theorem list24 (L : List Int) (h : L.length = 24) : ∃ x0 x1 x2 x3 x4 x5 x6 x7 x8 x9 x10 x11 x12 x13 x14 x15 x16 x17 x18 x19 x20 x21 x22 x23, L = [x0, x1, x2, x3, x4, x5, x6, x7, x8, x9, x10, x11, x12, x13, x14, x15, x16, x17, x18, x19, x20, x21, x22, x23] := by
  match L, h with
  | [x0, x1, x2, x3, x4, x5, x6, x7, x8, x9, x10, x11, x12, x13, x14, x15, x16, x17, x18, x19, x20, x21, x22, x23], _ => exact ⟨x0, x1, x2, x3, x4, x5, x6, x7, x8, x9, x10, x11, x12, x13, x14, x15, x16, x17, x18, x19, x20, x21, x22, x23, rfl⟩
theorem pmInfo : (Try.prog.info? 38).map (·.size) = some 24 := by kernel_rfl
theorem pmInfoL (L : List Int) (h : L.length = 24) : (Try.prog.info? 38).map (·.size) = some (VL L).size := by rw [VL_size, h]; exact pmInfo
theorem idx24 (L : List Int) (h : L.length = 24) (k : Nat) (hk : k < 24) (W : World) : (Instr.index 38 (.agg (VL L)) (.int .i64 (k : Int))).run Try.prog W = .ok (.int .i64 (L.getD k 0)) W := by
  obtain ⟨x0, x1, x2, x3, x4, x5, x6, x7, x8, x9, x10, x11, x12, x13, x14, x15, x16, x17, x18, x19, x20, x21, x22, x23, rfl⟩ := list24 L h
  match k, hk with
  | 0, _ => exact (show _ = _ by kernel_rfl)
  | 1, _ => exact (show _ = _ by kernel_rfl)
  | 2, _ => exact (show _ = _ by kernel_rfl)
  | 3, _ => exact (show _ = _ by kernel_rfl)
  | 4, _ => exact (show _ = _ by kernel_rfl)
  | 5, _ => exact (show _ = _ by kernel_rfl)
  | 6, _ => exact (show _ = _ by kernel_rfl)
  | 7, _ => exact (show _ = _ by kernel_rfl)
  | 8, _ => exact (show _ = _ by kernel_rfl)
  | 9, _ => exact (show _ = _ by kernel_rfl)
  | 10, _ => exact (show _ = _ by kernel_rfl)
  | 11, _ => exact (show _ = _ by kernel_rfl)
  | 12, _ => exact (show _ = _ by kernel_rfl)
  | 13, _ => exact (show _ = _ by kernel_rfl)
  | 14, _ => exact (show _ = _ by kernel_rfl)
  | 15, _ => exact (show _ = _ by kernel_rfl)
  | 16, _ => exact (show _ = _ by kernel_rfl)
  | 17, _ => exact (show _ = _ by kernel_rfl)
  | 18, _ => exact (show _ = _ by kernel_rfl)
  | 19, _ => exact (show _ = _ by kernel_rfl)
  | 20, _ => exact (show _ = _ by kernel_rfl)
  | 21, _ => exact (show _ = _ by kernel_rfl)
  | 22, _ => exact (show _ = _ by kernel_rfl)
  | 23, _ => exact (show _ = _ by kernel_rfl)
  | n + 24, h => exact absurd h (by omega)
end Go.Proofs.Ytepaaijlkimmeab
