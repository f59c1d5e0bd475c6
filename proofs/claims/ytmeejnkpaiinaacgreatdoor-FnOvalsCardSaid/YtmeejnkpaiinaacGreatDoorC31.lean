/- Counting weights: the model, the program, and the drawing. -/
import Derived.Test.YtmeejnkpaiinaacGreatDoorC30
import Derived.Test.YtmeejnkpaiinaacGreatDoorQ6
import Derived.Test.YtmeejnkpaiinaacGreatDoorQ2
import Derived.Test.YtmeejnkpaiinaacGreatDoorQ3
import Derived.Test.YtmeejnkpaiinaacGreatDoorQ4
namespace Go.Proofs.YtmeejnkpaiinaacGreatDoor
open Go.RowKit Go.Shelf
attribute [local go_sem] Oper.semAt_some
set_option linter.unusedVariables false

theorem wgtB_iff (a b : Int) : wgtB a b = true ↔ 0 ≤ a ∧ a ≤ b ∧ b ≤ 4095 := by simp [wgtB]
theorem wt_code (m : Nat) (h : m < 4096) : wt (codeOf (m : Int)) = ((pop (cN m) : Nat) : Int) := by rw [codeOf_cN m h, wt_pop]
def z25 : Array Value := #[.int .i64 0, .int .i64 0, .int .i64 0, .int .i64 0, .int .i64 0, .int .i64 0, .int .i64 0, .int .i64 0, .int .i64 0, .int .i64 0, .int .i64 0, .int .i64 0, .int .i64 0, .int .i64 0, .int .i64 0, .int .i64 0, .int .i64 0, .int .i64 0, .int .i64 0, .int .i64 0, .int .i64 0, .int .i64 0, .int .i64 0, .int .i64 0, .int .i64 0]
theorem mk25 (W : World) : (Instr.makeSlice 23 (.int .i64 25) (.int .i64 25)).run Tryz.prog W = .ok (.slice (some ⟨W.heap.size, 0, none⟩) 25 25) (W.alloc (.cells z25 3)) := by kernel_rfl
theorem z25_vals : z25 = (vals .i64 (cntF [])).toArray := rfl
theorem own_arr {w : World} {B g : Nat} (xs : List Int) (hl : xs.length = 25) (hg : w.heap[g]? = some (.cells (vals .i64 xs).toArray 3 (0, 0))) (hB : B ≤ g) : Own w B (.slice (some ⟨g, 0, none⟩) 25 25) xs :=
  ⟨by simp [vals_len, hl], .inr ⟨g, 25, _, by rw [hl], hB, hg, by simp [hl], by unfold maxLen; omega, by simp [vals_len, hl], by
    have : (vals .i64 xs).length ≤ xs.length * 1 := by rw [vals_len]; omega
    simp [List.take_of_length_le, vals_len]⟩⟩
theorem arr_at {w : World} {g j : Nat} {t : TypeId} (xs : List Int) (hj : j < xs.length) (hg : w.heap[g]? = some (.cells (vals .i64 xs).toArray t (0, 0))) : w.cell? ⟨g, j, none⟩ = some (.int .i64 (xs.getD j 0)) := by
  rw [Lib.cell_of_heap hg]
  have := vals_get .i64 xs j hj
  simpa using this
theorem arr_set {w : World} {g j : Nat} {t : TypeId} (xs : List Int) (x : Int) (hg : w.heap[g]? = some (.cells (vals .i64 xs).toArray t (0, 0))) : (w.setCell ⟨g, j, none⟩ (.int .i64 x)).heap[g]? = some (.cells (vals .i64 (xs.set j x)).toArray t (0, 0)) := by
  have := heap_setCell_same w g j (vals .i64 xs).toArray t (.int .i64 x) hg
  rw [List.setIfInBounds_toArray, vals_set] at this
  exact this
end Go.Proofs.YtmeejnkpaiinaacGreatDoor
