/- Permutations of the program: read from a list, listed, one after the other, turned. -/
import Derived.Test.YtjceaiiheiechabDoorC100
import Derived.Test.YtjceaiiheiechabDoorM11
import Derived.Laws.Rows
import Derived.Laws.Tables
import Derived.Laws.CopyOwn
namespace Go.Proofs.YtjceaiiheiechabDoor
open Go.RowKit
set_option linter.unusedVariables false
attribute [local irreducible] cN syn

/-- The cells of a list of numbers. -/
def VL (L : List Int) : Array Value := (L.map (Value.int .i64)).toArray
def z24 : List Int := List.replicate 24 0
theorem VL_size (L : List Int) : (VL L).size = L.length := by simp [VL]
theorem VL_at {w : World} {g j : Nat} {t : TypeId} (xs : List Int) (hj : j < xs.length) (hg : w.heap[g]? = some (.cells (VL xs) t (0, 0))) : w.cell? ⟨g, j, none⟩ = some (.int .i64 (xs.getD j 0)) := by
  rw [Lib.cell_of_heap hg]
  simp [VL, hj]
theorem VL_set {w : World} {g j : Nat} {t : TypeId} (xs : List Int) (x : Int) (hg : w.heap[g]? = some (.cells (VL xs) t (0, 0))) : (w.setCell ⟨g, j, none⟩ (.int .i64 x)).heap[g]? = some (.cells (VL (xs.set j x)) t (0, 0)) := by
  have := heap_setCell_same w g j (VL xs) t (.int .i64 x) hg
  unfold VL at this ⊢
  rw [List.setIfInBounds_toArray, ← List.map_set] at this
  exact this
theorem VL_all (L : List Int) : (VL L).all (·.oneCell') = true := by
  rw [Array.all_eq_true_iff_forall_mem]
  intro x hx
  simp [VL] at hx
  obtain ⟨a, _, rfl⟩ := hx
  rfl
theorem bel_row {w V : World} {g : Nat} {T : Array Value} (h : Below w.heap.size w V) (hg : w.heap.size ≤ g) : Below w.heap.size w (V.setRow g T) :=
  h.trans ⟨rfl, rfl, rfl, by simp, fun q hq => setRow_other V g q T (by omega)⟩
theorem list24 (L : List Int) (h : L.length = 24) : ∃ x0 x1 x2 x3 x4 x5 x6 x7 x8 x9 x10 x11 x12 x13 x14 x15 x16 x17 x18 x19 x20 x21 x22 x23, L = [x0, x1, x2, x3, x4, x5, x6, x7, x8, x9, x10, x11, x12, x13, x14, x15, x16, x17, x18, x19, x20, x21, x22, x23] := by
  match L, h with
  | [x0, x1, x2, x3, x4, x5, x6, x7, x8, x9, x10, x11, x12, x13, x14, x15, x16, x17, x18, x19, x20, x21, x22, x23], _ => exact ⟨x0, x1, x2, x3, x4, x5, x6, x7, x8, x9, x10, x11, x12, x13, x14, x15, x16, x17, x18, x19, x20, x21, x22, x23, rfl⟩
theorem pFrom_yes (A : Option Addr) (c : Nat) (xs : List Int) (lo hi t : Int) (w : World) (ha : Rds w w.heap.size .i64 A xs) (hx : xs.length ≤ maxLen) (h1 : lo ≤ xs.length) (h2 : xs.length ≤ hi) (ht : wof xs = some t) :
    Calls Tryd.prog 17 #[.slice A xs.length c, .int .i64 lo, .int .i64 hi] w fun e w' => e = .returned (.tuple #[.int .u32 t, .bool true]) ∧ w = w' := by
  obtain ⟨⟨t0, t1⟩, _⟩ := wof_char _ xs t rfl ht
  have hx' := hx
  unfold maxLen at hx'
  have hc : IntKind.u32.wrap t = t := wrap_u32_in t t0 (by omega)
  have HS := Lib.hid (iWordOf_calls A c xs w ha hx)
  rw [ht] at HS
  clear ht ha
  go_enter Tryd.func17, Tryd.ntmps17
  go_wp2_with (go_at_call 8; refine HS.out.mono ?_; rintro e w' ⟨he, rfl⟩; simp only [resW] at he; subst he)
  go_ret2
  exact ⟨rfl, rfl⟩
theorem pFrom_no (A : Option Addr) (c : Nat) (xs : List Int) (lo hi : Int) (w : World) (ha : Rds w w.heap.size .i64 A xs) (hx : xs.length ≤ maxLen) (h : (xs.length : Int) < lo ∨ hi < xs.length ∨ wof xs = none) :
    Calls Tryd.prog 17 #[.slice A xs.length c, .int .i64 lo, .int .i64 hi] w fun e w' => e = .returned (.tuple #[.int .u32 0, .bool false]) ∧ w = w' := by
  have hx' := hx
  unfold maxLen at hx'
  by_cases h1 : (xs.length : Int) < lo
  · clear h
    go_enter Tryd.func17, Tryd.ntmps17
    go_wp2_with fail
    go_ret2
    exact ⟨rfl, rfl⟩
  by_cases h2 : hi < (xs.length : Int)
  · clear h
    go_enter Tryd.func17, Tryd.ntmps17
    go_wp2_with fail
    go_ret2
    exact ⟨rfl, rfl⟩
  have h3 : wof xs = none := by
    rcases h with h | h | h
    · exact absurd h h1
    · exact absurd h h2
    · exact h
  have HS := Lib.hid (iWordOf_calls A c xs w ha hx)
  rw [h3] at HS
  clear h h3 ha
  go_enter Tryd.func17, Tryd.ntmps17
  go_wp2_with (go_at_call 8; refine HS.out.mono ?_; rintro e w' ⟨he, rfl⟩; simp only [resW] at he; subst he)
  go_ret2
  exact ⟨rfl, rfl⟩
end Go.Proofs.YtjceaiiheiechabDoor
