/- The iterator over the places of a word, and the loops over it. -/
import Derived.RangeFuncBox
import Derived.RangeFuncNested
import Derived.RangeFuncBound
import Derived.RangeFuncCalls
import Derived.RangeFuncLeaves
import Derived.Shelf.Abstract
import Derived.Shelf.Spec.TrailingZeros
import Derived.OwnWalkIn
import Derived.TacticsInMore
import Derived.LoopNIn
import Derived.LoopIn
import Derived.Maps.AppendAt
import Derived.Test.YtnfpdonlknkccabDoorQ1
import Derived.Test.YtnfpdonlknkccabDoorP0
import Derived.Test.YtnfpdonlknkccabDoorP1
namespace Go.Proofs.YtnfpdonlknkccabDoor
open Go.RowKit Go.Shelf
attribute [local go_sem] Oper.semAt_some
set_option linter.unusedVariables false

/-- The table of math/bits lies in its variable. -/
def TabB (w : World) : Prop := ∀ j, j < Lib.deBruijn32tab.length → w.cell? ⟨0, j, none⟩ = some (.int .u8 (Lib.deBruijn32tab.getD j 0))
theorem TabB.below {w w' : World} {B : Nat} (h : TabB w) (hb : Below B w w') (h0 : 0 < B) : TabB w' := fun j hj => (hb.cell (p := ⟨0, j, none⟩) h0).trans (h j hj)
theorem TabB.lt {w : World} (h : TabB w) : 0 < w.heap.size := World.block_lt_of_cell? w ⟨0, 0, none⟩ (h 0 (by decide))
theorem TabB.drewN {w : World} (h : TabB w) (k : Nat) : TabB (w.drewN k) := h

set_option maxHeartbeats 1000000 in
theorem tz32_core (x k idx : Nat) (w : World) (hx0 : ((x : Int) == 0) = false)
    (key : bits BinOp.and IntKind.u32 (x : Int) (-(x : Int) % 4294967296) * 125613361 % 4294967296 / 134217728 = (idx : Int))
    (hi : idx < 32) (hk : k < 32) (hcell : w.cell? ⟨0, idx, none⟩ = some (.int .u8 k)) :
    Calls Tryd.prog 38 #[.int .u32 x] w fun e w' => e = .returned (.int .i64 k) ∧ w = w' := by
  go_enter Tryd.func38, Tryd.ntmps38
  go_wp2_with (simp only [key])
  go_ret
  exact ⟨rfl, rfl⟩
theorem tz32_calls (x : Nat) (w : World) (h0 : x ≠ 0) (hx : x < 16777216) (hT : TabB w) :
    Calls Tryd.prog 38 #[.int .u32 x] w fun e w' => e = .returned (.int .i64 (Lib.ctz 32 x : Nat)) ∧ w = w' := by
  obtain ⟨hlow, hk⟩ := Lib.lowest_bit 32 x h0 (by omega)
  obtain ⟨hi, htab⟩ := Lib.deBruijn32_at _ hk
  have hcell := hT _ hi
  rw [htab] at hcell
  exact tz32_core x _ _ w (by simp; omega) (tz32_key x _ (by omega) h0 hlow) hi hk hcell

/-- A list of places that reads as the word's. -/
theorem plF_ex (W : Nat) : ∃ xs : List (Fin 24), xs.map (fun x => x.val) = pl W := by
  have h := pl_lt W
  generalize pl W = l at *
  induction l with
  | nil => exact ⟨[], rfl⟩
  | cons a l ih =>
    obtain ⟨xs, hx⟩ := ih (fun x hx => h x (by simp [hx]))
    exact ⟨⟨a, h a (by simp)⟩ :: xs, by simp [hx]⟩

theorem plF_vals (xs : List (Fin 24)) (R : Nat) (h : xs.map (fun x => x.val) = pl R) : xs.length = (plI R).length ∧ vals .i64 (plI R) = xs.map fun x => Value.int .i64 (x.val : Nat) := by
  unfold plI vals
  rw [← h]
  simp
end Go.Proofs.YtnfpdonlknkccabDoor
