/- Contracts of rows of six digits, of the program: two rows read, a sum, a weight, a row as a list. -/
import Derived.Test.YtiinekoepoonfabDoorC14
import Derived.Test.YtiinekoepoonfabDoorM11
namespace Go.Proofs.YtiinekoepoonfabDoor
open Go.RowKit
set_option linter.unusedVariables false

theorem rowInfo : (Tryd.prog.info? 110).map (·.size) = some 6 := by kernel_rfl
theorem Rds.below_more {w w' : World} {B : Nat} {k : IntKind} {A : Option Addr} {xs : List Int} (h : Rds w B k A xs) (hb : Below B w w') (hs : B ≤ w'.heap.size) : Rds w' w'.heap.size k A xs := (h.below hb).more hs
theorem idx0 (v0 v1 v2 v3 v4 v5 : Value) (W : World) : (Instr.index 110 (.agg #[v0, v1, v2, v3, v4, v5]) (.int .i64 0)).run Tryd.prog W = .ok v0 W := by kernel_rfl
theorem idx1 (v0 v1 v2 v3 v4 v5 : Value) (W : World) : (Instr.index 110 (.agg #[v0, v1, v2, v3, v4, v5]) (.int .i64 1)).run Tryd.prog W = .ok v1 W := by kernel_rfl
theorem idx2 (v0 v1 v2 v3 v4 v5 : Value) (W : World) : (Instr.index 110 (.agg #[v0, v1, v2, v3, v4, v5]) (.int .i64 2)).run Tryd.prog W = .ok v2 W := by kernel_rfl
theorem idx3 (v0 v1 v2 v3 v4 v5 : Value) (W : World) : (Instr.index 110 (.agg #[v0, v1, v2, v3, v4, v5]) (.int .i64 3)).run Tryd.prog W = .ok v3 W := by kernel_rfl
theorem idx4 (v0 v1 v2 v3 v4 v5 : Value) (W : World) : (Instr.index 110 (.agg #[v0, v1, v2, v3, v4, v5]) (.int .i64 4)).run Tryd.prog W = .ok v4 W := by kernel_rfl
theorem idx5 (v0 v1 v2 v3 v4 v5 : Value) (W : World) : (Instr.index 110 (.agg #[v0, v1, v2, v3, v4, v5]) (.int .i64 5)).run Tryd.prog W = .ok v5 W := by kernel_rfl
theorem wtTo6 (d0 d1 d2 d3 d4 d5 : Int) : wtR [d0, d1, d2, d3, d4, d5] = 0 + nz d0 + nz d1 + nz d2 + nz d3 + nz d4 + nz d5 := rfl
def wtK (xs : List Int) (k : Nat) : Int := wtR (xs.take k)
theorem wtK_step (d0 d1 d2 d3 d4 d5 : Int) (k : Nat) (hk : k < 6) : wtK [d0, d1, d2, d3, d4, d5] (k + 1) = wtK [d0, d1, d2, d3, d4, d5] k + nz ([d0, d1, d2, d3, d4, d5].getD k 0) := by
  match k, hk with
  | 0, _ => simp [wtK, wtR]
  | 1, _ => simp [wtK, wtR]
  | 2, _ => simp [wtK, wtR]
  | 3, _ => simp [wtK, wtR]
  | 4, _ => simp [wtK, wtR]
  | 5, _ => simp [wtK, wtR]
theorem wtK_range (d0 d1 d2 d3 d4 d5 : Int) (k : Nat) (hk : k ≤ 6) : 0 ≤ wtK [d0, d1, d2, d3, d4, d5] k ∧ wtK [d0, d1, d2, d3, d4, d5] k ≤ k := by
  induction k with
  | zero => simp [wtK, wtR]
  | succ k ih =>
    have := ih (by omega)
    have := nz_01 ([d0, d1, d2, d3, d4, d5].getD k 0)
    rw [wtK_step _ _ _ _ _ _ k (by omega)]
    omega
end Go.Proofs.YtiinekoepoonfabDoor
