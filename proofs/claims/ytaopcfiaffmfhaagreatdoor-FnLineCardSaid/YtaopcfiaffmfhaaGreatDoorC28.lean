/- The model's scores, messages, and which words are of the code. -/
import Derived.Test.YtaopcfiaffmfhaaGreatDoorC22
import Derived.Test.YtaopcfiaffmfhaaGreatDoorQ3
import Derived.Test.YtaopcfiaffmfhaaGreatDoorP2
namespace Go.Proofs.YtaopcfiaffmfhaaGreatDoor
open Go.RowKit
set_option linter.unusedVariables false

def scTo (w : Int) (c : Nat) : Nat → Int
  | 0 => 0
  | r + 1 => if bitI w (4 * (c : Int) + (r : Int)) = 1 then xorI (scTo w c r) r else scTo w c r
def scB (n : Int) : Nat → Int
  | 0 => 0
  | r + 1 => if bitI n (r : Int) = 1 then xorI (scB n r) r else scB n r
theorem scB_all : ∀ n : Fin 16, scB (n.val : Int) 4 = scN (n.val : Int) := by decide +kernel
theorem scTo_scB (w : Int) (c r : Nat) (hr : r ≤ 4) : scTo w c r = scB (colI w c) r := by
  induction r with
  | zero => rfl
  | succ r ih => simp only [scTo, scB]; rw [ih (by omega), bit_col w c r (by omega)]
theorem scTo_all (w : Int) (c : Nat) : scTo w c 4 = scoreI w c := by
  rw [scTo_scB w c 4 (by omega)]
  obtain ⟨x, hx⟩ := nib_fin (colI_range w c).1 (colI_range w c).2
  unfold scoreI; rw [hx]; exact scB_all x
theorem scTo_d (w : Int) (c r : Nat) (hr : r ≤ 4) : IsD (scTo w c r) := by
  induction r with
  | zero => exact zero_d
  | succ r ih =>
    simp only [scTo]
    split
    · exact xorI_d (ih (by omega)) ⟨by omega, by omega⟩
    · exact ih (by omega)
end Go.Proofs.YtaopcfiaffmfhaaGreatDoor
