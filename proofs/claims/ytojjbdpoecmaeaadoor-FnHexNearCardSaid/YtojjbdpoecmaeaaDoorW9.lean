/- The walks of promises 11 and 17, and of the exact law of the sum of digits. -/
import Derived.Test.YtojjbdpoecmaeaaDoorC18
import Derived.Test.YtojjbdpoecmaeaaDoorW8
namespace Go.Proofs.YtojjbdpoecmaeaaDoor
open Go.RowKit
set_option linter.unusedVariables false

def dAdd (a b : Int) : Int := if (0 ≤ a ∧ a ≤ 3) ∧ 0 ≤ b ∧ b ≤ 3 then xorI a b else -1
theorem dAdd_ok {a b : Int} (ha : IsD a) (hb : IsD b) : dAdd a b = xorI a b := by unfold IsD at ha hb; simp [dAdd, ha, hb]
theorem dAdd_no {a b : Int} (h : NoD a ∨ NoD b) : dAdd a b = -1 := by unfold NoD at h; unfold dAdd; rw [if_neg (by omega)]
theorem noD_or {a b : Int} : (NoD a ∨ NoD b) ∨ (IsD a ∧ IsD b) := by unfold NoD IsD; omega
theorem iDigitAdd_b (a b : Int) (w : World) : Calls Tryd.prog 19 #[.int .i64 a, .int .i64 b] w fun e w' => e = .returned (.int .i64 (dAdd a b)) ∧ Below w.heap.size w w' := by
  rcases noD_or (a := a) (b := b) with h | ⟨ha, hb⟩
  · rw [dAdd_no h]; exact (iDigitAdd_no a b w h).mono fun e w' h => ⟨h.1, h.2 ▸ Below.refl _ _⟩
  · rw [dAdd_ok ha hb]; exact (iDigitAdd_ok a b w ha hb).mono fun e w' h => ⟨h.1, h.2 ▸ Below.refl _ _⟩
end Go.Proofs.YtojjbdpoecmaeaaDoor
