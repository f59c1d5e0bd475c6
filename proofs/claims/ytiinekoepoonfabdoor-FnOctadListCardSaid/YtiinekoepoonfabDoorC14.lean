/- Contracts of digits and of reading rows of six digits, of the program. -/
import Derived.Test.YtiinekoepoonfabDoorC3
import Derived.Test.YtiinekoepoonfabDoorM10
namespace Go.Proofs.YtiinekoepoonfabDoor
open Go.RowKit
set_option linter.unusedVariables false

theorem xor_u8 (a b : Int) (ha : IsD a) (hb : IsD b) : bits .xor .u8 a b = xorI a b := by
  obtain ⟨a, rfl⟩ := ha.fin; obtain ⟨b, rfl⟩ := hb.fin
  clear ha hb; revert a b; decide
theorem digit_add (a b : Int) (w : World) (ha : IsD a) (hb : IsD b) :
    Calls Tryd.prog 126 #[.int .u8 a, .int .u8 b] w fun e w' => e = .returned (.int .u8 (xorI a b)) ∧ w = w' := by
  have HF := Lib.hid (xor_u8 a b ha hb)
  go_enter Tryd.func126, Tryd.ntmps126
  go_wp2
  go_ret
  exact ⟨ret_i HF.out, rfl⟩
end Go.Proofs.YtiinekoepoonfabDoor
