/- Contracts of CodeOf, of the program and of the model. -/
import Derived.Test.YtongfkjlajmgfaaDoorC24
import Derived.Test.YtongfkjlajmgfaaDoorC7
namespace Go.Proofs.YtongfkjlajmgfaaDoor
open Go.RowKit
set_option linter.unusedVariables false

theorem iCodeOf_calls (m : Int) (w : World) (hT : Tab2 w) :
    Calls Tryd.prog 26 #[.int .i64 m] w fun e w' => e = .returned (.tuple #[.int .i64 (cOf m).1, .bool (cOf m).2]) ∧ Below w.heap.size w w' := by
  rcases hb : msgB m with _ | _
  · have hn := (msgB_no m).1 hb
    rw [show cOf m = (0, false) by simp [cOf, hb]]
    clear hb
    go_enter Tryd.func26, Tryd.ntmps26
    go_wp2_with (go_at_call 46; refine (messageFrom_no _ _ hn).mono ?_; rintro e w' ⟨rfl, rfl⟩)
    go_ret2
    exact ⟨rfl, Below.refl _ _⟩
  · have hn : IsM m := (msgB_iff m).1 hb
    have hr := codeOf_range m
    rw [show cOf m = (codeOf m, true) by simp [cOf, hb]]
    clear hb
    go_enter Tryd.func26, Tryd.ntmps26
    go_wp2_with (first
      | (go_at_call 46; refine (messageFrom_ok _ _ hn).mono ?_; rintro e w' ⟨rfl, rfl⟩)
      | (go_at_call 47; refine (message_word _ _ hn hT).mono ?_; rintro e w1 ⟨rfl, b1⟩))
    go_ret2
    exact ⟨rfl, b1⟩
theorem sCodeOf_calls (m : Int) (w : World) :
    Calls Tryd.prog 27 #[.int .i64 m] w fun e w' => e = .returned (.tuple #[.int .i64 (cOf m).1, .bool (cOf m).2]) ∧ Below w.heap.size w w' := by
  rcases hb : msgB m with _ | _
  · have hn := (msgB_no m).1 hb
    rw [show cOf m = (0, false) by simp [cOf, hb]]
    clear hb
    go_enter Tryd.func27, Tryd.ntmps27
    go_wp2_with (go_at_call 48; refine (l6In_no _ _ _ _ (by omega)).mono ?_; rintro e w' ⟨rfl, rfl⟩)
    go_ret2
    exact ⟨rfl, Below.refl _ _⟩
  · have hn := (msgB_iff m).1 hb
    rw [show cOf m = (codeOf m, true) by simp [cOf, hb]]
    clear hb
    go_enter Tryd.func27, Tryd.ntmps27
    go_wp2_with (first
      | (go_at_call 48; refine (l6In_ok _ _ _ _ hn.1 hn.2).mono ?_; rintro e w' ⟨rfl, rfl⟩)
      | (go_at_call 49; refine (l3Of_calls _ _ hn.1 hn.2).mono ?_; rintro e w1 ⟨rfl, b1⟩))
    go_ret2
    exact ⟨rfl, b1⟩
end Go.Proofs.YtongfkjlajmgfaaDoor
