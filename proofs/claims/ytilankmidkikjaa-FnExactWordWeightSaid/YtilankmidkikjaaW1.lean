/- The walks of the laws of chapter 1 on plain numbers. -/
import Derived.Test.YtilankmidkikjaaC2
namespace Go.Proofs.Ytilankmidkikjaa
open Go.RowKit
set_option linter.unusedVariables false

theorem walk_FnExactWordValid (a0 : Int) (w : World) (w0 : (Lit.int .i64 a0).wf = true) :
    Calls Try.prog 10 #[.int .i64 a0] w fun e w' => e = .returned (.bool true) ∧ Below w.heap.size w w' := by
  rcases isW_or a0 with h | h
  · go_enter Try.func10, Try.ntmps10
    go_wp2_with (first
      | (go_at_call 20; refine (sWordValid_ok _ _ h.1 h.2).mono ?_; rintro e w' ⟨rfl, rfl⟩)
      | (go_at_call 19; refine (iWordValid_ok _ _ h).mono ?_; rintro e w' ⟨rfl, rfl⟩))
    go_ret
    exact ⟨rfl, Below.refl _ _⟩
  · go_enter Try.func10, Try.ntmps10
    go_wp2_with (first
      | (go_at_call 20; refine (sWordValid_no _ _ h).mono ?_; rintro e w' ⟨rfl, rfl⟩)
      | (go_at_call 19; refine (iWordValid_no _ _ h).mono ?_; rintro e w' ⟨rfl, rfl⟩))
    go_ret
    exact ⟨rfl, Below.refl _ _⟩
theorem walk_FnExactWordWeight (a0 : Int) (w : World) (w0 : (Lit.int .i64 a0).wf = true) :
    Calls Try.prog 11 #[.int .i64 a0] w fun e w' => e = .returned (.bool true) ∧ Below w.heap.size w w' := by
  rcases isW_or a0 with h | h
  · go_enter Try.func11, Try.ntmps11
    go_wp2_with (first
      | (go_at_call 40; refine (sWordWeight_ok _ _ h).mono ?_; rintro e w' ⟨rfl, rfl⟩)
      | (go_at_call 25; refine (iWordWeight_ok _ _ h).mono ?_; rintro e w' ⟨rfl, k, rfl⟩))
    go_ret
    exact ⟨rfl, below_drewN (Below.refl _ _) _⟩
  · go_enter Try.func11, Try.ntmps11
    go_wp2_with (first
      | (go_at_call 40; refine (sWordWeight_no _ _ h).mono ?_; rintro e w' ⟨rfl, rfl⟩)
      | (go_at_call 25; refine (iWordWeight_no _ _ h).mono ?_; rintro e w' ⟨rfl, k, rfl⟩))
    go_ret
    exact ⟨rfl, below_drewN (Below.refl _ _) _⟩
theorem walk_FnExactWordAdd (a0 a1 : Int) (w : World) (w0 : (Lit.int .i64 a0).wf = true) (w1 : (Lit.int .i64 a1).wf = true) :
    Calls Try.prog 12 #[.int .i64 a0, .int .i64 a1] w fun e w' => e = .returned (.bool true) ∧ Below w.heap.size w w' := by
  by_cases h : NoW a0 ∨ NoW a1
  · go_enter Try.func12, Try.ntmps12
    go_wp2_with (first
      | (go_at_call 23; refine (sWordAdd_no _ _ _ h).mono ?_; rintro e w' ⟨rfl, rfl⟩)
      | (go_at_call 21; refine (iWordAdd_no _ _ _ h).mono ?_; rintro e w' ⟨rfl, rfl⟩))
    go_ret
    exact ⟨rfl, Below.refl _ _⟩
  · have ha : IsW a0 := (isW_or a0).resolve_right (fun x => h (.inl x))
    have hb : IsW a1 := (isW_or a1).resolve_right (fun x => h (.inr x))
    clear h
    go_enter Try.func12, Try.ntmps12
    go_wp2_with (first
      | (go_at_call 23; refine (sWordAdd_ok _ _ _ ha hb).mono ?_; rintro e w' ⟨rfl, rfl⟩)
      | (go_at_call 21; refine (iWordAdd_ok _ _ _ ha hb).mono ?_; rintro e w' ⟨rfl, rfl⟩))
    go_ret
    exact ⟨rfl, Below.refl _ _⟩
theorem walk_FnExactWordMeet (a0 a1 : Int) (w : World) (w0 : (Lit.int .i64 a0).wf = true) (w1 : (Lit.int .i64 a1).wf = true) :
    Calls Try.prog 13 #[.int .i64 a0, .int .i64 a1] w fun e w' => e = .returned (.bool true) ∧ Below w.heap.size w w' := by
  by_cases h : NoW a0 ∨ NoW a1
  · go_enter Try.func13, Try.ntmps13
    go_wp2_with (first
      | (go_at_call 27; refine (sWordMeet_no _ _ _ h).mono ?_; rintro e w' ⟨rfl, rfl⟩)
      | (go_at_call 24; refine (iWordMeet_no _ _ _ h).mono ?_; rintro e w' ⟨rfl, rfl⟩))
    go_ret
    exact ⟨rfl, Below.refl _ _⟩
  · have ha : IsW a0 := (isW_or a0).resolve_right (fun x => h (.inl x))
    have hb : IsW a1 := (isW_or a1).resolve_right (fun x => h (.inr x))
    clear h
    go_enter Try.func13, Try.ntmps13
    go_wp2_with (first
      | (go_at_call 27; refine (sWordMeet_ok _ _ _ ha hb).mono ?_; rintro e w' ⟨rfl, rfl⟩)
      | (go_at_call 24; refine (iWordMeet_ok _ _ _ ha hb).mono ?_; rintro e w' ⟨rfl, rfl⟩))
    go_ret
    exact ⟨rfl, Below.refl _ _⟩
theorem walk_FnExactWordLess (a0 a1 : Int) (w : World) (w0 : (Lit.int .i64 a0).wf = true) (w1 : (Lit.int .i64 a1).wf = true) :
    Calls Try.prog 14 #[.int .i64 a0, .int .i64 a1] w fun e w' => e = .returned (.bool true) ∧ Below w.heap.size w w' := by
  by_cases h : NoW a0 ∨ NoW a1
  · go_enter Try.func14, Try.ntmps14
    go_wp2_with (first
      | (go_at_call 30; refine (sWordLess_no _ _ _ h).mono ?_; rintro e w' ⟨rfl, rfl⟩)
      | (go_at_call 28; refine (iWordLess_no _ _ _ h).mono ?_; rintro e w' ⟨rfl, rfl⟩))
    go_ret
    exact ⟨rfl, Below.refl _ _⟩
  · have ha : IsW a0 := (isW_or a0).resolve_right (fun x => h (.inl x))
    have hb : IsW a1 := (isW_or a1).resolve_right (fun x => h (.inr x))
    clear h
    go_enter Try.func14, Try.ntmps14
    go_wp2_with (first
      | (go_at_call 30; refine (sWordLess_ok _ _ _ ha hb).mono ?_; rintro e w' ⟨rfl, rfl⟩)
      | (go_at_call 28; refine (iWordLess_ok _ _ _ ha hb).mono ?_; rintro e w' ⟨rfl, rfl⟩))
    go_ret
    exact ⟨rfl, Below.refl _ _⟩
end Go.Proofs.Ytilankmidkikjaa
