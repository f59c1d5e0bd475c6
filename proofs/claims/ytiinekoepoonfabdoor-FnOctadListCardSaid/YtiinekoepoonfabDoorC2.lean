/- Contracts of the exported functions of chapter 1 on plain numbers, of the program and of its model. -/
import Derived.Test.YtiinekoepoonfabDoorC1
namespace Go.Proofs.YtiinekoepoonfabDoor
open Go.RowKit
set_option linter.unusedVariables false

/-- A number is a word. -/
def IsW (n : Int) : Prop := 0 ≤ n ∧ n ≤ 16777215
def NoW (n : Int) : Prop := n < 0 ∨ 16777215 < n
theorem isW_or (n : Int) : IsW n ∨ NoW n := by unfold IsW NoW; omega

theorem ofTwo_add (a b : Int) (w : World) (ha : IsW a) (hb : IsW b) :
    Calls Tryd.prog 54 #[.int .i64 a, .int .i64 b, .func (.func 52) #[] #[]] w fun e w' => e = .returned (.tuple #[.int .i64 (xorI a b), .bool true]) ∧ w = w' := by
  obtain ⟨a0, a1⟩ := ha
  obtain ⟨b0, b1⟩ := hb
  have j0 := xorI_nonneg a b
  have j1 : xorI a b ≤ 16777215 := (xorI_le _ _ a1 b1)
  go_enter Tryd.func54, Tryd.ntmps54
  go_wp2_with (first
    | (go_at_call 40; refine (wordFrom_ok _ _ (by omega) (by omega)).mono ?_; rintro e w' ⟨rfl, rfl⟩)
    | (go_at_call 52; refine (word_add _ _ _ (by omega) (by omega) (by omega) (by omega)).mono ?_; rintro e w' ⟨rfl, rfl⟩))
  go_ret2
  exact ⟨rfl, rfl⟩
theorem ofTwo_meet (a b : Int) (w : World) (ha : IsW a) (hb : IsW b) :
    Calls Tryd.prog 54 #[.int .i64 a, .int .i64 b, .func (.func 55) #[] #[]] w fun e w' => e = .returned (.tuple #[.int .i64 (andI a b), .bool true]) ∧ w = w' := by
  obtain ⟨a0, a1⟩ := ha
  obtain ⟨b0, b1⟩ := hb
  have j0 := andI_nonneg a b
  have j1 : andI a b ≤ 16777215 := (andI_le _ _ b1)
  go_enter Tryd.func54, Tryd.ntmps54
  go_wp2_with (first
    | (go_at_call 40; refine (wordFrom_ok _ _ (by omega) (by omega)).mono ?_; rintro e w' ⟨rfl, rfl⟩)
    | (go_at_call 55; refine (word_meet _ _ _ (by omega) (by omega) (by omega) (by omega)).mono ?_; rintro e w' ⟨rfl, rfl⟩))
  go_ret2
  exact ⟨rfl, rfl⟩
theorem ofTwo_less (a b : Int) (w : World) (ha : IsW a) (hb : IsW b) :
    Calls Tryd.prog 54 #[.int .i64 a, .int .i64 b, .func (.func 73) #[] #[]] w fun e w' => e = .returned (.tuple #[.int .i64 (lessI a b), .bool true]) ∧ w = w' := by
  obtain ⟨a0, a1⟩ := ha
  obtain ⟨b0, b1⟩ := hb
  have j0 := lessI_nonneg a b
  have j1 : lessI a b ≤ 16777215 := (lessI_le _ _ a1)
  go_enter Tryd.func54, Tryd.ntmps54
  go_wp2_with (first
    | (go_at_call 40; refine (wordFrom_ok _ _ (by omega) (by omega)).mono ?_; rintro e w' ⟨rfl, rfl⟩)
    | (go_at_call 73; refine (word_less _ _ _ (by omega) (by omega) (by omega) (by omega)).mono ?_; rintro e w' ⟨rfl, rfl⟩))
  go_ret2
  exact ⟨rfl, rfl⟩
theorem ofTwo_no (F : Nat) (a b : Int) (w : World) (h : NoW a ∨ NoW b) :
    Calls Tryd.prog 54 #[.int .i64 a, .int .i64 b, .func (.func F) #[] #[]] w fun e w' => e = .returned (.tuple #[.int .i64 0, .bool false]) ∧ w = w' := by
  by_cases ha : NoW a
  · go_enter Tryd.func54, Tryd.ntmps54
    go_wp2_with (go_at_call 40; refine (wordFrom_no _ _ ha).mono ?_; rintro e w' ⟨rfl, rfl⟩)
    go_ret2
    exact ⟨rfl, rfl⟩
  · have ha' : IsW a := (isW_or a).resolve_right ha
    have hb : NoW b := h.resolve_left ha
    go_enter Tryd.func54, Tryd.ntmps54
    go_wp2_with fail
    refine (wordFrom_ok _ _ ha'.1 ha'.2).mono ?_
    rintro e w' ⟨rfl, rfl⟩
    go_wp2_with fail
    refine (wordFrom_no _ _ hb).mono ?_
    rintro e w' ⟨rfl, rfl⟩
    go_wp2_with fail
    go_ret2
    exact ⟨rfl, rfl⟩
theorem iWordMeet_ok (a b : Int) (w : World) (ha : IsW a) (hb : IsW b) :
    Calls Tryd.prog 18 #[.int .i64 a, .int .i64 b] w fun e w' => e = .returned (.tuple #[.int .i64 (andI a b), .bool true]) ∧ w = w' := by
  go_enter Tryd.func18, Tryd.ntmps18
  go_wp2_with (go_at_call 54; refine (ofTwo_meet _ _ _ ha hb).mono ?_; rintro e w' ⟨rfl, rfl⟩)
  go_ret2
  exact ⟨rfl, rfl⟩
theorem iWordMeet_no (a b : Int) (w : World) (h : NoW a ∨ NoW b) :
    Calls Tryd.prog 18 #[.int .i64 a, .int .i64 b] w fun e w' => e = .returned (.tuple #[.int .i64 0, .bool false]) ∧ w = w' := by
  go_enter Tryd.func18, Tryd.ntmps18
  go_wp2_with (go_at_call 54; refine (ofTwo_no _ _ _ _ h).mono ?_; rintro e w' ⟨rfl, rfl⟩)
  go_ret2
  exact ⟨rfl, rfl⟩
end Go.Proofs.YtiinekoepoonfabDoor
