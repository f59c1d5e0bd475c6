/- Contracts of the exported functions of chapter 1 on plain numbers, of the program and of its model. -/
import Derived.Test.YtilankmidkikjaaC1
namespace Go.Proofs.Ytilankmidkikjaa
open Go.RowKit
set_option linter.unusedVariables false

/-- A number is a word. -/
def IsW (n : Int) : Prop := 0 ≤ n ∧ n ≤ 16777215
def NoW (n : Int) : Prop := n < 0 ∨ 16777215 < n
theorem isW_or (n : Int) : IsW n ∨ NoW n := by unfold IsW NoW; omega

theorem iWordValid_ok (n : Int) (w : World) (h : IsW n) :
    Calls Try.prog 19 #[.int .i64 n] w fun e w' => e = .returned (.bool true) ∧ w = w' := by
  go_enter Try.func19, Try.ntmps19
  go_wp2_with (go_at_call 45; refine (wordFrom_ok _ _ h.1 h.2).mono ?_; rintro e w' ⟨rfl, rfl⟩)
  go_ret
  exact ⟨rfl, rfl⟩
theorem iWordValid_no (n : Int) (w : World) (h : NoW n) :
    Calls Try.prog 19 #[.int .i64 n] w fun e w' => e = .returned (.bool false) ∧ w = w' := by
  go_enter Try.func19, Try.ntmps19
  go_wp2_with (go_at_call 45; refine (wordFrom_no _ _ h).mono ?_; rintro e w' ⟨rfl, rfl⟩)
  go_ret
  exact ⟨rfl, rfl⟩
theorem iWordWeight_ok (n : Int) (w : World) (h : IsW n) :
    Calls Try.prog 25 #[.int .i64 n] w fun e w' => e = .returned (.int .i64 (wt n)) ∧ ∃ k, w' = w.drewN k := by
  go_enter Try.func25, Try.ntmps25
  go_wp2_with (first | (go_at_call 45; refine (wordFrom_ok _ _ h.1 h.2).mono ?_; rintro e w' ⟨rfl, rfl⟩) | (go_at_call 52; refine (word_weight _ _ h.1 h.2).mono ?_; rintro e w' ⟨rfl, k, rfl⟩))
  go_ret
  exact ⟨rfl, _, rfl⟩
theorem iWordWeight_no (n : Int) (w : World) (h : NoW n) :
    Calls Try.prog 25 #[.int .i64 n] w fun e w' => e = .returned (.int .i64 (-1)) ∧ ∃ k, w' = w.drewN k := by
  go_enter Try.func25, Try.ntmps25
  go_wp2_with (go_at_call 45; refine (wordFrom_no _ _ h).mono ?_; rintro e w' ⟨rfl, rfl⟩)
  go_ret
  exact ⟨rfl, 0, rfl⟩
theorem sWordWeight_ok (n : Int) (w : World) (h : IsW n) :
    Calls Try.prog 40 #[.int .i64 n] w fun e w' => e = .returned (.int .i64 (wt n)) ∧ w = w' := by
  go_enter Try.func40, Try.ntmps40
  go_wp2_with (first | (go_at_call 20; refine (sWordValid_ok _ _ h.1 h.2).mono ?_; rintro e w' ⟨rfl, rfl⟩) | (go_at_call 63; refine (l1Weight_calls _ _).mono ?_; rintro e w' ⟨rfl, rfl⟩))
  go_ret
  exact ⟨rfl, rfl⟩
theorem sWordWeight_no (n : Int) (w : World) (h : NoW n) :
    Calls Try.prog 40 #[.int .i64 n] w fun e w' => e = .returned (.int .i64 (-1)) ∧ w = w' := by
  go_enter Try.func40, Try.ntmps40
  go_wp2_with (go_at_call 20; refine (sWordValid_no _ _ h).mono ?_; rintro e w' ⟨rfl, rfl⟩)
  go_ret
  exact ⟨rfl, rfl⟩
theorem ofTwo_add (a b : Int) (w : World) (ha : IsW a) (hb : IsW b) :
    Calls Try.prog 47 #[.int .i64 a, .int .i64 b, .func (.func 48) #[] #[]] w fun e w' => e = .returned (.tuple #[.int .i64 (xorI a b), .bool true]) ∧ w = w' := by
  obtain ⟨a0, a1⟩ := ha
  obtain ⟨b0, b1⟩ := hb
  have j0 := xorI_nonneg a b
  have j1 : xorI a b ≤ 16777215 := (xorI_le _ _ a1 b1)
  go_enter Try.func47, Try.ntmps47
  go_wp2_with (first
    | (go_at_call 45; refine (wordFrom_ok _ _ (by omega) (by omega)).mono ?_; rintro e w' ⟨rfl, rfl⟩)
    | (go_at_call 48; refine (word_add _ _ _ (by omega) (by omega) (by omega) (by omega)).mono ?_; rintro e w' ⟨rfl, rfl⟩))
  go_ret2
  exact ⟨rfl, rfl⟩
theorem ofTwo_meet (a b : Int) (w : World) (ha : IsW a) (hb : IsW b) :
    Calls Try.prog 47 #[.int .i64 a, .int .i64 b, .func (.func 51) #[] #[]] w fun e w' => e = .returned (.tuple #[.int .i64 (andI a b), .bool true]) ∧ w = w' := by
  obtain ⟨a0, a1⟩ := ha
  obtain ⟨b0, b1⟩ := hb
  have j0 := andI_nonneg a b
  have j1 : andI a b ≤ 16777215 := (andI_le _ _ b1)
  go_enter Try.func47, Try.ntmps47
  go_wp2_with (first
    | (go_at_call 45; refine (wordFrom_ok _ _ (by omega) (by omega)).mono ?_; rintro e w' ⟨rfl, rfl⟩)
    | (go_at_call 51; refine (word_meet _ _ _ (by omega) (by omega) (by omega) (by omega)).mono ?_; rintro e w' ⟨rfl, rfl⟩))
  go_ret2
  exact ⟨rfl, rfl⟩
theorem ofTwo_less (a b : Int) (w : World) (ha : IsW a) (hb : IsW b) :
    Calls Try.prog 47 #[.int .i64 a, .int .i64 b, .func (.func 53) #[] #[]] w fun e w' => e = .returned (.tuple #[.int .i64 (lessI a b), .bool true]) ∧ w = w' := by
  obtain ⟨a0, a1⟩ := ha
  obtain ⟨b0, b1⟩ := hb
  have j0 := lessI_nonneg a b
  have j1 : lessI a b ≤ 16777215 := (lessI_le _ _ a1)
  go_enter Try.func47, Try.ntmps47
  go_wp2_with (first
    | (go_at_call 45; refine (wordFrom_ok _ _ (by omega) (by omega)).mono ?_; rintro e w' ⟨rfl, rfl⟩)
    | (go_at_call 53; refine (word_less _ _ _ (by omega) (by omega) (by omega) (by omega)).mono ?_; rintro e w' ⟨rfl, rfl⟩))
  go_ret2
  exact ⟨rfl, rfl⟩
theorem ofTwo_no (F : Nat) (a b : Int) (w : World) (h : NoW a ∨ NoW b) :
    Calls Try.prog 47 #[.int .i64 a, .int .i64 b, .func (.func F) #[] #[]] w fun e w' => e = .returned (.tuple #[.int .i64 0, .bool false]) ∧ w = w' := by
  by_cases ha : NoW a
  · go_enter Try.func47, Try.ntmps47
    go_wp2_with (go_at_call 45; refine (wordFrom_no _ _ ha).mono ?_; rintro e w' ⟨rfl, rfl⟩)
    go_ret2
    exact ⟨rfl, rfl⟩
  · have ha' : IsW a := (isW_or a).resolve_right ha
    have hb : NoW b := h.resolve_left ha
    go_enter Try.func47, Try.ntmps47
    go_wp2_with fail
    refine (wordFrom_ok _ _ ha'.1 ha'.2).mono ?_
    rintro e w' ⟨rfl, rfl⟩
    go_wp2_with fail
    refine (wordFrom_no _ _ hb).mono ?_
    rintro e w' ⟨rfl, rfl⟩
    go_wp2_with fail
    go_ret2
    exact ⟨rfl, rfl⟩
theorem iWordAdd_ok (a b : Int) (w : World) (ha : IsW a) (hb : IsW b) :
    Calls Try.prog 21 #[.int .i64 a, .int .i64 b] w fun e w' => e = .returned (.tuple #[.int .i64 (xorI a b), .bool true]) ∧ w = w' := by
  go_enter Try.func21, Try.ntmps21
  go_wp2_with (go_at_call 47; refine (ofTwo_add _ _ _ ha hb).mono ?_; rintro e w' ⟨rfl, rfl⟩)
  go_ret2
  exact ⟨rfl, rfl⟩
theorem iWordAdd_no (a b : Int) (w : World) (h : NoW a ∨ NoW b) :
    Calls Try.prog 21 #[.int .i64 a, .int .i64 b] w fun e w' => e = .returned (.tuple #[.int .i64 0, .bool false]) ∧ w = w' := by
  go_enter Try.func21, Try.ntmps21
  go_wp2_with (go_at_call 47; refine (ofTwo_no _ _ _ _ h).mono ?_; rintro e w' ⟨rfl, rfl⟩)
  go_ret2
  exact ⟨rfl, rfl⟩
theorem iWordMeet_ok (a b : Int) (w : World) (ha : IsW a) (hb : IsW b) :
    Calls Try.prog 24 #[.int .i64 a, .int .i64 b] w fun e w' => e = .returned (.tuple #[.int .i64 (andI a b), .bool true]) ∧ w = w' := by
  go_enter Try.func24, Try.ntmps24
  go_wp2_with (go_at_call 47; refine (ofTwo_meet _ _ _ ha hb).mono ?_; rintro e w' ⟨rfl, rfl⟩)
  go_ret2
  exact ⟨rfl, rfl⟩
theorem iWordMeet_no (a b : Int) (w : World) (h : NoW a ∨ NoW b) :
    Calls Try.prog 24 #[.int .i64 a, .int .i64 b] w fun e w' => e = .returned (.tuple #[.int .i64 0, .bool false]) ∧ w = w' := by
  go_enter Try.func24, Try.ntmps24
  go_wp2_with (go_at_call 47; refine (ofTwo_no _ _ _ _ h).mono ?_; rintro e w' ⟨rfl, rfl⟩)
  go_ret2
  exact ⟨rfl, rfl⟩
theorem iWordLess_ok (a b : Int) (w : World) (ha : IsW a) (hb : IsW b) :
    Calls Try.prog 28 #[.int .i64 a, .int .i64 b] w fun e w' => e = .returned (.tuple #[.int .i64 (lessI a b), .bool true]) ∧ w = w' := by
  go_enter Try.func28, Try.ntmps28
  go_wp2_with (go_at_call 47; refine (ofTwo_less _ _ _ ha hb).mono ?_; rintro e w' ⟨rfl, rfl⟩)
  go_ret2
  exact ⟨rfl, rfl⟩
theorem iWordLess_no (a b : Int) (w : World) (h : NoW a ∨ NoW b) :
    Calls Try.prog 28 #[.int .i64 a, .int .i64 b] w fun e w' => e = .returned (.tuple #[.int .i64 0, .bool false]) ∧ w = w' := by
  go_enter Try.func28, Try.ntmps28
  go_wp2_with (go_at_call 47; refine (ofTwo_no _ _ _ _ h).mono ?_; rintro e w' ⟨rfl, rfl⟩)
  go_ret2
  exact ⟨rfl, rfl⟩
theorem l1Both_ok (a b c : Int) (w : World) (ha : IsW a) (hb : IsW b) :
    Calls Try.prog 50 #[.int .i64 a, .int .i64 b, .int .i64 c] w fun e w' => e = .returned (.tuple #[.int .i64 c, .bool true]) ∧ w = w' := by
  go_enter Try.func50, Try.ntmps50
  go_wp2_with fail
  refine (sWordValid_ok _ _ ha.1 ha.2).mono ?_
  rintro e w' ⟨rfl, rfl⟩
  go_wp2_with fail
  refine (sWordValid_ok _ _ hb.1 hb.2).mono ?_
  rintro e w' ⟨rfl, rfl⟩
  go_wp2_with fail
  go_ret2
  exact ⟨rfl, rfl⟩
theorem l1Both_no (a b c : Int) (w : World) (h : NoW a ∨ NoW b) :
    Calls Try.prog 50 #[.int .i64 a, .int .i64 b, .int .i64 c] w fun e w' => e = .returned (.tuple #[.int .i64 0, .bool false]) ∧ w = w' := by
  by_cases ha : NoW a
  · go_enter Try.func50, Try.ntmps50
    go_wp2_with (go_at_call 20; refine (sWordValid_no _ _ ha).mono ?_; rintro e w' ⟨rfl, rfl⟩)
    go_ret2
    exact ⟨rfl, rfl⟩
  · have ha' : IsW a := (isW_or a).resolve_right ha
    have hb : NoW b := h.resolve_left ha
    go_enter Try.func50, Try.ntmps50
    go_wp2_with fail
    refine (sWordValid_ok _ _ ha'.1 ha'.2).mono ?_
    rintro e w' ⟨rfl, rfl⟩
    go_wp2_with fail
    refine (sWordValid_no _ _ hb).mono ?_
    rintro e w' ⟨rfl, rfl⟩
    go_wp2_with fail
    go_ret2
    exact ⟨rfl, rfl⟩
theorem sWordAdd_ok (a b : Int) (w : World) (ha : IsW a) (hb : IsW b) :
    Calls Try.prog 23 #[.int .i64 a, .int .i64 b] w fun e w' => e = .returned (.tuple #[.int .i64 (xorI a b), .bool true]) ∧ w = w' := by
  have HF := Lib.hid (xor_i64 a b ha.1 (by have := ha.2; omega) hb.1 (by have := hb.2; omega))
  go_enter Try.func23, Try.ntmps23
  go_wp2_with (go_at_call 50; rw [HF.out]; refine (l1Both_ok _ _ _ _ ha hb).mono ?_; rintro e w' ⟨rfl, rfl⟩)
  go_ret2
  exact ⟨rfl, rfl⟩
theorem sWordAdd_no (a b : Int) (w : World) (h : NoW a ∨ NoW b) :
    Calls Try.prog 23 #[.int .i64 a, .int .i64 b] w fun e w' => e = .returned (.tuple #[.int .i64 0, .bool false]) ∧ w = w' := by
  go_enter Try.func23, Try.ntmps23
  go_wp2_with (go_at_call 50; refine (l1Both_no _ _ _ _ h).mono ?_; rintro e w' ⟨rfl, rfl⟩)
  go_ret2
  exact ⟨rfl, rfl⟩
theorem sWordMeet_ok (a b : Int) (w : World) (ha : IsW a) (hb : IsW b) :
    Calls Try.prog 27 #[.int .i64 a, .int .i64 b] w fun e w' => e = .returned (.tuple #[.int .i64 (andI a b), .bool true]) ∧ w = w' := by
  have HF := Lib.hid (and_i64 a b ha.1 (by have := ha.2; omega) hb.1 (by have := hb.2; omega))
  go_enter Try.func27, Try.ntmps27
  go_wp2_with (go_at_call 50; rw [HF.out]; refine (l1Both_ok _ _ _ _ ha hb).mono ?_; rintro e w' ⟨rfl, rfl⟩)
  go_ret2
  exact ⟨rfl, rfl⟩
theorem sWordMeet_no (a b : Int) (w : World) (h : NoW a ∨ NoW b) :
    Calls Try.prog 27 #[.int .i64 a, .int .i64 b] w fun e w' => e = .returned (.tuple #[.int .i64 0, .bool false]) ∧ w = w' := by
  go_enter Try.func27, Try.ntmps27
  go_wp2_with (go_at_call 50; refine (l1Both_no _ _ _ _ h).mono ?_; rintro e w' ⟨rfl, rfl⟩)
  go_ret2
  exact ⟨rfl, rfl⟩
theorem sWordLess_ok (a b : Int) (w : World) (ha : IsW a) (hb : IsW b) :
    Calls Try.prog 30 #[.int .i64 a, .int .i64 b] w fun e w' => e = .returned (.tuple #[.int .i64 (lessI a b), .bool true]) ∧ w = w' := by
  have HF := Lib.hid (less_i64 a b ha.1 (by have := ha.2; omega) hb.1 (by have := hb.2; omega))
  go_enter Try.func30, Try.ntmps30
  go_wp2_with (go_at_call 50; rw [HF.out]; refine (l1Both_ok _ _ _ _ ha hb).mono ?_; rintro e w' ⟨rfl, rfl⟩)
  go_ret2
  exact ⟨rfl, rfl⟩
theorem sWordLess_no (a b : Int) (w : World) (h : NoW a ∨ NoW b) :
    Calls Try.prog 30 #[.int .i64 a, .int .i64 b] w fun e w' => e = .returned (.tuple #[.int .i64 0, .bool false]) ∧ w = w' := by
  go_enter Try.func30, Try.ntmps30
  go_wp2_with (go_at_call 50; refine (l1Both_no _ _ _ _ h).mono ?_; rintro e w' ⟨rfl, rfl⟩)
  go_ret2
  exact ⟨rfl, rfl⟩
end Go.Proofs.Ytilankmidkikjaa
