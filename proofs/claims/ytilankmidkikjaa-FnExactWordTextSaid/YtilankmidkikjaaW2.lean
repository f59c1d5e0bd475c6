/- The walks of the exact laws on lists of places. -/
import Derived.Test.YtilankmidkikjaaC5
namespace Go.Proofs.Ytilankmidkikjaa
open Go.RowKit
set_option linter.unusedVariables false

set_option maxHeartbeats 400000 in
theorem walk_FnExactWordOf (a0 : Option Addr) (len0 cap0 : Nat) (z0 : List Int) (w : World) (w0 : IsRow .i64 w a0 len0 cap0 z0) :
    Calls Try.prog 15 #[.slice a0 len0 cap0] w fun e w' => e = .returned (.bool true) ∧ Below w.heap.size w w' := by
  obtain ⟨hr, hl, _⟩ := w0.rds
  generalize z0.take len0 = xs at *
  subst hl
  by_cases hbig : 1048576 < xs.length
  · go_enter Try.func15, Try.ntmps15
    go_wp2_with fail
    go_ret
    exact ⟨rfl, Below.refl _ _⟩
  · have hbig' : xs.length ≤ 1048576 := by omega
    clear hbig
    rcases hw : wof xs with _ | T
    all_goals
      have HW := Lib.hid hw
      clear hw
      go_enter Try.func15, Try.ntmps15
      go_wp2_with fail
      refine (toIntS_calls _ _ xs _ hr hbig').mono ?_
      rintro e w1 ⟨v1, rfl, o1, b1⟩
      obtain ⟨A1, c1, rfl⟩ := o1.slice
      go_wp2_with fail
      refine (sWordOf_calls _ _ xs _ o1.rds o1.len_le).mono ?_
      rintro e w1' ⟨he, rfl⟩
      rw [HW.out] at he
      simp only [resW] at he
      subst he
      have hr1 := (hr.below b1).more b1.size
      go_wp2_with fail
      refine (toIntS_calls _ _ xs _ hr1 hbig').mono ?_
      rintro e w2 ⟨v2, rfl, o2, b2⟩
      obtain ⟨A2, c2, rfl⟩ := o2.slice
      go_wp2_with fail
      refine (iWordOf_calls _ _ xs _ o2.rds o2.len_le).mono ?_
      rintro e w2' ⟨he, rfl⟩
      rw [HW.out] at he
      simp only [resW] at he
      subst he
      have hr2 := (hr1.below b2).more b2.size
      go_wp2_with fail
      refine (toIntS_calls _ _ xs _ hr2 hbig').mono ?_
      rintro e w3 ⟨v3, rfl, o3, b3⟩
      obtain ⟨A3, c3, rfl⟩ := o3.slice
      go_wp2_with fail
      refine (eqIntS_calls _ _ _ _ xs xs _ (o2.below b3).rds o3.rds o2.len_le o3.len_le).mono ?_
      rintro e w4 ⟨he, k, rfl⟩
      rw [eqL_refl] at he
      subst he
      go_wp2_with fail
      go_ret
      exact ⟨rfl, below_drewN (b1.trans ((b2.mono b1.size).trans (b3.mono (Nat.le_trans b1.size b2.size)))) _⟩
theorem walk_FnExactWordRead (a0 : ByteArray) (w : World) (w0 : a0.size ≤ maxLen) :
    Calls Try.prog 17 #[.string a0] w fun e w' => e = .returned (.bool true) ∧ Below w.heap.size w w' := by
  have w0' := w0
  unfold maxLen at w0'
  by_cases hbig : 1048576 < a0.size
  · go_enter Try.func17, Try.ntmps17
    go_wp2_with fail
    go_ret
    exact ⟨rfl, Below.refl _ _⟩
  · have hbig' : a0.size ≤ 1048576 := by omega
    clear hbig
    rcases hw : rdW a0 with _ | T
    all_goals
      have HW := Lib.hid hw
      clear hw
      go_enter Try.func17, Try.ntmps17
      go_wp2_with fail
      refine (sWordRead_calls a0 _ w0).mono ?_
      rintro e w1' ⟨he, rfl⟩
      rw [HW.out] at he
      simp only [resW] at he
      subst he
      go_wp2_with fail
      refine (iWordRead_calls a0 _ w0).mono ?_
      rintro e w1' ⟨he, rfl⟩
      rw [HW.out] at he
      simp only [resW] at he
      subst he
      go_wp2_with fail
      go_ret
      exact ⟨rfl, Below.refl _ _⟩
theorem walk_FnExactWordText (a0 : Int) (w : World) (w0 : (Lit.int .i64 a0).wf = true) :
    Calls Try.prog 16 #[.int .i64 a0] w fun e w' => e = .returned (.bool true) ∧ Below w.heap.size w w' := by
  rcases isW_or a0 with h | h
  · go_enter Try.func16, Try.ntmps16
    go_wp2_with (first
      | (go_at_call 36; refine (sWordText_ok _ _ h).mono ?_; rintro e w' ⟨rfl, rfl⟩)
      | (go_at_call 35; refine (iWordText_ok _ _ h).mono ?_; rintro e w1 ⟨rfl, hb1⟩))
    go_ret
    exact ⟨rfl, hb1⟩
  · go_enter Try.func16, Try.ntmps16
    go_wp2_with (first
      | (go_at_call 36; refine (sWordText_no _ _ h).mono ?_; rintro e w' ⟨rfl, rfl⟩)
      | (go_at_call 35; refine (iWordText_no _ _ h).mono ?_; rintro e w' ⟨rfl, rfl⟩))
    go_ret
    exact ⟨rfl, Below.refl _ _⟩
end Go.Proofs.Ytilankmidkikjaa
