/- Sextets of the model: of sums; which lists are sextets; tables, octads. -/
import Derived.Test.YtagniijhbiglaaaDoorC46
namespace Go.Proofs.YtagniijhbiglaaaDoor
open Go.RowKit
set_option linter.unusedVariables false
attribute [local irreducible] octS cN octF syn

set_option maxRecDepth 100000 in
set_option maxHeartbeats 2000000 in
theorem sSextetSum_calls (a b : Int) (w : World) :
    Calls Tryd.prog 28 #[.int .i64 a, .int .i64 b] w (GotL w (sumA a b).1 (sumA a b).2) := by
  have HE := Lib.hid (own_empty w w.heap.size (Nat.le_refl _))
  rcases ha : wordB a with _ | _
  · have hn := (wordB_no a).1 ha
    rw [show sumA a b = ([], false) by simp [sumA, tetB, ha]]
    clear ha
    go_enter Tryd.func28, Tryd.ntmps28
    go_wp2_with (go_at_call 48; refine (sWordValid_no a _ hn).mono ?_; rintro e w' ⟨rfl, rfl⟩)
    go_ret2
    exact ⟨_, rfl, HE.out, (Below.refl _ _).alloc (Nat.le_refl _) _⟩
  have wa := (wordB_iff a).1 ha
  rcases hb : wordB b with _ | _
  · have hn := (wordB_no b).1 hb
    rw [show sumA a b = ([], false) by simp [sumA, tetB, hb]]
    clear ha hb
    go_enter Tryd.func28, Tryd.ntmps28
    go_wp2_with (first | (go_at_call 48; refine (sWordValid_ok a _ wa.1 wa.2).mono ?_; rintro e w' ⟨rfl, rfl⟩) | (go_at_call 48; refine (sWordValid_no b _ hn).mono ?_; rintro e w' ⟨rfl, rfl⟩))
    go_ret2
    exact ⟨_, rfl, HE.out, (Below.refl _ _).alloc (Nat.le_refl _) _⟩
  have wb := (wordB_iff b).1 hb
  have HAND := Lib.hid (and_i64w a b wa wb)
  have hxx : bits .xor .i64 a b = xorI a b := xor_i64 _ _ wa.1 (by have := wa.2; omega) wb.1 (by have := wb.2; omega)
  have HXX := Lib.hid hxx
  clear hxx
  by_cases h4 : wt a = 4
  · by_cases h5 : wt b = 4
    · by_cases h2 : wt (andI a b) = 2
      · have ts := sx_sum ⟨wa.1, wa.2, h4⟩ ⟨wb.1, wb.2, h5⟩ h2
        rw [show sumA a b = (sxOf (xorI a b), true) by simp [sumA, tetB, ha, hb, h2, h4, h5]]
        have HS := Lib.hid (sSextetOf_calls (xorI a b))
        rw [show sxA (xorI a b) = (sxOf (xorI a b), true) by simp [sxA, (tetB_iff _).2 ts]] at HS
        have H4 := Lib.hid h4
        have H5 := Lib.hid h5
        have H2 := Lib.hid h2
        clear ha hb h2 h4 h5 ts
        have hand := HAND.out
        have hxx := HXX.out
        generalize andI a b = m at *
        generalize xorI a b = x at *
        generalize sxOf x = L at *
        go_enter Tryd.func28, Tryd.ntmps28
        go_wp2_with fail
        refine (sWordValid_ok a _ wa.1 wa.2).mono ?_
        rintro e w' ⟨rfl, rfl⟩
        go_wp2_with fail
        refine (sWordValid_ok b _ wb.1 wb.2).mono ?_
        rintro e w' ⟨rfl, rfl⟩
        go_wp2_with fail
        refine (l1Weight_calls a _).mono ?_
        rintro e w' ⟨he, rfl⟩
        rw [H4.out] at he
        subst he
        go_wp2_with fail
        refine (l1Weight_calls b _).mono ?_
        rintro e w' ⟨he, rfl⟩
        rw [H5.out] at he
        subst he
        go_wp2_with fail
        refine (l1Weight_calls m _).mono ?_
        rintro e w' ⟨he, rfl⟩
        rw [H2.out] at he
        subst he
        go_wp2_with fail
        refine (HS.out _).mono ?_
        rintro e w1 ⟨v, rfl, o1, b1⟩
        go_wp2_with fail
        go_ret2
        exact ⟨_, rfl, o1, b1⟩
      · rw [show sumA a b = ([], false) by simp [sumA, h2]]
        have h21 : (wt (andI a b) == 2) = false := by simpa using h2
        have H4 := Lib.hid h4
        have H5 := Lib.hid h5
        have hand := HAND.out
        clear ha hb h2 h4 h5
        generalize andI a b = m at *
        generalize hq : wt m = q at *
        have HQ := Lib.hid hq
        clear hq
        go_enter Tryd.func28, Tryd.ntmps28
        go_wp2_with fail
        refine (sWordValid_ok a _ wa.1 wa.2).mono ?_
        rintro e w' ⟨rfl, rfl⟩
        go_wp2_with fail
        refine (sWordValid_ok b _ wb.1 wb.2).mono ?_
        rintro e w' ⟨rfl, rfl⟩
        go_wp2_with fail
        refine (l1Weight_calls a _).mono ?_
        rintro e w' ⟨he, rfl⟩
        rw [H4.out] at he
        subst he
        go_wp2_with fail
        refine (l1Weight_calls b _).mono ?_
        rintro e w' ⟨he, rfl⟩
        rw [H5.out] at he
        subst he
        go_wp2_with fail
        refine (l1Weight_calls m _).mono ?_
        rintro e w' ⟨he, rfl⟩
        rw [HQ.out] at he
        subst he
        go_wp2_with fail
        go_ret2
        exact ⟨_, rfl, HE.out, (Below.refl _ _).alloc (Nat.le_refl _) _⟩
    · rw [show sumA a b = ([], false) by simp [sumA, tetB, h5]]
      have h51 : (wt b == 4) = false := by simpa using h5
      have h52 : (wt b != 4) = true := by simpa using h5
      have H4 := Lib.hid h4
      clear ha hb h4 h5
      generalize hq : wt b = q at *
      have HQ := Lib.hid hq
      clear hq
      go_enter Tryd.func28, Tryd.ntmps28
      go_wp2_with fail
      refine (sWordValid_ok a _ wa.1 wa.2).mono ?_
      rintro e w' ⟨rfl, rfl⟩
      go_wp2_with fail
      refine (sWordValid_ok b _ wb.1 wb.2).mono ?_
      rintro e w' ⟨rfl, rfl⟩
      go_wp2_with fail
      refine (l1Weight_calls a _).mono ?_
      rintro e w' ⟨he, rfl⟩
      rw [H4.out] at he
      subst he
      go_wp2_with fail
      refine (l1Weight_calls b _).mono ?_
      rintro e w' ⟨he, rfl⟩
      rw [HQ.out] at he
      subst he
      go_wp2_with fail
      go_ret2
      exact ⟨_, rfl, HE.out, (Below.refl _ _).alloc (Nat.le_refl _) _⟩
  · rw [show sumA a b = ([], false) by simp [sumA, tetB, h4]]
    have h41 : (wt a == 4) = false := by simpa using h4
    have h42 : (wt a != 4) = true := by simpa using h4
    clear ha hb h4
    generalize hq : wt a = q at *
    have HQ := Lib.hid hq
    clear hq
    go_enter Tryd.func28, Tryd.ntmps28
    go_wp2_with fail
    refine (sWordValid_ok a _ wa.1 wa.2).mono ?_
    rintro e w' ⟨rfl, rfl⟩
    go_wp2_with fail
    refine (sWordValid_ok b _ wb.1 wb.2).mono ?_
    rintro e w' ⟨rfl, rfl⟩
    go_wp2_with fail
    refine (l1Weight_calls a _).mono ?_
    rintro e w' ⟨he, rfl⟩
    rw [HQ.out] at he
    subst he
    go_wp2_with fail
    go_ret2
    exact ⟨_, rfl, HE.out, (Below.refl _ _).alloc (Nat.le_refl _) _⟩
end Go.Proofs.YtagniijhbiglaaaDoor
