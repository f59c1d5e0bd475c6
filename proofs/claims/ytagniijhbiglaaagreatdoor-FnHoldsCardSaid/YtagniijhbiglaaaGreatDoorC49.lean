/- Sextets of the program: of a tetrad, of a sum; which lists are sextets. -/
import Derived.Test.YtagniijhbiglaaaGreatDoorC48
namespace Go.Proofs.YtagniijhbiglaaaGreatDoor
open Go.RowKit Go.Shelf
set_option linter.unusedVariables false
attribute [local irreducible] octS cN octF syn

theorem tetB_no {n : Int} (h : tetB n = false) : (n < 0 ∨ 16777215 < n) ∨ (IsW n ∧ wt n ≠ 4) := by
  unfold tetB at h
  rcases hw : wordB n with _ | _
  · exact .inl ((wordB_no n).1 hw)
  · rw [hw] at h
    exact .inr ⟨(wordB_iff n).1 hw, by simpa using h⟩
theorem tetradFrom_yes (n : Int) (w : World) (h : Tet n) :
    Calls Tryz.prog 25 #[.int .i64 n] w fun e w' => e = .returned (.tuple #[.int .u32 n, .bool true]) ∧ ∃ k, w' = w.drewN k := by
  have H4 := Lib.hid h.2.2
  go_enter Tryz.func25, Tryz.ntmps25
  go_wp2_with (first
    | (go_at_call 30; refine (wordFrom_ok n _ h.1 h.2.1).mono ?_; rintro e w' ⟨rfl, rfl⟩)
    | (go_at_call 40; refine (word_weight n _ h.1 h.2.1).mono ?_; rintro e w' ⟨he, k, rfl⟩; rw [H4.out] at he; subst he))
  go_ret2
  exact ⟨rfl, k, rfl⟩
theorem tetradFrom_no (n : Int) (w : World) (h : tetB n = false) :
    Calls Tryz.prog 25 #[.int .i64 n] w fun e w' => e = .returned (.tuple #[.int .u32 0, .bool false]) ∧ ∃ k, w' = w.drewN k := by
  rcases tetB_no h with hn | ⟨wn, h4⟩
  · clear h
    go_enter Tryz.func25, Tryz.ntmps25
    go_wp2_with (go_at_call 30; refine (wordFrom_no n _ hn).mono ?_; rintro e w' ⟨rfl, rfl⟩)
    go_ret2
    exact ⟨rfl, 0, rfl⟩
  · have h41 : (wt n == 4) = false := by simpa using h4
    clear h h4
    generalize hq : wt n = q at *
    have HQ := Lib.hid hq
    clear hq
    go_enter Tryz.func25, Tryz.ntmps25
    go_wp2_with (first
      | (go_at_call 30; refine (wordFrom_ok n _ wn.1 wn.2).mono ?_; rintro e w' ⟨rfl, rfl⟩)
      | (go_at_call 40; refine (word_weight n _ wn.1 wn.2).mono ?_; rintro e w' ⟨he, k, rfl⟩; rw [HQ.out] at he; subst he))
    go_ret2
    exact ⟨rfl, k, rfl⟩
theorem sxOf_w {n : Int} (h : Tet n) : ∀ x ∈ sxOf n, IsW x := fun x hx => ⟨(sxOf_same h hx).1.1, (sxOf_same h hx).1.2.1⟩
end Go.Proofs.YtagniijhbiglaaaGreatDoor
