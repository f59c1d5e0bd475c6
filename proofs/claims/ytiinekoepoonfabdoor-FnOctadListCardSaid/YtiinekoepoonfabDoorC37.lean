/- Octads: which numbers are octads; sums of two. -/
import Derived.Test.YtiinekoepoonfabDoorC27
import Derived.Test.YtiinekoepoonfabDoorC28
namespace Go.Proofs.YtiinekoepoonfabDoor
open Go.RowKit
set_option linter.unusedVariables false

def oIn (n : Int) : Bool := cIn n && decide (wt n = 8)
def oPair (a b : Int) : Int × Bool := if oIn a && oIn b && decide (wt (xorI a b) = 8) then (xorI a b, true) else (0, false)
theorem oIn_w {n : Int} (h : oIn n = true) : IsW n ∧ codeInB n = true ∧ wt n = 8 := by
  simp only [oIn, cIn, Bool.and_eq_true, decide_eq_true_eq] at h
  exact ⟨(wordB_iff n).1 h.1.1, h.1.2, h.2⟩
theorem oIn_of {n : Int} (h : IsW n) : oIn n = (decide (wt n = 8) && codeInB n) := by
  simp only [oIn, cIn, (wordB_iff n).2 h, Bool.true_and]
  exact Bool.and_comm _ _
theorem word_isOctad (n : Int) (w : World) (hn : IsW n) (hT : Tab3 w) :
    Calls Tryd.prog 63 #[.int .u32 n] w fun e w' => e = .returned (.bool (oIn n)) ∧ Below w.heap.size w w' := by
  rw [oIn_of hn]
  by_cases h8 : wt n = 8
  · have hx : (decide (wt n = 8) && codeInB n) = codeInB n := by simp [h8]
    rw [hx]
    have HW := Lib.hid h8
    clear h8 hx
    go_enter Tryd.func63, Tryd.ntmps63
    go_wp2_with (first
      | (go_at_call 41; refine (word_weight _ _ hn.1 hn.2).mono ?_; rintro e w' ⟨he, k, rfl⟩; rw [HW.out] at he; subst he)
      | (go_at_call 82; refine (word_inCode _ _ hn (hT.below (below_drewN (Below.refl _ _) _) hT.lt)).mono ?_; rintro e w1 ⟨rfl, b1⟩))
    go_ret
    exact ⟨rfl, (below_drewN (Below.refl w.heap.size w) _).trans b1⟩
  · have hx : (decide (wt n = 8) && codeInB n) = false := by simp [h8]
    rw [hx]
    have h81 : (wt n == 8) = false := by simpa using h8
    generalize hq : wt n = q at *
    have HW := Lib.hid hq
    clear h8 hx hq
    go_enter Tryd.func63, Tryd.ntmps63
    go_wp2_with (go_at_call 41; refine (word_weight _ _ hn.1 hn.2).mono ?_; rintro e w' ⟨he, k, rfl⟩; rw [HW.out] at he; subst he)
    go_ret
    exact ⟨rfl, below_drewN (Below.refl w.heap.size w) _⟩
theorem octadFrom_yes (n : Int) (w : World) (h : oIn n = true) (hT : Tab3 w) :
    Calls Tryd.prog 37 #[.int .i64 n] w fun e w' => e = .returned (.tuple #[.int .u32 n, .bool true]) ∧ Below w.heap.size w w' := by
  have hn := (oIn_w h).1
  have H := Lib.hid h
  clear h
  go_enter Tryd.func37, Tryd.ntmps37
  go_wp2_with (first
    | (go_at_call 40; refine (wordFrom_ok _ _ hn.1 hn.2).mono ?_; rintro e w' ⟨rfl, rfl⟩)
    | (go_at_call 63; refine (word_isOctad _ _ hn hT).mono ?_; rintro e w1 ⟨he, b1⟩; rw [H.out] at he; subst he))
  go_ret2
  exact ⟨rfl, b1⟩
theorem octadFrom_no (n : Int) (w : World) (h : oIn n = false) (hT : Tab3 w) :
    Calls Tryd.prog 37 #[.int .i64 n] w fun e w' => e = .returned (.tuple #[.int .u32 0, .bool false]) ∧ Below w.heap.size w w' := by
  rcases hb : wordB n with _ | _
  · have hn := (wordB_no n).1 hb
    clear hb h
    go_enter Tryd.func37, Tryd.ntmps37
    go_wp2_with (go_at_call 40; refine (wordFrom_no _ _ hn).mono ?_; rintro e w' ⟨rfl, rfl⟩)
    go_ret2
    exact ⟨rfl, Below.refl _ _⟩
  · have hn := (wordB_iff n).1 hb
    have H := Lib.hid h
    clear h hb
    go_enter Tryd.func37, Tryd.ntmps37
    go_wp2_with (first
      | (go_at_call 40; refine (wordFrom_ok _ _ hn.1 hn.2).mono ?_; rintro e w' ⟨rfl, rfl⟩)
      | (go_at_call 63; refine (word_isOctad _ _ hn hT).mono ?_; rintro e w1 ⟨he, b1⟩; rw [H.out] at he; subst he))
    go_ret2
    exact ⟨rfl, b1⟩
theorem iOctadIn_calls (n : Int) (w : World) (hT : Tab3 w) :
    Calls Tryd.prog 11 #[.int .i64 n] w fun e w' => e = .returned (.bool (oIn n)) ∧ Below w.heap.size w w' := by
  rcases hb : oIn n with _ | _
  · go_enter Tryd.func11, Tryd.ntmps11
    go_wp2_with (go_at_call 37; refine (octadFrom_no _ _ hb hT).mono ?_; rintro e w1 ⟨rfl, b1⟩)
    go_ret
    exact ⟨rfl, b1⟩
  · go_enter Tryd.func11, Tryd.ntmps11
    go_wp2_with (go_at_call 37; refine (octadFrom_yes _ _ hb hT).mono ?_; rintro e w1 ⟨rfl, b1⟩)
    go_ret
    exact ⟨rfl, b1⟩
theorem sOctadIn_calls (n : Int) (w : World) :
    Calls Tryd.prog 12 #[.int .i64 n] w fun e w' => e = .returned (.bool (oIn n)) ∧ Below w.heap.size w w' := by
  rcases hc : cIn n with _ | _
  · rw [show oIn n = false by simp [oIn, hc]]
    have HC := Lib.hid hc
    clear hc
    go_enter Tryd.func12, Tryd.ntmps12
    go_wp2_with (go_at_call 38; refine (sCodeIn_calls _ _).mono ?_; rintro e w1 ⟨he, b1⟩; rw [HC.out] at he; subst he)
    go_ret
    exact ⟨rfl, b1⟩
  · have hx : oIn n = (wt n == 8) := by
      simp only [oIn, hc, Bool.true_and]
      by_cases h : wt n = 8 <;> simp [h]
    rw [hx]
    have HC := Lib.hid hc
    clear hc hx
    go_enter Tryd.func12, Tryd.ntmps12
    go_wp2_with (first
      | (go_at_call 38; refine (sCodeIn_calls _ _).mono ?_; rintro e w1 ⟨he, b1⟩; rw [HC.out] at he; subst he)
      | (go_at_call 39; refine (l1Weight_calls _ _).mono ?_; rintro e w' ⟨rfl, rfl⟩))
    go_ret
    exact ⟨rfl, b1⟩
end Go.Proofs.YtiinekoepoonfabDoor
