/- Octads: which numbers are octads; sums of two. -/
import Derived.Test.YtiinekoepoonfaaDoorC27
import Derived.Test.YtiinekoepoonfaaDoorC28
namespace Go.Proofs.YtiinekoepoonfaaDoor
open Go.RowKit
set_option linter.unusedVariables false

def oIn (n : Int) : Bool := cIn n && decide (wt n = 8)
def oPair (a b : Int) : Int × Bool := if oIn a && oIn b && decide (wt (xorI a b) = 8) then (xorI a b, true) else (0, false)
theorem oIn_w {n : Int} (h : oIn n = true) : IsW n ∧ codeInB n = true ∧ wt n = 8 := by
  simp only [oIn, cIn, Bool.and_eq_true, decide_eq_true_eq] at h
  exact ⟨(wordB_iff n).1 h.1.1, h.1.2, h.2⟩
theorem oIn_of {n : Int} (h : IsW n) : oIn n = (decide (wt n = 8) && codeInB n) := by
  simp only [oIn, cIn, (wordB_iff n).2 h, Bool.true_and]
  exact Bool.and_comm _ _
theorem word_isOctad (n : Int) (w : World) (hn : IsW n) (hT : Tab3 w) :
    Calls Tryd.prog 46 #[.int .u32 n] w fun e w' => e = .returned (.bool (oIn n)) ∧ Below w.heap.size w w' := by
  rw [oIn_of hn]
  by_cases h8 : wt n = 8
  · have hx : (decide (wt n = 8) && codeInB n) = codeInB n := by simp [h8]
    rw [hx]
    have HW := Lib.hid h8
    clear h8 hx
    go_enter Tryd.func46, Tryd.ntmps46
    go_wp2_with (first
      | (go_at_call 49; refine (word_weight _ _ hn.1 hn.2).mono ?_; rintro e w' ⟨he, k, rfl⟩; rw [HW.out] at he; subst he)
      | (go_at_call 51; refine (word_inCode _ _ hn (hT.below (below_drewN (Below.refl _ _) _) hT.lt)).mono ?_; rintro e w1 ⟨rfl, b1⟩))
    go_ret
    exact ⟨rfl, (below_drewN (Below.refl w.heap.size w) _).trans b1⟩
  · have hx : (decide (wt n = 8) && codeInB n) = false := by simp [h8]
    rw [hx]
    have h81 : (wt n == 8) = false := by simpa using h8
    generalize hq : wt n = q at *
    have HW := Lib.hid hq
    clear h8 hx hq
    go_enter Tryd.func46, Tryd.ntmps46
    go_wp2_with (go_at_call 49; refine (word_weight _ _ hn.1 hn.2).mono ?_; rintro e w' ⟨he, k, rfl⟩; rw [HW.out] at he; subst he)
    go_ret
    exact ⟨rfl, below_drewN (Below.refl w.heap.size w) _⟩
theorem octadFrom_yes (n : Int) (w : World) (h : oIn n = true) (hT : Tab3 w) :
    Calls Tryd.prog 39 #[.int .i64 n] w fun e w' => e = .returned (.tuple #[.int .u32 n, .bool true]) ∧ Below w.heap.size w w' := by
  have hn := (oIn_w h).1
  have H := Lib.hid h
  clear h
  go_enter Tryd.func39, Tryd.ntmps39
  go_wp2_with (first
    | (go_at_call 34; refine (wordFrom_ok _ _ hn.1 hn.2).mono ?_; rintro e w' ⟨rfl, rfl⟩)
    | (go_at_call 46; refine (word_isOctad _ _ hn hT).mono ?_; rintro e w1 ⟨he, b1⟩; rw [H.out] at he; subst he))
  go_ret2
  exact ⟨rfl, b1⟩
theorem octadFrom_no (n : Int) (w : World) (h : oIn n = false) (hT : Tab3 w) :
    Calls Tryd.prog 39 #[.int .i64 n] w fun e w' => e = .returned (.tuple #[.int .u32 0, .bool false]) ∧ Below w.heap.size w w' := by
  rcases hb : wordB n with _ | _
  · have hn := (wordB_no n).1 hb
    clear hb h
    go_enter Tryd.func39, Tryd.ntmps39
    go_wp2_with (go_at_call 34; refine (wordFrom_no _ _ hn).mono ?_; rintro e w' ⟨rfl, rfl⟩)
    go_ret2
    exact ⟨rfl, Below.refl _ _⟩
  · have hn := (wordB_iff n).1 hb
    have H := Lib.hid h
    clear h hb
    go_enter Tryd.func39, Tryd.ntmps39
    go_wp2_with (first
      | (go_at_call 34; refine (wordFrom_ok _ _ hn.1 hn.2).mono ?_; rintro e w' ⟨rfl, rfl⟩)
      | (go_at_call 46; refine (word_isOctad _ _ hn hT).mono ?_; rintro e w1 ⟨he, b1⟩; rw [H.out] at he; subst he))
    go_ret2
    exact ⟨rfl, b1⟩
theorem iOctadIn_calls (n : Int) (w : World) (hT : Tab3 w) :
    Calls Tryd.prog 21 #[.int .i64 n] w fun e w' => e = .returned (.bool (oIn n)) ∧ Below w.heap.size w w' := by
  rcases hb : oIn n with _ | _
  · go_enter Tryd.func21, Tryd.ntmps21
    go_wp2_with (go_at_call 39; refine (octadFrom_no _ _ hb hT).mono ?_; rintro e w1 ⟨rfl, b1⟩)
    go_ret
    exact ⟨rfl, b1⟩
  · go_enter Tryd.func21, Tryd.ntmps21
    go_wp2_with (go_at_call 39; refine (octadFrom_yes _ _ hb hT).mono ?_; rintro e w1 ⟨rfl, b1⟩)
    go_ret
    exact ⟨rfl, b1⟩
theorem sOctadIn_calls (n : Int) (w : World) :
    Calls Tryd.prog 41 #[.int .i64 n] w fun e w' => e = .returned (.bool (oIn n)) ∧ Below w.heap.size w w' := by
  rcases hc : cIn n with _ | _
  · rw [show oIn n = false by simp [oIn, hc]]
    have HC := Lib.hid hc
    clear hc
    go_enter Tryd.func41, Tryd.ntmps41
    go_wp2_with (go_at_call 52; refine (sCodeIn_calls _ _).mono ?_; rintro e w1 ⟨he, b1⟩; rw [HC.out] at he; subst he)
    go_ret
    exact ⟨rfl, b1⟩
  · have hx : oIn n = (wt n == 8) := by
      simp only [oIn, hc, Bool.true_and]
      by_cases h : wt n = 8 <;> simp [h]
    rw [hx]
    have HC := Lib.hid hc
    clear hc hx
    go_enter Tryd.func41, Tryd.ntmps41
    go_wp2_with (first
      | (go_at_call 52; refine (sCodeIn_calls _ _).mono ?_; rintro e w1 ⟨he, b1⟩; rw [HC.out] at he; subst he)
      | (go_at_call 42; refine (l1Weight_calls _ _).mono ?_; rintro e w' ⟨rfl, rfl⟩))
    go_ret
    exact ⟨rfl, b1⟩
theorem iOctadPair_calls (a b : Int) (w : World) (hT : Tab3 w) :
    Calls Tryd.prog 18 #[.int .i64 a, .int .i64 b] w fun e w' => e = .returned (.tuple #[.int .i64 (oPair a b).1, .bool (oPair a b).2]) ∧ Below w.heap.size w w' := by
  rcases ha : oIn a with _ | _
  · rw [show oPair a b = (0, false) by simp [oPair, ha]]
    go_enter Tryd.func18, Tryd.ntmps18
    go_wp2_with (go_at_call 39; refine (octadFrom_no _ _ ha hT).mono ?_; rintro e w1 ⟨rfl, b1⟩)
    go_ret2
    exact ⟨rfl, b1⟩
  rcases hb : oIn b with _ | _
  · rw [show oPair a b = (0, false) by simp [oPair, hb]]
    go_enter Tryd.func18, Tryd.ntmps18
    go_wp2_with fail
    refine (octadFrom_yes a _ ha hT).mono ?_
    rintro e w1 ⟨rfl, b1⟩
    go_wp2_with fail
    refine (octadFrom_no b _ hb (hT.below b1 hT.lt)).mono ?_
    rintro e w2 ⟨rfl, b2⟩
    have B2 := b1.trans (b2.mono b1.size)
    go_wp2_with fail
    go_ret2
    exact ⟨rfl, B2⟩
  obtain ⟨wa, ca, _⟩ := oIn_w ha
  obtain ⟨wb, cb, _⟩ := oIn_w hb
  have ws : IsW (xorI a b) := ⟨xorI_nonneg _ _, xorI_le _ _ wa.2 wb.2⟩
  have cs := code_sum a b wa.1 wa.2 wb.1 wb.2 ca cb
  rcases hs : oIn (xorI a b) with _ | _
  · have h8 : ¬ wt (xorI a b) = 8 := by
      intro h
      rw [oIn_of ws] at hs
      simp [h, cs] at hs
    rw [show oPair a b = (0, false) by simp [oPair, h8]]
    have HS := Lib.hid hs
    clear h8 hs
    go_enter Tryd.func18, Tryd.ntmps18
    go_wp2_with fail
    refine (octadFrom_yes a _ ha hT).mono ?_
    rintro e w1 ⟨rfl, b1⟩
    go_wp2_with fail
    refine (octadFrom_yes b _ hb (hT.below b1 hT.lt)).mono ?_
    rintro e w2 ⟨rfl, b2⟩
    have B2 := b1.trans (b2.mono b1.size)
    go_wp2_with fail
    refine (word_add a b _ wa.1 wa.2 wb.1 wb.2).mono ?_
    rintro e w' ⟨rfl, rfl⟩
    go_wp2_with fail
    refine (word_isOctad _ _ ws (hT.below B2 hT.lt)).mono ?_
    rintro e w3 ⟨he, b3⟩
    rw [HS.out] at he
    subst he
    go_wp2_with fail
    go_ret2
    exact ⟨rfl, B2.trans (b3.mono B2.size)⟩
  · have h8 : wt (xorI a b) = 8 := (oIn_w hs).2.2
    rw [show oPair a b = (xorI a b, true) by simp [oPair, ha, hb, h8]]
    have HS := Lib.hid hs
    clear h8 hs
    have ws1 := ws.1
    have ws2 := ws.2
    go_enter Tryd.func18, Tryd.ntmps18
    go_wp2_with fail
    refine (octadFrom_yes a _ ha hT).mono ?_
    rintro e w1 ⟨rfl, b1⟩
    go_wp2_with fail
    refine (octadFrom_yes b _ hb (hT.below b1 hT.lt)).mono ?_
    rintro e w2 ⟨rfl, b2⟩
    have B2 := b1.trans (b2.mono b1.size)
    go_wp2_with fail
    refine (word_add a b _ wa.1 wa.2 wb.1 wb.2).mono ?_
    rintro e w' ⟨rfl, rfl⟩
    go_wp2_with fail
    refine (word_isOctad _ _ ws (hT.below B2 hT.lt)).mono ?_
    rintro e w3 ⟨he, b3⟩
    rw [HS.out] at he
    subst he
    go_wp2_with fail
    go_ret2
    exact ⟨rfl, B2.trans (b3.mono B2.size)⟩
theorem sOctadPair_calls (a b : Int) (w : World) :
    Calls Tryd.prog 19 #[.int .i64 a, .int .i64 b] w fun e w' => e = .returned (.tuple #[.int .i64 (oPair a b).1, .bool (oPair a b).2]) ∧ Below w.heap.size w w' := by
  rcases ha : oIn a with _ | _
  · rw [show oPair a b = (0, false) by simp [oPair, ha]]
    have HA := Lib.hid ha
    clear ha
    go_enter Tryd.func19, Tryd.ntmps19
    go_wp2_with fail
    refine (sOctadIn_calls a _).mono ?_
    rintro e w1 ⟨he, b1⟩
    rw [HA.out] at he
    subst he
    go_wp2_with fail
    go_ret2
    exact ⟨rfl, b1⟩
  have HA := Lib.hid ha
  rcases hb : oIn b with _ | _
  · rw [show oPair a b = (0, false) by simp [oPair, hb]]
    have HB := Lib.hid hb
    clear ha hb
    go_enter Tryd.func19, Tryd.ntmps19
    go_wp2_with fail
    refine (sOctadIn_calls a _).mono ?_
    rintro e w1 ⟨he, b1⟩
    rw [HA.out] at he
    subst he
    go_wp2_with fail
    refine (sOctadIn_calls b _).mono ?_
    rintro e w2 ⟨he, b2⟩
    rw [HB.out] at he
    subst he
    have B2 := b1.trans (b2.mono b1.size)
    go_wp2_with fail
    go_ret2
    exact ⟨rfl, B2⟩
  have HB := Lib.hid hb
  obtain ⟨wa, _, _⟩ := oIn_w ha
  obtain ⟨wb, _, _⟩ := oIn_w hb
  have hx : bits .xor .i64 a b = xorI a b := xor_i64 _ _ wa.1 (by have := wa.2; omega) wb.1 (by have := wb.2; omega)
  have HX := Lib.hid hx
  clear hx
  by_cases h8 : wt (xorI a b) = 8
  · rw [show oPair a b = (xorI a b, true) by simp [oPair, ha, hb, h8]]
    have H8 := Lib.hid h8
    clear ha hb h8
    go_enter Tryd.func19, Tryd.ntmps19
    go_wp2_with fail
    refine (sOctadIn_calls a _).mono ?_
    rintro e w1 ⟨he, b1⟩
    rw [HA.out] at he
    subst he
    go_wp2_with fail
    refine (sOctadIn_calls b _).mono ?_
    rintro e w2 ⟨he, b2⟩
    rw [HB.out] at he
    subst he
    have B2 := b1.trans (b2.mono b1.size)
    go_wp2_with fail
    rw [HX.out]
    refine (l1Weight_calls _ _).mono ?_
    rintro e w' ⟨he, rfl⟩
    rw [H8.out] at he
    subst he
    go_wp2_with fail
    go_ret2
    exact ⟨by rw [HX.out]; rfl, B2⟩
  · rw [show oPair a b = (0, false) by simp [oPair, h8]]
    have h81 : (wt (xorI a b) == 8) = false := by simpa using h8
    have h82 : (wt (xorI a b) != 8) = true := by simp [h8]
    clear ha hb
    go_enter Tryd.func19, Tryd.ntmps19
    go_wp2_with fail
    refine (sOctadIn_calls a _).mono ?_
    rintro e w1 ⟨he, b1⟩
    rw [HA.out] at he
    subst he
    go_wp2_with fail
    refine (sOctadIn_calls b _).mono ?_
    rintro e w2 ⟨he, b2⟩
    rw [HB.out] at he
    subst he
    have B2 := b1.trans (b2.mono b1.size)
    go_wp2_with fail
    rw [HX.out]
    refine (l1Weight_calls _ _).mono ?_
    rintro e w' ⟨rfl, rfl⟩
    generalize wt (xorI a b) = q at *
    go_wp2_with fail
    go_ret2
    exact ⟨rfl, B2⟩
end Go.Proofs.YtiinekoepoonfaaDoor
