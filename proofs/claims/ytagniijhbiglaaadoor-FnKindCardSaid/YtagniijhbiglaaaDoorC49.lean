/- Sextets of the program: of a tetrad, of a sum; which lists are sextets. -/
import Derived.Test.YtagniijhbiglaaaDoorC48
namespace Go.Proofs.YtagniijhbiglaaaDoor
open Go.RowKit Go.Shelf
set_option linter.unusedVariables false
attribute [local irreducible] octS cN octF syn

theorem tetB_no {n : Int} (h : tetB n = false) : (n < 0 ∨ 16777215 < n) ∨ (IsW n ∧ wt n ≠ 4) := by
  unfold tetB at h
  rcases hw : wordB n with _ | _
  · exact .inl ((wordB_no n).1 hw)
  · rw [hw] at h
    exact .inr ⟨(wordB_iff n).1 hw, by simpa using h⟩
theorem tetradFrom_yes (n : Int) (w : World) (h : Tet n) :
    Calls Tryd.prog 45 #[.int .i64 n] w fun e w' => e = .returned (.tuple #[.int .u32 n, .bool true]) ∧ ∃ k, w' = w.drewN k := by
  have H4 := Lib.hid h.2.2
  go_enter Tryd.func45, Tryd.ntmps45
  go_wp2_with (first
    | (go_at_call 52; refine (wordFrom_ok n _ h.1 h.2.1).mono ?_; rintro e w' ⟨rfl, rfl⟩)
    | (go_at_call 53; refine (word_weight n _ h.1 h.2.1).mono ?_; rintro e w' ⟨he, k, rfl⟩; rw [H4.out] at he; subst he))
  go_ret2
  exact ⟨rfl, k, rfl⟩
theorem tetradFrom_no (n : Int) (w : World) (h : tetB n = false) :
    Calls Tryd.prog 45 #[.int .i64 n] w fun e w' => e = .returned (.tuple #[.int .u32 0, .bool false]) ∧ ∃ k, w' = w.drewN k := by
  rcases tetB_no h with hn | ⟨wn, h4⟩
  · clear h
    go_enter Tryd.func45, Tryd.ntmps45
    go_wp2_with (go_at_call 52; refine (wordFrom_no n _ hn).mono ?_; rintro e w' ⟨rfl, rfl⟩)
    go_ret2
    exact ⟨rfl, 0, rfl⟩
  · have h41 : (wt n == 4) = false := by simpa using h4
    clear h h4
    generalize hq : wt n = q at *
    have HQ := Lib.hid hq
    clear hq
    go_enter Tryd.func45, Tryd.ntmps45
    go_wp2_with (first
      | (go_at_call 52; refine (wordFrom_ok n _ wn.1 wn.2).mono ?_; rintro e w' ⟨rfl, rfl⟩)
      | (go_at_call 53; refine (word_weight n _ wn.1 wn.2).mono ?_; rintro e w' ⟨he, k, rfl⟩; rw [HQ.out] at he; subst he))
    go_ret2
    exact ⟨rfl, k, rfl⟩
theorem sxOf_w {n : Int} (h : Tet n) : ∀ x ∈ sxOf n, IsW x := fun x hx => ⟨(sxOf_same h hx).1.1, (sxOf_same h hx).1.2.1⟩
set_option maxHeartbeats 1000000 in
theorem iSextetOf_calls (a : Int) (w : World) (hT : Tab2 w) :
    Calls Tryd.prog 12 #[.int .i64 a] w (GotL w (sxA a).1 (sxA a).2) := by
  rcases ha : tetB a with _ | _
  · rw [show sxA a = ([], false) by simp [sxA, ha]]
    have H := Lib.hid ha
    clear ha
    go_enter Tryd.func12, Tryd.ntmps12
    go_wp2_with (go_at_call 45; refine (tetradFrom_no _ _ H.out).mono ?_; rintro e w' ⟨rfl, k, rfl⟩)
    go_ret2
    exact ⟨_, rfl, Own.nil_ _ _, below_drewN (Below.refl _ _) k⟩
  · have hT4 := (tetB_iff a).1 ha
    rw [show sxA a = (sxOf a, true) by simp [sxA, ha]]
    obtain ⟨k, hk⟩ : ∃ k, k = 4096 := ⟨_, rfl⟩
    have HS := Lib.hid (fun W hW => callsIn_wide.1 (sextet_in a hT4 k hk W hW))
    have HL := Lib.hid (sxList_calls (sxOf a) (sxOf_len hT4) (sxOf_w hT4))
    have H := Lib.hid hT4
    clear ha hT4 hk
    generalize sxOf a = L at *
    go_enter Tryd.func12, Tryd.ntmps12
    go_wp2_with fail
    refine (tetradFrom_yes _ _ H.out).mono ?_
    rintro e w' ⟨rfl, q, rfl⟩
    have HB0 := Lib.hid (below_drewN (Below.refl w.heap.size w) q)
    go_wp2_with fail
    refine (HS.out _ (hT.below HB0.out hT.lt)).mono ?_
    rintro e w1 ⟨rfl, b1⟩
    have HB1 := Lib.hid (HB0.out.trans (b1.mono HB0.out.size))
    go_wp2_with fail
    refine (HL.out _).mono ?_
    rintro e w2 ⟨v, rfl, o2, b2⟩
    go_wp2_with fail
    go_ret2
    exact ⟨_, rfl, o2.weak HB1.out.size, HB1.out.trans (b2.mono HB1.out.size)⟩
set_option maxHeartbeats 1000000 in
theorem iSextetSum_calls (a b : Int) (w : World) (hT : Tab2 w) :
    Calls Tryd.prog 27 #[.int .i64 a, .int .i64 b] w (GotL w (sumA a b).1 (sumA a b).2) := by
  rcases ha : tetB a with _ | _
  · rw [show sumA a b = ([], false) by simp [sumA, ha]]
    have H := Lib.hid ha
    clear ha
    go_enter Tryd.func27, Tryd.ntmps27
    go_wp2_with (go_at_call 45; refine (tetradFrom_no _ _ H.out).mono ?_; rintro e w' ⟨rfl, k, rfl⟩)
    go_ret2
    exact ⟨_, rfl, Own.nil_ _ _, below_drewN (Below.refl _ _) k⟩
  have ta := (tetB_iff a).1 ha
  rcases hb : tetB b with _ | _
  · rw [show sumA a b = ([], false) by simp [sumA, hb]]
    have H := Lib.hid hb
    clear ha hb
    go_enter Tryd.func27, Tryd.ntmps27
    go_wp2_with fail
    refine (tetradFrom_yes _ _ ta).mono ?_
    rintro e w' ⟨rfl, q, rfl⟩
    go_wp2_with fail
    refine (tetradFrom_no _ _ H.out).mono ?_
    rintro e w' ⟨rfl, q2, rfl⟩
    go_wp2_with fail
    go_ret2
    exact ⟨_, rfl, Own.nil_ _ _, below_drewN (Below.refl _ _) _⟩
  have tb := (tetB_iff b).1 hb
  by_cases h2 : wt (andI a b) = 2
  · have ts := sx_sum ta tb h2
    rw [show sumA a b = (sxOf (xorI a b), true) by simp [sumA, ha, hb, h2]]
    obtain ⟨k, hk⟩ : ∃ k, k = 4096 := ⟨_, rfl⟩
    have HS := Lib.hid (fun W hW => callsIn_wide.1 (sextet_in (xorI a b) ts k hk W hW))
    have HL := Lib.hid (sxList_calls (sxOf (xorI a b)) (sxOf_len ts) (sxOf_w ts))
    have HX := Lib.hid (show IsW (andI a b) from ⟨andI_nonneg _ _, andI_le _ _ tb.2.1⟩)
    have H2 := Lib.hid h2
    clear ha hb h2 hk ts
    generalize hx : xorI a b = x at *
    generalize hm : andI a b = m at *
    have HXE := Lib.hid hx
    have HM := Lib.hid hm
    clear hx hm
    generalize sxOf x = L at *
    go_enter Tryd.func27, Tryd.ntmps27
    go_wp2_with fail
    refine (tetradFrom_yes _ _ ta).mono ?_
    rintro e w' ⟨rfl, q, rfl⟩
    go_wp2_with fail
    refine (tetradFrom_yes _ _ tb).mono ?_
    rintro e w' ⟨rfl, q2, rfl⟩
    go_wp2_with (first
      | (go_at_call 65; refine (word_meet _ _ _ ta.1 ta.2.1 tb.1 tb.2.1).mono ?_; rintro e w' ⟨he, rfl⟩; rw [HM.out] at he; subst he)
      | (go_at_call 53; refine (word_weight m _ HX.out.1 HX.out.2).mono ?_; rintro e w' ⟨he, q3, rfl⟩; rw [H2.out] at he; subst he)
      | (go_at_call 66; refine (word_add _ _ _ ta.1 ta.2.1 tb.1 tb.2.1).mono ?_; rintro e w' ⟨he, rfl⟩; rw [HXE.out] at he; subst he))
    have HB1 := Lib.hid (below_drewN (Below.refl w.heap.size w) (q + q2 + q3))
    refine (HS.out _ (hT.below HB1.out hT.lt)).mono ?_
    rintro e w1 ⟨rfl, b1⟩
    have HB2 := Lib.hid (HB1.out.trans (b1.mono HB1.out.size))
    go_wp2_with fail
    refine (HL.out _).mono ?_
    rintro e w2 ⟨v, rfl, o2, b2⟩
    go_wp2_with fail
    go_ret2
    exact ⟨_, rfl, o2.weak HB2.out.size, HB2.out.trans (b2.mono HB2.out.size)⟩
  · rw [show sumA a b = ([], false) by simp [sumA, h2]]
    have HX := Lib.hid (show IsW (andI a b) from ⟨andI_nonneg _ _, andI_le _ _ tb.2.1⟩)
    have h21 : (wt (andI a b) == 2) = false := by simpa using h2
    clear ha hb h2
    generalize hm : andI a b = m at *
    have HM := Lib.hid hm
    clear hm
    generalize hq : wt m = qq at *
    have HQ := Lib.hid hq
    clear hq
    go_enter Tryd.func27, Tryd.ntmps27
    go_wp2_with fail
    refine (tetradFrom_yes _ _ ta).mono ?_
    rintro e w' ⟨rfl, q, rfl⟩
    go_wp2_with fail
    refine (tetradFrom_yes _ _ tb).mono ?_
    rintro e w' ⟨rfl, q2, rfl⟩
    go_wp2_with (first
      | (go_at_call 65; refine (word_meet _ _ _ ta.1 ta.2.1 tb.1 tb.2.1).mono ?_; rintro e w' ⟨he, rfl⟩; rw [HM.out] at he; subst he)
      | (go_at_call 53; refine (word_weight m _ HX.out.1 HX.out.2).mono ?_; rintro e w' ⟨he, q3, rfl⟩; rw [HQ.out] at he; subst he))
    go_ret2
    exact ⟨_, rfl, Own.nil_ _ _, below_drewN (Below.refl _ _) _⟩
end Go.Proofs.YtagniijhbiglaaaDoor
