/- The walks of promises 20 to 23. -/
import Derived.Test.YtphdemabkhmpoaaDoorC29
import Derived.Test.YtphdemabkhmpoaaDoorW13
import Derived.Test.YtphdemabkhmpoaaDoorM8
namespace Go.Proofs.YtphdemabkhmpoaaDoor
open Go.RowKit
set_option linter.unusedVariables false

theorem hAdd_yes {xs ys : List Int} (h : rowB xs = true) (h2 : rowB ys = true) : hAdd xs ys = (addR xs ys, true) := by simp [hAdd, h, h2]
theorem cScores_yes {n : Int} (h : IsW n) : cScores n = (scoresI n, true) := by simp [cScores, (wordB_iff n).2 h]
theorem xorI_w {a b : Int} (ha : IsW a) (hb : IsW b) : IsW (xorI a b) := ⟨xorI_nonneg _ _, xorI_le _ _ ha.2 hb.2⟩
theorem isW_of {n : Int} (h : wordB n = true) : IsW n := (wordB_iff n).1 h
theorem cIn_w {n : Int} (h : cIn n = true) : IsW n ∧ codeInB n = true := by
  simp only [cIn, Bool.and_eq_true] at h
  exact ⟨isW_of h.1, h.2⟩
theorem cIn_yes {n : Int} (h : IsW n) (h2 : codeInB n = true) : cIn n = true := by simp [cIn, (wordB_iff n).2 h, h2]
theorem cOf_yes {m : Int} (h : IsM m) : cOf m = (codeOf m, true) := by simp [cOf, (msgB_iff m).2 h]
theorem codeOf_w (m : Int) : IsW (codeOf m) := codeOf_range m
theorem cMsg_yes {n : Int} (h : cIn n = true) : cMsg n = (messageOf n, true) := by simp [cMsg, h]
theorem cMsg_of {m : Int} (h : IsM m) : cMsg (codeOf m) = (m, true) := by
  rw [cMsg_yes (cIn_yes (codeOf_w m) (code_in m).1)]
  obtain ⟨M, rfl⟩ := Int.eq_ofNat_of_zero_le h.1
  rw [message_code M (by have := h.2; omega)]
theorem cOf_xor {m n : Int} (h : IsM m) (h2 : IsM n) : IsM (xorI m n) ∧ codeOf (xorI m n) = xorI (codeOf m) (codeOf n) := by
  obtain ⟨M, rfl⟩ := Int.eq_ofNat_of_zero_le h.1
  obtain ⟨K, rfl⟩ := Int.eq_ofNat_of_zero_le h2.1
  have hM : M < 4096 := by have := h.2; omega
  have hK : K < 4096 := by have := h2.2; omega
  have hx := xor_lt12 M K hM hK
  refine ⟨⟨xorI_nonneg _ _, by unfold xorI; simp only [Int.toNat_natCast]; omega⟩, ?_⟩
  rw [← codeOf_xor M K hM hK]
  unfold xorI
  simp only [Int.toNat_natCast]
set_option maxHeartbeats 4000000 in
theorem walk_FnScores (a0 : Option Addr) (len0 cap0 : Nat) (z0 : List Int) (w : World) (w0 : IsRow .u8 w a0 len0 cap0 z0) (hT : TabB w) :
    Calls Tryd.prog 3 #[.slice a0 len0 cap0] w fun e w' => e = .returned (.bool true) ∧ Below w.heap.size w w' := by
  obtain ⟨bs, rfl, hr, hc, hm, hv⟩ := w0.bytes
  have hm' := hm
  unfold maxLen at hm'
  by_cases hbig : 1048576 < bs.length
  · go_enter Tryd.func3, Tryd.ntmps3
    go_wp2_with fail
    go_ret
    exact ⟨rfl, Below.refl _ _⟩
  have hbig' : bs.length ≤ 1048576 := by omega
  clear hbig
  go_enter Tryd.func3, Tryd.ntmps3
  go_wp2_with fail
  refine (DrawCodeScores_calls _ _ bs _ hr hc hm hv).mono ?_
  rintro e w1 ⟨a, rfl, a0, a1, b1⟩
  have B0 := Lib.hid (b1)
  rcases hb : wordB a with _ | _
  · have H := Lib.hid (show cScores a = ([], false) by simp [cScores, hb])
    clear hb
    go_wp2_with fail
    refine (iCodeScores_calls a _ (hT.below (B0.out) hT.lt)).mono ?_
    rintro e w1_ ⟨v1_, he, o1_, b1_⟩
    rw [H.out] at he o1_
    dsimp only at he o1_
    subst he
    obtain ⟨Ax, cx, rfl⟩ := o1_.slice
    have B1 := Lib.hid ((B0.out).trans (b1_.mono (B0.out).size))
    have Ox1 := Lib.hid (o1_.weak (B0.out).size)
    go_wp2_with fail
    refine (sCodeScores_calls a _).mono ?_
    rintro e w2_ ⟨v2_, he, o2_, b2_⟩
    rw [H.out] at he o2_
    dsimp only at he o2_
    subst he
    obtain ⟨Ay, cy, rfl⟩ := o2_.slice
    have B2 := Lib.hid ((B1.out).trans (b2_.mono (B1.out).size))
    have Ox2 := Lib.hid ((Ox1.out).below b2_)
    have Oy2 := Lib.hid (o2_.weak (B1.out).size)
    go_wp2_with fail
    refine (sameInts_calls _ _ _ _ [] [] _ (Ox2.out).rds (Oy2.out).rds (Ox2.out).len_le (Oy2.out).len_le).mono ?_
    rintro e w' ⟨he, k3_, rfl⟩
    rw [eqL_refl] at he
    subst he
    have B3 := Lib.hid (below_drewN (B2.out) k3_)
    have Ox3 := Lib.hid ((Ox2.out).drewN k3_)
    have Oy3 := Lib.hid ((Oy2.out).drewN k3_)
    go_wp2_with fail
    refine (sameInts_calls _ _ _ _ [] [] _ (Ox3.out).rds (Oy3.out).rds (Ox3.out).len_le (Oy3.out).len_le).mono ?_
    rintro e w' ⟨he, k4_, rfl⟩
    rw [eqL_refl] at he
    subst he
    have B4 := Lib.hid (below_drewN (B3.out) k4_)
    have Ox4 := Lib.hid ((Ox3.out).drewN k4_)
    have Oy4 := Lib.hid ((Oy3.out).drewN k4_)
    go_wp2_with fail
    go_ret
    first | exact ⟨rfl, B4.out⟩ | exact ⟨rfl, by have hB := B4.out; simp only [World.drewN_drewN] at hB; exact hB⟩
  · have hw := isW_of hb
    have hM : IsW 16777215 := ⟨by omega, by omega⟩
    have hK : IsW 30583 := ⟨by omega, by omega⟩
    have H := Lib.hid (cScores_yes hw)
    have H2 := Lib.hid ((cScores_yes (xorI_w hw hM)).trans (by rw [scores_other a hw.1] : _ = (scoresI a, true)))
    have H3 := Lib.hid ((cScores_yes (xorI_w hw hK)).trans (by rw [scoresI_xor a _ hw.1 hK.1] : _ = (addR (scoresI a) (scoresI 30583), true)))
    have H4 := Lib.hid (cScores_yes hK)
    have H5 := Lib.hid (hAdd_yes ((rowB_iff _).2 (scoresI_row a)) ((rowB_iff _).2 (scoresI_row 30583)))
    have HA := Lib.hid (fun w => iWordAdd_ok a 16777215 w hw hM)
    have HA2 := Lib.hid (fun w => iWordAdd_ok a 30583 w hw hK)
    clear hb hw hM hK
    generalize xorI a 16777215 = o1 at *
    generalize xorI a 30583 = o2 at *
    generalize scoresI a = xs at *
    generalize scoresI 30583 = zs at *
    generalize addR xs zs = ys at *
    go_wp2_with fail
    refine (iCodeScores_calls a _ (hT.below (B0.out) hT.lt)).mono ?_
    rintro e w1_ ⟨v1_, he, o1_, b1_⟩
    rw [H.out] at he o1_
    dsimp only at he o1_
    subst he
    obtain ⟨Ax, cx, rfl⟩ := o1_.slice
    have B1 := Lib.hid ((B0.out).trans (b1_.mono (B0.out).size))
    have Ox1 := Lib.hid (o1_.weak (B0.out).size)
    go_wp2_with fail
    refine (sCodeScores_calls a _).mono ?_
    rintro e w2_ ⟨v2_, he, o2_, b2_⟩
    rw [H.out] at he o2_
    dsimp only at he o2_
    subst he
    obtain ⟨Ay, cy, rfl⟩ := o2_.slice
    have B2 := Lib.hid ((B1.out).trans (b2_.mono (B1.out).size))
    have Ox2 := Lib.hid ((Ox1.out).below b2_)
    have Oy2 := Lib.hid (o2_.weak (B1.out).size)
    go_wp2_with fail
    refine (sameInts_calls _ _ _ _ xs xs _ (Ox2.out).rds (Oy2.out).rds (Ox2.out).len_le (Oy2.out).len_le).mono ?_
    rintro e w' ⟨he, k3_, rfl⟩
    rw [eqL_refl] at he
    subst he
    have B3 := Lib.hid (below_drewN (B2.out) k3_)
    have Ox3 := Lib.hid ((Ox2.out).drewN k3_)
    have Oy3 := Lib.hid ((Oy2.out).drewN k3_)
    go_wp2_with fail
    refine (HA.out _).mono ?_
    rintro e w' ⟨he, rfl⟩
    subst he
    go_wp2_with fail
    refine (iCodeScores_calls o1 _ (hT.below (B3.out) hT.lt)).mono ?_
    rintro e w5_ ⟨v5_, he, o5_, b5_⟩
    rw [H2.out] at he o5_
    dsimp only at he o5_
    subst he
    obtain ⟨Au, cu, rfl⟩ := o5_.slice
    have B4 := Lib.hid ((B3.out).trans (b5_.mono (B3.out).size))
    have Ox4 := Lib.hid ((Ox3.out).below b5_)
    have Oy4 := Lib.hid ((Oy3.out).below b5_)
    have Ou4 := Lib.hid (o5_.weak (B3.out).size)
    go_wp2_with fail
    refine (HA2.out _).mono ?_
    rintro e w' ⟨he, rfl⟩
    subst he
    go_wp2_with fail
    refine (iCodeScores_calls o2 _ (hT.below (B4.out) hT.lt)).mono ?_
    rintro e w7_ ⟨v7_, he, o7_, b7_⟩
    rw [H3.out] at he o7_
    dsimp only at he o7_
    subst he
    obtain ⟨Av, cv, rfl⟩ := o7_.slice
    have B5 := Lib.hid ((B4.out).trans (b7_.mono (B4.out).size))
    have Ox5 := Lib.hid ((Ox4.out).below b7_)
    have Oy5 := Lib.hid ((Oy4.out).below b7_)
    have Ou5 := Lib.hid ((Ou4.out).below b7_)
    have Ov5 := Lib.hid (o7_.weak (B4.out).size)
    go_wp2_with fail
    refine (iCodeScores_calls 30583 _ (hT.below (B5.out) hT.lt)).mono ?_
    rintro e w8_ ⟨v8_, he, o8_, b8_⟩
    rw [H4.out] at he o8_
    dsimp only at he o8_
    subst he
    obtain ⟨Az, cz, rfl⟩ := o8_.slice
    have B6 := Lib.hid ((B5.out).trans (b8_.mono (B5.out).size))
    have Ox6 := Lib.hid ((Ox5.out).below b8_)
    have Oy6 := Lib.hid ((Oy5.out).below b8_)
    have Ou6 := Lib.hid ((Ou5.out).below b8_)
    have Ov6 := Lib.hid ((Ov5.out).below b8_)
    have Oz6 := Lib.hid (o8_.weak (B5.out).size)
    go_wp2_with fail
    refine (iHexAdd_calls _ _ _ _ xs zs _ (Ox6.out).rds (Ox6.out).len_le (Oz6.out).rds (Oz6.out).len_le).mono ?_
    rintro e w9_ ⟨v9_, he, o9_, b9_⟩
    rw [H5.out] at he o9_
    dsimp only at he o9_
    subst he
    obtain ⟨Ad, cd, rfl⟩ := o9_.slice
    have B7 := Lib.hid ((B6.out).trans (b9_.mono (B6.out).size))
    have Ox7 := Lib.hid ((Ox6.out).below b9_)
    have Oy7 := Lib.hid ((Oy6.out).below b9_)
    have Ou7 := Lib.hid ((Ou6.out).below b9_)
    have Ov7 := Lib.hid ((Ov6.out).below b9_)
    have Oz7 := Lib.hid ((Oz6.out).below b9_)
    have Od7 := Lib.hid (o9_.weak (B6.out).size)
    go_wp2_with fail
    refine (sameInts_calls _ _ _ _ xs xs _ (Ou7.out).rds (Ox7.out).rds (Ou7.out).len_le (Ox7.out).len_le).mono ?_
    rintro e w' ⟨he, k10_, rfl⟩
    rw [eqL_refl] at he
    subst he
    have B8 := Lib.hid (below_drewN (B7.out) k10_)
    have Ox8 := Lib.hid ((Ox7.out).drewN k10_)
    have Oy8 := Lib.hid ((Oy7.out).drewN k10_)
    have Ou8 := Lib.hid ((Ou7.out).drewN k10_)
    have Ov8 := Lib.hid ((Ov7.out).drewN k10_)
    have Oz8 := Lib.hid ((Oz7.out).drewN k10_)
    have Od8 := Lib.hid ((Od7.out).drewN k10_)
    go_wp2_with fail
    refine (sameInts_calls _ _ _ _ ys ys _ (Ov8.out).rds (Od8.out).rds (Ov8.out).len_le (Od8.out).len_le).mono ?_
    rintro e w' ⟨he, k11_, rfl⟩
    rw [eqL_refl] at he
    subst he
    have B9 := Lib.hid (below_drewN (B8.out) k11_)
    have Ox9 := Lib.hid ((Ox8.out).drewN k11_)
    have Oy9 := Lib.hid ((Oy8.out).drewN k11_)
    have Ou9 := Lib.hid ((Ou8.out).drewN k11_)
    have Ov9 := Lib.hid ((Ov8.out).drewN k11_)
    have Oz9 := Lib.hid ((Oz8.out).drewN k11_)
    have Od9 := Lib.hid ((Od8.out).drewN k11_)
    go_wp2_with fail
    go_ret
    first | exact ⟨rfl, B9.out⟩ | exact ⟨rfl, by have hB := B9.out; simp only [World.drewN_drewN] at hB; exact hB⟩
set_option maxHeartbeats 4000000 in
theorem walk_FnCodeIn (a0 : Option Addr) (len0 cap0 : Nat) (z0 : List Int) (w : World) (w0 : IsRow .u8 w a0 len0 cap0 z0) (hT : Tab3 w) :
    Calls Tryd.prog 4 #[.slice a0 len0 cap0] w fun e w' => e = .returned (.bool true) ∧ Below w.heap.size w w' := by
  obtain ⟨bs, rfl, hr, hc, hm, hv⟩ := w0.bytes
  have hm' := hm
  unfold maxLen at hm'
  by_cases hbig : 1048576 < bs.length
  · go_enter Tryd.func4, Tryd.ntmps4
    go_wp2_with fail
    go_ret
    exact ⟨rfl, Below.refl _ _⟩
  have hbig' : bs.length ≤ 1048576 := by omega
  clear hbig
  go_enter Tryd.func4, Tryd.ntmps4
  go_wp2_with fail
  refine (DrawCodeIn_calls _ _ bs _ hr hc hm hv).mono ?_
  rintro e w1 ⟨a, rfl, a0, a1, b1⟩
  have B0 := Lib.hid (b1)
  rcases hb : cIn a with _ | _
  · have H := Lib.hid hb
    clear hb
    go_wp2_with fail
    refine (iCodeIn_calls a _ (hT.below (B0.out) hT.lt)).mono ?_
    rintro e w1_ ⟨he, b1_⟩
    rw [H.out] at he
    subst he
    have B1 := Lib.hid ((B0.out).trans (b1_.mono (B0.out).size))
    go_wp2_with fail
    refine (sCodeIn_calls a _).mono ?_
    rintro e w2_ ⟨he, b2_⟩
    rw [H.out] at he
    subst he
    have B2 := Lib.hid ((B1.out).trans (b2_.mono (B1.out).size))
    go_wp2_with fail
    go_ret
    first | exact ⟨rfl, B2.out⟩ | exact ⟨rfl, by have hB := B2.out; simp only [World.drewN_drewN] at hB; exact hB⟩
  · obtain ⟨hw, hc⟩ := cIn_w hb
    have hM : IsW 16777215 := ⟨by omega, by omega⟩
    have H := Lib.hid hb
    have H2 := Lib.hid (cIn_yes (xorI_w hw hM) (code_sum a 16777215 hw.1 hw.2 hM.1 hM.2 hc code_all))
    have H3 := Lib.hid (cScores_yes hw)
    have H4 := Lib.hid (show hIn (scoresI a) = true by
      have := hc
      simp only [codeInB, Bool.and_eq_true] at this
      simp [hIn, rowB_scores, this.2])
    have HA := Lib.hid (fun w => iWordAdd_ok a 16777215 w hw hM)
    have HW := Lib.hid (fun w => iWordWeight_ok a w hw)
    have hwt := code_wtI a hw.1 hw.2 hc
    clear hb hw hM hc
    generalize xorI a 16777215 = o1 at *
    generalize scoresI a = xs at *
    rcases hwt with hwt | hwt | hwt | hwt | hwt
    · rw [hwt] at HW
      clear hwt
      go_wp2_with fail
      refine (iCodeIn_calls a _ (hT.below (B0.out) hT.lt)).mono ?_
      rintro e w1_ ⟨he, b1_⟩
      rw [H.out] at he
      subst he
      have B1 := Lib.hid ((B0.out).trans (b1_.mono (B0.out).size))
      go_wp2_with fail
      refine (sCodeIn_calls a _).mono ?_
      rintro e w2_ ⟨he, b2_⟩
      rw [H.out] at he
      subst he
      have B2 := Lib.hid ((B1.out).trans (b2_.mono (B1.out).size))
      go_wp2_with fail
      refine (HW.out _).mono ?_
      rintro e w' ⟨he, k3_, rfl⟩
      subst he
      have B3 := Lib.hid (below_drewN (B2.out) k3_)
      go_wp2_with fail
      refine (HA.out _).mono ?_
      rintro e w' ⟨he, rfl⟩
      subst he
      go_wp2_with fail
      refine (iCodeScores_calls a _ (hT.below (B3.out) hT.lt).1).mono ?_
      rintro e w5_ ⟨v5_, he, o5_, b5_⟩
      rw [H3.out] at he o5_
      dsimp only at he o5_
      subst he
      obtain ⟨Ax, cx, rfl⟩ := o5_.slice
      have B4 := Lib.hid ((B3.out).trans (b5_.mono (B3.out).size))
      have Ox4 := Lib.hid (o5_.weak (B3.out).size)
      go_wp2_with fail
      refine (iCodeIn_calls o1 _ (hT.below (B4.out) hT.lt)).mono ?_
      rintro e w6_ ⟨he, b6_⟩
      rw [H2.out] at he
      subst he
      have B5 := Lib.hid ((B4.out).trans (b6_.mono (B4.out).size))
      have Ox5 := Lib.hid ((Ox4.out).below b6_)
      go_wp2_with fail
      refine (iHexIn_calls _ _ xs _ (Ox5.out).rds (Ox5.out).len_le (hT.below (B5.out) hT.lt).2.1).mono ?_
      rintro e w7_ ⟨he, b7_⟩
      rw [H4.out] at he
      subst he
      have B6 := Lib.hid ((B5.out).trans (b7_.mono (B5.out).size))
      have Ox6 := Lib.hid ((Ox5.out).below b7_)
      go_wp2_with fail
      go_ret
      first | exact ⟨rfl, B6.out⟩ | exact ⟨rfl, by have hB := B6.out; simp only [World.drewN_drewN] at hB; exact hB⟩
    · rw [hwt] at HW
      clear hwt
      go_wp2_with fail
      refine (iCodeIn_calls a _ (hT.below (B0.out) hT.lt)).mono ?_
      rintro e w1_ ⟨he, b1_⟩
      rw [H.out] at he
      subst he
      have B1 := Lib.hid ((B0.out).trans (b1_.mono (B0.out).size))
      go_wp2_with fail
      refine (sCodeIn_calls a _).mono ?_
      rintro e w2_ ⟨he, b2_⟩
      rw [H.out] at he
      subst he
      have B2 := Lib.hid ((B1.out).trans (b2_.mono (B1.out).size))
      go_wp2_with fail
      refine (HW.out _).mono ?_
      rintro e w' ⟨he, k3_, rfl⟩
      subst he
      have B3 := Lib.hid (below_drewN (B2.out) k3_)
      go_wp2_with fail
      refine (HA.out _).mono ?_
      rintro e w' ⟨he, rfl⟩
      subst he
      go_wp2_with fail
      refine (iCodeScores_calls a _ (hT.below (B3.out) hT.lt).1).mono ?_
      rintro e w5_ ⟨v5_, he, o5_, b5_⟩
      rw [H3.out] at he o5_
      dsimp only at he o5_
      subst he
      obtain ⟨Ax, cx, rfl⟩ := o5_.slice
      have B4 := Lib.hid ((B3.out).trans (b5_.mono (B3.out).size))
      have Ox4 := Lib.hid (o5_.weak (B3.out).size)
      go_wp2_with fail
      refine (iCodeIn_calls o1 _ (hT.below (B4.out) hT.lt)).mono ?_
      rintro e w6_ ⟨he, b6_⟩
      rw [H2.out] at he
      subst he
      have B5 := Lib.hid ((B4.out).trans (b6_.mono (B4.out).size))
      have Ox5 := Lib.hid ((Ox4.out).below b6_)
      go_wp2_with fail
      refine (iHexIn_calls _ _ xs _ (Ox5.out).rds (Ox5.out).len_le (hT.below (B5.out) hT.lt).2.1).mono ?_
      rintro e w7_ ⟨he, b7_⟩
      rw [H4.out] at he
      subst he
      have B6 := Lib.hid ((B5.out).trans (b7_.mono (B5.out).size))
      have Ox6 := Lib.hid ((Ox5.out).below b7_)
      go_wp2_with fail
      go_ret
      first | exact ⟨rfl, B6.out⟩ | exact ⟨rfl, by have hB := B6.out; simp only [World.drewN_drewN] at hB; exact hB⟩
    · rw [hwt] at HW
      clear hwt
      go_wp2_with fail
      refine (iCodeIn_calls a _ (hT.below (B0.out) hT.lt)).mono ?_
      rintro e w1_ ⟨he, b1_⟩
      rw [H.out] at he
      subst he
      have B1 := Lib.hid ((B0.out).trans (b1_.mono (B0.out).size))
      go_wp2_with fail
      refine (sCodeIn_calls a _).mono ?_
      rintro e w2_ ⟨he, b2_⟩
      rw [H.out] at he
      subst he
      have B2 := Lib.hid ((B1.out).trans (b2_.mono (B1.out).size))
      go_wp2_with fail
      refine (HW.out _).mono ?_
      rintro e w' ⟨he, k3_, rfl⟩
      subst he
      have B3 := Lib.hid (below_drewN (B2.out) k3_)
      go_wp2_with fail
      refine (HA.out _).mono ?_
      rintro e w' ⟨he, rfl⟩
      subst he
      go_wp2_with fail
      refine (iCodeScores_calls a _ (hT.below (B3.out) hT.lt).1).mono ?_
      rintro e w5_ ⟨v5_, he, o5_, b5_⟩
      rw [H3.out] at he o5_
      dsimp only at he o5_
      subst he
      obtain ⟨Ax, cx, rfl⟩ := o5_.slice
      have B4 := Lib.hid ((B3.out).trans (b5_.mono (B3.out).size))
      have Ox4 := Lib.hid (o5_.weak (B3.out).size)
      go_wp2_with fail
      refine (iCodeIn_calls o1 _ (hT.below (B4.out) hT.lt)).mono ?_
      rintro e w6_ ⟨he, b6_⟩
      rw [H2.out] at he
      subst he
      have B5 := Lib.hid ((B4.out).trans (b6_.mono (B4.out).size))
      have Ox5 := Lib.hid ((Ox4.out).below b6_)
      go_wp2_with fail
      refine (iHexIn_calls _ _ xs _ (Ox5.out).rds (Ox5.out).len_le (hT.below (B5.out) hT.lt).2.1).mono ?_
      rintro e w7_ ⟨he, b7_⟩
      rw [H4.out] at he
      subst he
      have B6 := Lib.hid ((B5.out).trans (b7_.mono (B5.out).size))
      have Ox6 := Lib.hid ((Ox5.out).below b7_)
      go_wp2_with fail
      go_ret
      first | exact ⟨rfl, B6.out⟩ | exact ⟨rfl, by have hB := B6.out; simp only [World.drewN_drewN] at hB; exact hB⟩
    · rw [hwt] at HW
      clear hwt
      go_wp2_with fail
      refine (iCodeIn_calls a _ (hT.below (B0.out) hT.lt)).mono ?_
      rintro e w1_ ⟨he, b1_⟩
      rw [H.out] at he
      subst he
      have B1 := Lib.hid ((B0.out).trans (b1_.mono (B0.out).size))
      go_wp2_with fail
      refine (sCodeIn_calls a _).mono ?_
      rintro e w2_ ⟨he, b2_⟩
      rw [H.out] at he
      subst he
      have B2 := Lib.hid ((B1.out).trans (b2_.mono (B1.out).size))
      go_wp2_with fail
      refine (HW.out _).mono ?_
      rintro e w' ⟨he, k3_, rfl⟩
      subst he
      have B3 := Lib.hid (below_drewN (B2.out) k3_)
      go_wp2_with fail
      refine (HA.out _).mono ?_
      rintro e w' ⟨he, rfl⟩
      subst he
      go_wp2_with fail
      refine (iCodeScores_calls a _ (hT.below (B3.out) hT.lt).1).mono ?_
      rintro e w5_ ⟨v5_, he, o5_, b5_⟩
      rw [H3.out] at he o5_
      dsimp only at he o5_
      subst he
      obtain ⟨Ax, cx, rfl⟩ := o5_.slice
      have B4 := Lib.hid ((B3.out).trans (b5_.mono (B3.out).size))
      have Ox4 := Lib.hid (o5_.weak (B3.out).size)
      go_wp2_with fail
      refine (iCodeIn_calls o1 _ (hT.below (B4.out) hT.lt)).mono ?_
      rintro e w6_ ⟨he, b6_⟩
      rw [H2.out] at he
      subst he
      have B5 := Lib.hid ((B4.out).trans (b6_.mono (B4.out).size))
      have Ox5 := Lib.hid ((Ox4.out).below b6_)
      go_wp2_with fail
      refine (iHexIn_calls _ _ xs _ (Ox5.out).rds (Ox5.out).len_le (hT.below (B5.out) hT.lt).2.1).mono ?_
      rintro e w7_ ⟨he, b7_⟩
      rw [H4.out] at he
      subst he
      have B6 := Lib.hid ((B5.out).trans (b7_.mono (B5.out).size))
      have Ox6 := Lib.hid ((Ox5.out).below b7_)
      go_wp2_with fail
      go_ret
      first | exact ⟨rfl, B6.out⟩ | exact ⟨rfl, by have hB := B6.out; simp only [World.drewN_drewN] at hB; exact hB⟩
    · rw [hwt] at HW
      clear hwt
      go_wp2_with fail
      refine (iCodeIn_calls a _ (hT.below (B0.out) hT.lt)).mono ?_
      rintro e w1_ ⟨he, b1_⟩
      rw [H.out] at he
      subst he
      have B1 := Lib.hid ((B0.out).trans (b1_.mono (B0.out).size))
      go_wp2_with fail
      refine (sCodeIn_calls a _).mono ?_
      rintro e w2_ ⟨he, b2_⟩
      rw [H.out] at he
      subst he
      have B2 := Lib.hid ((B1.out).trans (b2_.mono (B1.out).size))
      go_wp2_with fail
      refine (HW.out _).mono ?_
      rintro e w' ⟨he, k3_, rfl⟩
      subst he
      have B3 := Lib.hid (below_drewN (B2.out) k3_)
      go_wp2_with fail
      refine (HA.out _).mono ?_
      rintro e w' ⟨he, rfl⟩
      subst he
      go_wp2_with fail
      refine (iCodeScores_calls a _ (hT.below (B3.out) hT.lt).1).mono ?_
      rintro e w5_ ⟨v5_, he, o5_, b5_⟩
      rw [H3.out] at he o5_
      dsimp only at he o5_
      subst he
      obtain ⟨Ax, cx, rfl⟩ := o5_.slice
      have B4 := Lib.hid ((B3.out).trans (b5_.mono (B3.out).size))
      have Ox4 := Lib.hid (o5_.weak (B3.out).size)
      go_wp2_with fail
      refine (iCodeIn_calls o1 _ (hT.below (B4.out) hT.lt)).mono ?_
      rintro e w6_ ⟨he, b6_⟩
      rw [H2.out] at he
      subst he
      have B5 := Lib.hid ((B4.out).trans (b6_.mono (B4.out).size))
      have Ox5 := Lib.hid ((Ox4.out).below b6_)
      go_wp2_with fail
      refine (iHexIn_calls _ _ xs _ (Ox5.out).rds (Ox5.out).len_le (hT.below (B5.out) hT.lt).2.1).mono ?_
      rintro e w7_ ⟨he, b7_⟩
      rw [H4.out] at he
      subst he
      have B6 := Lib.hid ((B5.out).trans (b7_.mono (B5.out).size))
      have Ox6 := Lib.hid ((Ox5.out).below b7_)
      go_wp2_with fail
      go_ret
      first | exact ⟨rfl, B6.out⟩ | exact ⟨rfl, by have hB := B6.out; simp only [World.drewN_drewN] at hB; exact hB⟩
set_option maxHeartbeats 4000000 in
theorem walk_FnCodeOf (a0 : Option Addr) (len0 cap0 : Nat) (z0 : List Int) (w : World) (w0 : IsRow .u8 w a0 len0 cap0 z0) (hT : Tab3 w) :
    Calls Tryd.prog 5 #[.slice a0 len0 cap0] w fun e w' => e = .returned (.bool true) ∧ Below w.heap.size w w' := by
  obtain ⟨bs, rfl, hr, hc, hm, hv⟩ := w0.bytes
  have hm' := hm
  unfold maxLen at hm'
  by_cases hbig : 1048576 < bs.length
  · go_enter Tryd.func5, Tryd.ntmps5
    go_wp2_with fail
    go_ret
    exact ⟨rfl, Below.refl _ _⟩
  have hbig' : bs.length ≤ 1048576 := by omega
  clear hbig
  go_enter Tryd.func5, Tryd.ntmps5
  go_wp2_with fail
  refine (DrawCodeOf_calls _ _ bs _ hr hc hm hv).mono ?_
  rintro e w1 ⟨a, rfl, a0, a1, b1⟩
  have B0 := Lib.hid (b1)
  rcases hb : msgB a with _ | _
  · have H := Lib.hid (show cOf a = (0, false) by simp [cOf, hb])
    clear hb
    go_wp2_with fail
    refine (iCodeOf_calls a _ (hT.below (B0.out) hT.lt).2).mono ?_
    rintro e w1_ ⟨he, b1_⟩
    rw [H.out] at he
    dsimp only at he
    subst he
    have B1 := Lib.hid ((B0.out).trans (b1_.mono (B0.out).size))
    go_wp2_with fail
    refine (sCodeOf_calls a _).mono ?_
    rintro e w2_ ⟨he, b2_⟩
    rw [H.out] at he
    dsimp only at he
    subst he
    have B2 := Lib.hid ((B1.out).trans (b2_.mono (B1.out).size))
    go_wp2_with fail
    go_ret
    first | exact ⟨rfl, B2.out⟩ | exact ⟨rfl, by have hB := B2.out; simp only [World.drewN_drewN] at hB; exact hB⟩
  · have hm : IsM a := (msgB_iff a).1 hb
    have hK : IsM 1365 := ⟨by omega, by omega⟩
    obtain ⟨hx1, hx2⟩ := cOf_xor hm hK
    have H := Lib.hid (cOf_yes hm)
    have H2 := Lib.hid (cMsg_of hm)
    have H3 := Lib.hid (cOf_yes hK)
    have H4 := Lib.hid ((cOf_yes hx1).trans (by rw [hx2] : _ = (xorI (codeOf a) (codeOf 1365), true)))
    have H5 := Lib.hid (cIn_yes (codeOf_w a) (code_in a).1)
    have HA := Lib.hid (fun w => iWordAdd_ok (codeOf a) (codeOf 1365) w (codeOf_w a) (codeOf_w 1365))
    have hxx : bits .xor .i64 a 1365 = xorI a 1365 := xor_i64 _ _ hm.1 (by have := hm.2; omega) (by omega) (by omega)
    clear hb hm hK hx1 hx2
    generalize xorI a 1365 = o1 at *
    generalize codeOf a = y at *
    generalize codeOf 1365 = z at *
    generalize xorI y z = s at *
    go_wp2_with fail
    refine (iCodeOf_calls a _ (hT.below (B0.out) hT.lt).2).mono ?_
    rintro e w1_ ⟨he, b1_⟩
    rw [H.out] at he
    dsimp only at he
    subst he
    have B1 := Lib.hid ((B0.out).trans (b1_.mono (B0.out).size))
    go_wp2_with fail
    refine (sCodeOf_calls a _).mono ?_
    rintro e w2_ ⟨he, b2_⟩
    rw [H.out] at he
    dsimp only at he
    subst he
    have B2 := Lib.hid ((B1.out).trans (b2_.mono (B1.out).size))
    go_wp2_with fail
    refine (iCodeMessage_calls y _ (hT.below (B2.out) hT.lt)).mono ?_
    rintro e w3_ ⟨he, b3_⟩
    rw [H2.out] at he
    dsimp only at he
    subst he
    have B3 := Lib.hid ((B2.out).trans (b3_.mono (B2.out).size))
    go_wp2_with fail
    refine (iCodeOf_calls 1365 _ (hT.below (B3.out) hT.lt).2).mono ?_
    rintro e w4_ ⟨he, b4_⟩
    rw [H3.out] at he
    dsimp only at he
    subst he
    have B4 := Lib.hid ((B3.out).trans (b4_.mono (B3.out).size))
    go_wp2_with fail
    refine (HA.out _).mono ?_
    rintro e w' ⟨he, rfl⟩
    subst he
    go_wp2_with fail
    refine (iCodeOf_calls o1 _ (hT.below (B4.out) hT.lt).2).mono ?_
    rintro e w6_ ⟨he, b6_⟩
    rw [H4.out] at he
    dsimp only at he
    subst he
    have B5 := Lib.hid ((B4.out).trans (b6_.mono (B4.out).size))
    go_wp2_with fail
    refine (iCodeIn_calls y _ (hT.below (B5.out) hT.lt)).mono ?_
    rintro e w7_ ⟨he, b7_⟩
    rw [H5.out] at he
    subst he
    have B6 := Lib.hid ((B5.out).trans (b7_.mono (B5.out).size))
    go_wp2_with fail
    go_ret
    first | exact ⟨rfl, B6.out⟩ | exact ⟨rfl, by have hB := B6.out; simp only [World.drewN_drewN] at hB; exact hB⟩
set_option maxHeartbeats 4000000 in
theorem walk_FnMessage (a0 : Option Addr) (len0 cap0 : Nat) (z0 : List Int) (w : World) (w0 : IsRow .u8 w a0 len0 cap0 z0) (hT : Tab3 w) :
    Calls Tryd.prog 6 #[.slice a0 len0 cap0] w fun e w' => e = .returned (.bool true) ∧ Below w.heap.size w w' := by
  obtain ⟨bs, rfl, hr, hc, hm, hv⟩ := w0.bytes
  have hm' := hm
  unfold maxLen at hm'
  by_cases hbig : 1048576 < bs.length
  · go_enter Tryd.func6, Tryd.ntmps6
    go_wp2_with fail
    go_ret
    exact ⟨rfl, Below.refl _ _⟩
  have hbig' : bs.length ≤ 1048576 := by omega
  clear hbig
  go_enter Tryd.func6, Tryd.ntmps6
  go_wp2_with fail
  refine (DrawCodeMessage_calls _ _ bs _ hr hc hm hv).mono ?_
  rintro e w1 ⟨a, rfl, a0, a1, b1⟩
  have B0 := Lib.hid (b1)
  rcases hb : cIn a with _ | _
  · have H := Lib.hid (show cMsg a = (0, false) by simp [cMsg, hb])
    clear hb
    go_wp2_with fail
    refine (iCodeMessage_calls a _ (hT.below (B0.out) hT.lt)).mono ?_
    rintro e w1_ ⟨he, b1_⟩
    rw [H.out] at he
    dsimp only at he
    subst he
    have B1 := Lib.hid ((B0.out).trans (b1_.mono (B0.out).size))
    go_wp2_with fail
    refine (sCodeMessage_calls a _).mono ?_
    rintro e w2_ ⟨he, b2_⟩
    rw [H.out] at he
    dsimp only at he
    subst he
    have B2 := Lib.hid ((B1.out).trans (b2_.mono (B1.out).size))
    go_wp2_with fail
    go_ret
    first | exact ⟨rfl, B2.out⟩ | exact ⟨rfl, by have hB := B2.out; simp only [World.drewN_drewN] at hB; exact hB⟩
  · obtain ⟨hw, hc⟩ := cIn_w hb
    obtain ⟨hm0, hm1, hm2⟩ := message_ok a hw.1 hw.2 hc
    have hm3 : messageOf a < 4096 := by omega
    have H := Lib.hid (cMsg_yes hb)
    have H2 := Lib.hid ((cOf_yes ⟨hm0, hm1⟩).trans (by rw [hm2] : _ = (a, true)))
    clear hb hw hc hm2
    generalize messageOf a = y at *
    go_wp2_with fail
    refine (iCodeMessage_calls a _ (hT.below (B0.out) hT.lt)).mono ?_
    rintro e w1_ ⟨he, b1_⟩
    rw [H.out] at he
    dsimp only at he
    subst he
    have B1 := Lib.hid ((B0.out).trans (b1_.mono (B0.out).size))
    go_wp2_with fail
    refine (sCodeMessage_calls a _).mono ?_
    rintro e w2_ ⟨he, b2_⟩
    rw [H.out] at he
    dsimp only at he
    subst he
    have B2 := Lib.hid ((B1.out).trans (b2_.mono (B1.out).size))
    go_wp2_with fail
    refine (iCodeOf_calls y _ (hT.below (B2.out) hT.lt).2).mono ?_
    rintro e w3_ ⟨he, b3_⟩
    rw [H2.out] at he
    dsimp only at he
    subst he
    have B3 := Lib.hid ((B2.out).trans (b3_.mono (B2.out).size))
    go_wp2_with fail
    go_ret
    first | exact ⟨rfl, B3.out⟩ | exact ⟨rfl, by have hB := B3.out; simp only [World.drewN_drewN] at hB; exact hB⟩
end Go.Proofs.YtphdemabkhmpoaaDoor
