/- The walks of promises 24 and 26. -/
import Derived.Test.YtongfkjlajmgfaaDoorC29
import Derived.Test.YtongfkjlajmgfaaDoorW17
import Derived.Test.YtongfkjlajmgfaaDoorM8
namespace Go.Proofs.YtongfkjlajmgfaaDoor
open Go.RowKit
set_option linter.unusedVariables false

theorem isW_of2 {n : Int} (h : wordB n = true) : IsW n := (wordB_iff n).1 h
theorem codeOf_w2 (m : Int) : IsW (codeOf m) := codeOf_range m
theorem xorI_w2 {a b : Int} (ha : IsW a) (hb : IsW b) : IsW (xorI a b) := ⟨xorI_nonneg _ _, xorI_le _ _ ha.2 hb.2⟩
theorem cFar_yes {n : Int} (h : IsW n) : cFar n = farI n := by simp [cFar, (wordB_iff n).2 h]
theorem cIn_yes2 {n : Int} (h : IsW n) : cIn n = codeInB n := by simp [cIn, (wordB_iff n).2 h]
theorem cNear_yes {n : Int} (h : IsW n) : cNear n = (nearL n, true) := by simp [cNear, (wordB_iff n).2 h]
theorem cMend_yes {n : Int} (h : IsW n) (hd : farI n ≤ 3) : cMend n = ((nearL n).getD 0 0, true) := by simp [cMend, (wordB_iff n).2 h, hd]
theorem cMend_no {n : Int} (h : ¬ (wordB n = true ∧ farI n ≤ 3)) : cMend n = (0, false) := by
  by_cases hb : wordB n = true
  · have : ¬ farI n ≤ 3 := fun h2 => h ⟨hb, h2⟩
    simp [cMend, hb, this]
  · simp [cMend, hb]
/-- A word of the code with a few wrong places is mended. -/
theorem mend_wrong (m : Nat) (hm : m < 4096) (e : Int) (he : IsW e) (hd : wt e ≤ 3) : cMend (xorI (codeOf m) e) = (codeOf m, true) := by
  have hw : IsW (xorI (codeOf m) e) := xorI_w2 (codeOf_w2 m) he
  have h1 : dI m (xorI (codeOf m) e) ≤ 3 := by rw [dI_self_xor m e he.1]; exact hd
  obtain ⟨h2, h3⟩ := mend_eq (xorI (codeOf m) e) hw.1 hw.2 m hm h1
  rw [cMend_yes hw h2, h3]
theorem mend_back {n : Int} (h : IsW n) (hd : farI n ≤ 3) : ∃ m : Nat, m < 4096 ∧ (nearL n).getD 0 0 = codeOf m ∧ wt (xorI (codeOf m) n) = farI n := by
  have hl : 0 < (nearL n).length := by rcases nearL_len n h.1 h.2 with q | q <;> omega
  obtain ⟨m, h1, h2, h3⟩ := nearL_at n 0 hl
  exact ⟨m, h1, h2.symm, h3⟩
set_option maxHeartbeats 4000000 in
theorem walk_FnFar (a0 : Option Addr) (len0 cap0 : Nat) (z0 : List Int) (w : World) (w0 : IsRow .u8 w a0 len0 cap0 z0) (hT : Tab3 w) :
    Calls Tryd.prog 3 #[.slice a0 len0 cap0] w fun e w' => e = .returned (.bool true) ∧ Below w.heap.size w w' := by
  obtain ⟨bs, rfl, hr, hc, hm, hv⟩ := w0.bytes
  have hm' := hm
  unfold maxLen at hm'
  by_cases hbig : 1048576 < bs.length
  · go_enter Tryd.func3, Tryd.ntmps3
    go_wp2_with fail
    go_ret
    exact ⟨rfl, Below.refl _ _⟩
  have hbig' : bs.length ≤ 1048576 := by omega
  clear hbig
  go_enter Tryd.func3, Tryd.ntmps3
  go_wp2_with fail
  refine (DrawCodeFar_calls _ _ bs _ hr hc hm hv).mono ?_
  rintro e w1 ⟨a, rfl, a0, a1, b1⟩
  have B0 := Lib.hid (b1)
  rcases hb : wordB a with _ | _
  · have H := Lib.hid (show cFar a = -1 by simp [cFar, hb])
    clear hb
    go_wp2_with fail
    refine (iCodeFar_calls a _ (hT.below (B0.out) hT.lt).2).mono ?_
    rintro e w1_ ⟨he, b1_⟩
    rw [H.out] at he
    subst he
    have B1 := Lib.hid ((B0.out).trans (b1_.mono (B0.out).size))
    go_wp2_with fail
    refine (sCodeFar_calls a _).mono ?_
    rintro e w2_ ⟨he, b2_⟩
    rw [H.out] at he
    subst he
    have B2 := Lib.hid ((B1.out).trans (b2_.mono (B1.out).size))
    go_wp2_with fail
    go_ret
    first | exact ⟨rfl, B2.out⟩ | exact ⟨rfl, by have hB := B2.out; simp only [World.drewN_drewN] at hB; exact hB⟩
  · have hw := isW_of2 hb
    have hfr := far_range a hw.1 hw.2
    have hfp := far_parity a hw.1
    have hfc := far_code a hw.1 hw.2
    have H := Lib.hid (cFar_yes hw)
    have HW := Lib.hid (fun w => iWordWeight_ok a w hw)
    have hwr := wt_range a
    have hci := cIn_yes2 hw
    generalize farI a = f at *
    generalize wt a = q at *
    clear hb hw
    rcases hcb : codeInB a with _ | _
    · have hfz : (f == 0) = false := by
        rw [hcb] at hfc
        simp at hfc ⊢; exact hfc
      have H2 := Lib.hid (hci.trans hcb)
      clear hcb hci hfc
      have hf0 : (f < 0) = False := by simp; omega
      go_wp2_with fail
      refine (iCodeFar_calls a _ (hT.below (B0.out) hT.lt).2).mono ?_
      rintro e w1_ ⟨he, b1_⟩
      rw [H.out] at he
      subst he
      have B1 := Lib.hid ((B0.out).trans (b1_.mono (B0.out).size))
      go_wp2_with fail
      refine (sCodeFar_calls a _).mono ?_
      rintro e w2_ ⟨he, b2_⟩
      rw [H.out] at he
      subst he
      have B2 := Lib.hid ((B1.out).trans (b2_.mono (B1.out).size))
      go_wp2_with fail
      refine (iCodeIn_calls a _ (hT.below (B2.out) hT.lt)).mono ?_
      rintro e w3_ ⟨he, b3_⟩
      rw [H2.out] at he
      subst he
      have B3 := Lib.hid ((B2.out).trans (b3_.mono (B2.out).size))
      go_wp2_with fail
      refine (HW.out _).mono ?_
      rintro e w' ⟨he, k4_, rfl⟩
      subst he
      have B4 := Lib.hid (below_drewN (B3.out) k4_)
      go_wp2_with fail
      go_ret
      first | exact ⟨rfl, B4.out⟩ | exact ⟨rfl, by have hB := B4.out; simp only [World.drewN_drewN] at hB; exact hB⟩
    · have hfz : (f == 0) = true := by
        rw [hcb] at hfc
        simp at hfc ⊢; exact hfc
      have H2 := Lib.hid (hci.trans hcb)
      clear hcb hci hfc
      have hf0 : (f < 0) = False := by simp; omega
      go_wp2_with fail
      refine (iCodeFar_calls a _ (hT.below (B0.out) hT.lt).2).mono ?_
      rintro e w1_ ⟨he, b1_⟩
      rw [H.out] at he
      subst he
      have B1 := Lib.hid ((B0.out).trans (b1_.mono (B0.out).size))
      go_wp2_with fail
      refine (sCodeFar_calls a _).mono ?_
      rintro e w2_ ⟨he, b2_⟩
      rw [H.out] at he
      subst he
      have B2 := Lib.hid ((B1.out).trans (b2_.mono (B1.out).size))
      go_wp2_with fail
      refine (iCodeIn_calls a _ (hT.below (B2.out) hT.lt)).mono ?_
      rintro e w3_ ⟨he, b3_⟩
      rw [H2.out] at he
      subst he
      have B3 := Lib.hid ((B2.out).trans (b3_.mono (B2.out).size))
      go_wp2_with fail
      refine (HW.out _).mono ?_
      rintro e w' ⟨he, k4_, rfl⟩
      subst he
      have B4 := Lib.hid (below_drewN (B3.out) k4_)
      go_wp2_with fail
      go_ret
      first | exact ⟨rfl, B4.out⟩ | exact ⟨rfl, by have hB := B4.out; simp only [World.drewN_drewN] at hB; exact hB⟩
set_option maxHeartbeats 4000000 in
theorem walk_FnMend (a0 : Option Addr) (len0 cap0 : Nat) (z0 : List Int) (w : World) (w0 : IsRow .u8 w a0 len0 cap0 z0) (hT : Tab3 w) :
    Calls Tryd.prog 5 #[.slice a0 len0 cap0] w fun e w' => e = .returned (.bool true) ∧ Below w.heap.size w w' := by
  obtain ⟨bs, rfl, hr, hc, hm, hv⟩ := w0.bytes
  have hm' := hm
  unfold maxLen at hm'
  by_cases hbig : 1048576 < bs.length
  · go_enter Tryd.func5, Tryd.ntmps5
    go_wp2_with fail
    go_ret
    exact ⟨rfl, Below.refl _ _⟩
  have hbig' : bs.length ≤ 1048576 := by omega
  clear hbig
  go_enter Tryd.func5, Tryd.ntmps5
  go_wp2_with fail
  refine (DrawCodeMend_calls _ _ bs _ hr hc hm hv).mono ?_
  rintro e w1 ⟨a, rfl, a0, a1, b1⟩
  have B0 := Lib.hid (b1)
  by_cases hb : wordB a = true ∧ farI a ≤ 3
  · have hw := isW_of2 hb.1
    obtain ⟨m, hm, hy, hwt⟩ := mend_back hw hb.2
    have hcw := codeOf_w2 (m : Int)
    have hfr := far_range a hw.1 hw.2
    have H := Lib.hid ((cMend_yes hw hb.2).trans (by rw [hy] : _ = (codeOf (m : Int), true)))
    have H1 := Lib.hid (mend_wrong m hm 1 ⟨by omega, by omega⟩ (by decide))
    have H2 := Lib.hid (mend_wrong m hm 128 ⟨by omega, by omega⟩ (by decide))
    have H3 := Lib.hid (mend_wrong m hm 8388608 ⟨by omega, by omega⟩ (by decide))
    have HI := Lib.hid (show cIn (codeOf (m : Int)) = true by rw [cIn_yes2 hcw]; exact (code_in m).1)
    have HA := Lib.hid (fun w => iWordAdd_ok (codeOf (m : Int)) a w hcw hw)
    have HWE := Lib.hid (fun w => by have := iWordWeight_ok (xorI (codeOf (m : Int)) a) w (xorI_w2 hcw hw); rwa [hwt] at this)
    have hx1 : bits .xor .i64 (codeOf (m : Int)) 1 = xorI (codeOf (m : Int)) 1 := xor_i64 _ _ hcw.1 (by have := hcw.2; omega) (by omega) (by omega)
    have hx2 : bits .xor .i64 (codeOf (m : Int)) 128 = xorI (codeOf (m : Int)) 128 := xor_i64 _ _ hcw.1 (by have := hcw.2; omega) (by omega) (by omega)
    have hx3 : bits .xor .i64 (codeOf (m : Int)) 8388608 = xorI (codeOf (m : Int)) 8388608 := xor_i64 _ _ hcw.1 (by have := hcw.2; omega) (by omega) (by omega)
    have hf3 := hb.2
    clear hb hy hwt hw hcw hm
    generalize xorI (codeOf (m : Int)) 1 = o1 at *
    generalize xorI (codeOf (m : Int)) 128 = o2 at *
    generalize xorI (codeOf (m : Int)) 8388608 = o3 at *
    generalize xorI (codeOf (m : Int)) a = o4 at *
    generalize codeOf (m : Int) = y at *
    generalize farI a = f at *
    go_wp2_with fail
    refine (iCodeMend_calls a _ (hT.below (B0.out) hT.lt).2).mono ?_
    rintro e w1_ ⟨he, b1_⟩
    rw [H.out] at he
    dsimp only at he
    subst he
    have B1 := Lib.hid ((B0.out).trans (b1_.mono (B0.out).size))
    go_wp2_with fail
    refine (sCodeMend_calls a _).mono ?_
    rintro e w2_ ⟨he, b2_⟩
    rw [H.out] at he
    dsimp only at he
    subst he
    have B2 := Lib.hid ((B1.out).trans (b2_.mono (B1.out).size))
    go_wp2_with fail
    refine (HA.out _).mono ?_
    rintro e w' ⟨he, rfl⟩
    subst he
    go_wp2_with fail
    refine (iCodeMend_calls o1 _ (hT.below (B2.out) hT.lt).2).mono ?_
    rintro e w4_ ⟨he, b4_⟩
    rw [H1.out] at he
    dsimp only at he
    subst he
    have B3 := Lib.hid ((B2.out).trans (b4_.mono (B2.out).size))
    go_wp2_with fail
    refine (iCodeMend_calls o2 _ (hT.below (B3.out) hT.lt).2).mono ?_
    rintro e w5_ ⟨he, b5_⟩
    rw [H2.out] at he
    dsimp only at he
    subst he
    have B4 := Lib.hid ((B3.out).trans (b5_.mono (B3.out).size))
    go_wp2_with fail
    refine (iCodeMend_calls o3 _ (hT.below (B4.out) hT.lt).2).mono ?_
    rintro e w6_ ⟨he, b6_⟩
    rw [H3.out] at he
    dsimp only at he
    subst he
    have B5 := Lib.hid ((B4.out).trans (b6_.mono (B4.out).size))
    go_wp2_with fail
    refine (iCodeIn_calls y _ (hT.below (B5.out) hT.lt)).mono ?_
    rintro e w7_ ⟨he, b7_⟩
    rw [HI.out] at he
    subst he
    have B6 := Lib.hid ((B5.out).trans (b7_.mono (B5.out).size))
    go_wp2_with fail
    refine (HWE.out _).mono ?_
    rintro e w' ⟨he, k8_, rfl⟩
    subst he
    have B7 := Lib.hid (below_drewN (B6.out) k8_)
    go_wp2_with fail
    go_ret
    first | exact ⟨rfl, B7.out⟩ | exact ⟨rfl, by have hB := B7.out; simp only [World.drewN_drewN] at hB; exact hB⟩
  · have H := Lib.hid (cMend_no hb)
    clear hb
    go_wp2_with fail
    refine (iCodeMend_calls a _ (hT.below (B0.out) hT.lt).2).mono ?_
    rintro e w1_ ⟨he, b1_⟩
    rw [H.out] at he
    dsimp only at he
    subst he
    have B1 := Lib.hid ((B0.out).trans (b1_.mono (B0.out).size))
    go_wp2_with fail
    refine (sCodeMend_calls a _).mono ?_
    rintro e w2_ ⟨he, b2_⟩
    rw [H.out] at he
    dsimp only at he
    subst he
    have B2 := Lib.hid ((B1.out).trans (b2_.mono (B1.out).size))
    go_wp2_with fail
    go_ret
    first | exact ⟨rfl, B2.out⟩ | exact ⟨rfl, by have hB := B2.out; simp only [World.drewN_drewN] at hB; exact hB⟩
end Go.Proofs.YtongfkjlajmgfaaDoor
