/- The walk of promise 35. -/
import Derived.Test.YtiinekoepoonfaaDoorC43
import Derived.Test.YtiinekoepoonfaaDoorM22
import Derived.Test.YtiinekoepoonfaaDoorM8
namespace Go.Proofs.YtiinekoepoonfaaDoor
open Go.RowKit
set_option linter.unusedVariables false
attribute [local irreducible] octS cN octF

def pairB (a b : Int) : Bool := oIn a && oIn b && decide (wt (xorI a b) = 8)
theorem oPair_no {a b : Int} (h : pairB a b = false) : oPair a b = (0, false) := by
  unfold pairB at h
  unfold oPair
  rw [h]; rfl
theorem oPair_of {a b : Int} (h : pairB a b = true) : oPair a b = (xorI a b, true) := by
  unfold pairB at h
  unfold oPair
  rw [h]; rfl
theorem xorI_swap {a b : Int} (ha : 0 ≤ a) (hb : 0 ≤ b) : xorI (xorI a b) a = b := by
  obtain ⟨A, rfl⟩ := Int.eq_ofNat_of_zero_le ha
  obtain ⟨B, rfl⟩ := Int.eq_ofNat_of_zero_le hb
  rw [xorI_nat, xorI_nat, Nat.xor_comm A B, Nat.xor_assoc, Nat.xor_self, Nat.xor_zero]
theorem oPair_yes {a b : Int} (h : pairB a b = true) : ∃ s x y : Int, oPair a b = (s, true) ∧ IsW s ∧ IsW a ∧ IsW b ∧ oIn s = true ∧ andI s a = x ∧ andI a b = y ∧ IsW x ∧ IsW y ∧ wt x = 4 ∧ wt y = 4 ∧ oPair s a = (b, true) := by
  have hp := oPair_of h
  unfold pairB at h
  simp only [Bool.and_eq_true, decide_eq_true_eq] at h
  obtain ⟨⟨ha, hb⟩, h8⟩ := h
  obtain ⟨wa, ca, a8⟩ := oIn_w ha
  obtain ⟨wb, cb, b8⟩ := oIn_w hb
  have ws : IsW (xorI a b) := ⟨xorI_nonneg _ _, xorI_le _ _ wa.2 wb.2⟩
  have cs := code_sum a b wa.1 wa.2 wb.1 wb.2 ca cb
  have hs : oIn (xorI a b) = true := by
    rw [oIn_of ws, h8, cs]
    rfl
  have hsw := xorI_swap wa.1 wb.1
  have e1 := wt_xor_i ws.1 wa.1
  rw [hsw, b8, h8, a8] at e1
  have e2 := wt_xor_i wa.1 wb.1
  rw [h8, a8, b8] at e2
  refine ⟨xorI a b, _, _, hp, ws, wa, wb, hs, rfl, rfl, ⟨andI_nonneg _ _, andI_le _ _ wa.2⟩, ⟨andI_nonneg _ _, andI_le _ _ wb.2⟩, by omega, by omega, ?_⟩
  have h2 : pairB (xorI a b) a = true := by
    unfold pairB
    rw [hs, ha, hsw, b8]
    rfl
  rw [oPair_of h2, hsw]
set_option maxRecDepth 100000 in
set_option maxHeartbeats 1000000 in
theorem walk_FnOctadPair (a0 : Option Addr) (len0 cap0 : Nat) (z0 : List Int) (w : World) (w0 : IsRow .u8 w a0 len0 cap0 z0) (hT : Tab3 w) :
    Calls Tryd.prog 5 #[.slice a0 len0 cap0] w fun e w' => e = .returned (.bool true) ∧ Below w.heap.size w w' := by
  obtain ⟨bs, rfl, hr, hc, hm, hv⟩ := w0.bytes
  have hm' := hm
  unfold maxLen at hm'
  by_cases hbig : 1048576 < bs.length
  · go_enter Tryd.func5, Tryd.ntmps5
    go_wp2_with fail
    go_ret
    exact ⟨rfl, Below.refl _ _⟩
  have hbig' : bs.length ≤ 1048576 := by omega
  clear hbig
  go_enter Tryd.func5, Tryd.ntmps5
  go_wp2_with fail
  refine (DrawOctadPair_calls _ _ bs _ hr hc hm hv).mono ?_
  rintro e w1 ⟨a, b, rfl, b1⟩
  have B0 := Lib.hid (b1)
  rcases hb : pairB a b with _ | _
  · have H := Lib.hid (oPair_no hb)
    clear hb
    go_wp2_with fail
    refine (iOctadPair_calls a b _ (hT.below (B0.out) hT.lt)).mono ?_
    rintro e w1_ ⟨he, b1_⟩
    rw [H.out] at he
    dsimp only at he
    subst he
    have B1 := Lib.hid ((B0.out).trans (b1_.mono (B0.out).size))
    go_wp2_with fail
    refine (sOctadPair_calls a b _).mono ?_
    rintro e w2_ ⟨he, b2_⟩
    rw [H.out] at he
    dsimp only at he
    subst he
    have B2 := Lib.hid ((B1.out).trans (b2_.mono (B1.out).size))
    go_wp2_with fail
    go_ret
    first | exact ⟨rfl, B2.out⟩ | exact ⟨rfl, by have hB := B2.out; simp only [World.drewN_drewN] at hB; exact hB⟩
  · obtain ⟨s, x, y, hO, ws, wa, wb, hs, hx, hy, wx, wy, hx4, hy4, hO2⟩ := oPair_yes hb
    have H := Lib.hid hO
    have H2 := Lib.hid hO2
    have HS := Lib.hid hs
    have HM1 := Lib.hid (fun w => by have := iWordMeet_ok s a w ws wa; rwa [hx] at this)
    have HM2 := Lib.hid (fun w => by have := iWordMeet_ok a b w wa wb; rwa [hy] at this)
    have HX := Lib.hid (fun w => by have := iWordWeight_ok x w wx; rwa [hx4] at this)
    have HY := Lib.hid (fun w => by have := iWordWeight_ok y w wy; rwa [hy4] at this)
    clear hb hO hO2 hs hx hy hx4 hy4
    go_wp2_with fail
    refine (iOctadPair_calls a b _ (hT.below (B0.out) hT.lt)).mono ?_
    rintro e w1_ ⟨he, b1_⟩
    rw [H.out] at he
    dsimp only at he
    subst he
    have B1 := Lib.hid ((B0.out).trans (b1_.mono (B0.out).size))
    go_wp2_with fail
    refine (sOctadPair_calls a b _).mono ?_
    rintro e w2_ ⟨he, b2_⟩
    rw [H.out] at he
    dsimp only at he
    subst he
    have B2 := Lib.hid ((B1.out).trans (b2_.mono (B1.out).size))
    go_wp2_with fail
    refine (HM1.out _).mono ?_
    rintro e w' ⟨rfl, rfl⟩
    go_wp2_with fail
    refine (HM2.out _).mono ?_
    rintro e w' ⟨rfl, rfl⟩
    go_wp2_with fail
    refine (iOctadPair_calls s a _ (hT.below (B2.out) hT.lt)).mono ?_
    rintro e w3_ ⟨he, b3_⟩
    rw [H2.out] at he
    dsimp only at he
    subst he
    have B3 := Lib.hid ((B2.out).trans (b3_.mono (B2.out).size))
    go_wp2_with fail
    refine (iOctadIn_calls s _ (hT.below (B3.out) hT.lt)).mono ?_
    rintro e w4_ ⟨he, b4_⟩
    rw [HS.out] at he
    subst he
    have B4 := Lib.hid ((B3.out).trans (b4_.mono (B3.out).size))
    go_wp2_with fail
    refine (HX.out _).mono ?_
    rintro e w' ⟨he, k5_, rfl⟩
    subst he
    have B5 := Lib.hid (below_drewN (B4.out) k5_)
    go_wp2_with fail
    refine (HY.out _).mono ?_
    rintro e w' ⟨he, k6_, rfl⟩
    subst he
    have B6 := Lib.hid (below_drewN (B5.out) k6_)
    go_wp2_with fail
    go_ret
    first | exact ⟨rfl, B6.out⟩ | exact ⟨rfl, by have hB := B6.out; simp only [World.drewN_drewN] at hB; exact hB⟩
end Go.Proofs.YtiinekoepoonfaaDoor
