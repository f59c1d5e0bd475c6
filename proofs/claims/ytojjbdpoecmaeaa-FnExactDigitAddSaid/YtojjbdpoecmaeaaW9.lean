/- The walks of promises 11 and 17, and of the exact law of the sum of digits. -/
import Derived.Test.YtojjbdpoecmaeaaC18
import Derived.Test.YtojjbdpoecmaeaaW8
namespace Go.Proofs.Ytojjbdpoecmaeaa
open Go.RowKit
set_option linter.unusedVariables false

def dAdd (a b : Int) : Int := if (0 ≤ a ∧ a ≤ 3) ∧ 0 ≤ b ∧ b ≤ 3 then xorI a b else -1
theorem dAdd_ok {a b : Int} (ha : IsD a) (hb : IsD b) : dAdd a b = xorI a b := by unfold IsD at ha hb; simp [dAdd, ha, hb]
theorem dAdd_no {a b : Int} (h : NoD a ∨ NoD b) : dAdd a b = -1 := by unfold NoD at h; unfold dAdd; rw [if_neg (by omega)]
theorem noD_or {a b : Int} : (NoD a ∨ NoD b) ∨ (IsD a ∧ IsD b) := by unfold NoD IsD; omega
theorem iDigitAdd_b (a b : Int) (w : World) : Calls Try.prog 9 #[.int .i64 a, .int .i64 b] w fun e w' => e = .returned (.int .i64 (dAdd a b)) ∧ Below w.heap.size w w' := by
  rcases noD_or (a := a) (b := b) with h | ⟨ha, hb⟩
  · rw [dAdd_no h]; exact (iDigitAdd_no a b w h).mono fun e w' h => ⟨h.1, h.2 ▸ Below.refl _ _⟩
  · rw [dAdd_ok ha hb]; exact (iDigitAdd_ok a b w ha hb).mono fun e w' h => ⟨h.1, h.2 ▸ Below.refl _ _⟩
theorem sDigitAdd_b (a b : Int) (w : World) : Calls Try.prog 10 #[.int .i64 a, .int .i64 b] w fun e w' => e = .returned (.int .i64 (dAdd a b)) ∧ Below w.heap.size w w' := by
  rcases noD_or (a := a) (b := b) with h | ⟨ha, hb⟩
  · rw [dAdd_no h]; exact (sDigitAdd_no a b w h).mono fun e w' h => ⟨h.1, h.2 ▸ Below.refl _ _⟩
  · rw [dAdd_ok ha hb]; exact (sDigitAdd_ok a b w ha hb).mono fun e w' h => ⟨h.1, h.2 ▸ Below.refl _ _⟩
set_option maxHeartbeats 2000000 in
theorem walk_FnExactDigitAdd (a0 : Int) (a1 : Int) (w : World) (w0 : (Lit.int .i64 a0).wf = true) (w1 : (Lit.int .i64 a1).wf = true) :
    Calls Try.prog 5 #[.int .i64 a0, .int .i64 a1] w fun e w' => e = .returned (.bool true) ∧ Below w.heap.size w w' := by
  generalize hf : dAdd a0 a1 = y
  have HF := Lib.hid hf
  clear hf
  all_goals
    go_enter Try.func5, Try.ntmps5
    go_wp2_with fail
    refine (sDigitAdd_b a0 a1 _).mono ?_
    rintro e wS ⟨he, bS⟩
    rw [HF.out] at he
    
    subst he
    have B0 := Lib.hid ((Below.refl w.heap.size w).trans (bS.mono (Below.refl w.heap.size w).size))
    have sbS := bS.size
    go_wp2_with fail
    refine (iDigitAdd_b a0 a1 _).mono ?_
    rintro e wG ⟨he, bG⟩
    rw [HF.out] at he
    
    subst he
    have B1 := Lib.hid ((B0.out).trans (bG.mono (B0.out).size))
    have sbG := bG.size
    go_wp2_with fail
    go_ret
    exact ⟨rfl, B1.out⟩
set_option maxHeartbeats 1000000 in
theorem walk_FnDigitAdd (a0 : Option Addr) (len0 cap0 : Nat) (z0 : List Int) (w : World) (w0 : IsRow .u8 w a0 len0 cap0 z0) :
    Calls Try.prog 3 #[.slice a0 len0 cap0] w fun e w' => e = .returned (.bool true) ∧ Below w.heap.size w w' := by
  obtain ⟨bs, rfl, hr, hc, hm, hv⟩ := w0.bytes
  have hm' := hm
  unfold maxLen at hm'
  by_cases hbig : 1048576 < bs.length
  · go_enter Try.func3, Try.ntmps3
    go_wp2_with fail
    go_ret
    exact ⟨rfl, Below.refl _ _⟩
  · have hbig' : bs.length ≤ 1048576 := by omega
    clear hbig
    go_enter Try.func3, Try.ntmps3
    go_wp2_with fail
    refine (DrawDigitAdd_calls _ _ bs _ hr hc hm hv).mono ?_
    rintro e w1 ⟨a, b, rfl, b1⟩
    rcases noD_or (a := a) (b := b) with h | ⟨ha, hb⟩
    · go_wp2_with fail
      refine (iDigitAdd_no _ _ _ h).mono ?_
      rintro e w' ⟨rfl, rfl⟩
      go_wp2_with fail
      refine (sDigitAdd_no _ _ _ h).mono ?_
      rintro e w' ⟨rfl, rfl⟩
      go_wp2_with fail
      go_ret
      exact ⟨rfl, b1⟩
    · have hx := xorI_d ha hb
      have H1 := Lib.hid (xorI_comm b a)
      have H2 := Lib.hid (xorI_back a b ha.1)
      obtain ⟨x0, x1⟩ := hx
      go_wp2_with fail
      refine (iDigitAdd_ok _ _ _ ha hb).mono ?_
      rintro e w' ⟨rfl, rfl⟩
      go_wp2_with fail
      refine (sDigitAdd_ok _ _ _ ha hb).mono ?_
      rintro e w' ⟨rfl, rfl⟩
      go_wp2_with fail
      refine (iDigitAdd_ok _ _ _ hb ha).mono ?_
      rintro e w' ⟨rfl, rfl⟩
      rw [H1.out]
      go_wp2_with fail
      refine (iDigitAdd_ok _ _ _ ⟨x0, x1⟩ hb).mono ?_
      rintro e w' ⟨rfl, rfl⟩
      rw [H2.out]
      go_wp2_with fail
      go_ret
      exact ⟨rfl, b1⟩
set_option maxHeartbeats 1000000 in
theorem walk_FnHexWeight (a0 : Option Addr) (len0 cap0 : Nat) (z0 : List Int) (w : World) (w0 : IsRow .u8 w a0 len0 cap0 z0) :
    Calls Try.prog 4 #[.slice a0 len0 cap0] w fun e w' => e = .returned (.bool true) ∧ Below w.heap.size w w' := by
  obtain ⟨bs, rfl, hr, hc, hm, hv⟩ := w0.bytes
  have hm' := hm
  unfold maxLen at hm'
  by_cases hbig : 1048576 < bs.length
  · go_enter Try.func4, Try.ntmps4
    go_wp2_with fail
    go_ret
    exact ⟨rfl, Below.refl _ _⟩
  · have hbig' : bs.length ≤ 1048576 := by omega
    clear hbig
    go_enter Try.func4, Try.ntmps4
    go_wp2_with fail
    refine (DrawHexWeight_calls _ _ bs _ hr hc hm hv).mono ?_
    rintro e w1 ⟨v, xs, rfl, o1, hl, b1⟩
    obtain ⟨A1, c1, rfl⟩ := o1.slice
    have hx : xs.length ≤ maxLen := by unfold maxLen; omega
    have HX := Lib.hid hx
    clear hx
    go_wp2_with fail
    refine (iHexWeight_calls _ _ xs _ o1.rds HX.out).mono ?_
    rintro e w2 ⟨he, b2⟩
    have HB := Lib.hid (b1.trans (b2.mono b1.size))
    have HR := Lib.hid (o1.below b2).rds
    rcases hb : rowB xs with _ | _
    · rw [show hWeight xs = -1 by simp [hWeight, hb]] at he
      subst he
      go_wp2_with fail
      refine (sHexWeight_calls _ _ xs _ HR.out HX.out).mono ?_
      rintro e w2' ⟨he, rfl⟩
      rw [show hWeight xs = -1 by simp [hWeight, hb]] at he
      subst he
      clear hb
      go_wp2_with fail
      go_ret
      exact ⟨rfl, HB.out⟩
    · have hrow := (rowB_iff xs).1 hb
      have hz := wtR_zero hrow
      have hwr := wtR_range hrow
      rw [show hWeight xs = wtR xs by simp [hWeight, hb]] at he
      subst he
      go_wp2_with fail
      refine (sHexWeight_calls _ _ xs _ HR.out HX.out).mono ?_
      rintro e w2' ⟨he, rfl⟩
      rw [show hWeight xs = wtR xs by simp [hWeight, hb]] at he
      subst he
      clear hb hrow
      have HZ := Lib.hid (show (wtR xs == 0) = eqL xs [0, 0, 0, 0, 0, 0] by rw [Bool.eq_iff_iff]; simp [eqL, hz])
      clear hz
      generalize wtR xs = n at *
      have HR2 := Lib.hid ((HR.out.alloc (Nat.le_refl _) (.cells #[.int .i64 0, .int .i64 0, .int .i64 0, .int .i64 0, .int .i64 0, .int .i64 0] 3)).more (show w2.heap.size ≤ (w2.alloc (.cells #[.int .i64 0, .int .i64 0, .int .i64 0, .int .i64 0, .int .i64 0, .int .i64 0] 3)).heap.size by simp))
      have HR3 := Lib.hid (own_six (B := w2.heap.size) 0 0 0 0 0 0 (Blk.new w2 3 #[.int .i64 0, .int .i64 0, .int .i64 0, .int .i64 0, .int .i64 0, .int .i64 0]) (Nat.le_refl _)).rds
      go_wp2_with fail
      refine (sameInts_calls _ _ _ _ xs [0, 0, 0, 0, 0, 0] _ HR2.out HR3.out HX.out (by simp [maxLen])).mono ?_
      rintro e w3 ⟨rfl, k, rfl⟩
      rw [← HZ.out]
      go_wp2_with fail
      go_ret
      exact ⟨rfl, below_drewN (HB.out.alloc HB.out.size _) _⟩
end Go.Proofs.Ytojjbdpoecmaeaa
