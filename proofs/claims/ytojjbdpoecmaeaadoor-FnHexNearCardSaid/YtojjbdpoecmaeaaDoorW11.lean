/- The walks of promises 12 to 16, 18 and 19. -/
import Derived.Test.YtojjbdpoecmaeaaDoorC18
import Derived.Test.YtojjbdpoecmaeaaDoorW9
import Derived.Test.YtojjbdpoecmaeaaDoorC23
namespace Go.Proofs.YtojjbdpoecmaeaaDoor
open Go.RowKit
set_option linter.unusedVariables false

theorem digB_noD {a b : Int} (h : NoD a ∨ NoD b) : dMul a b = -1 := by
  unfold dMul
  rw [if_neg]
  rcases h with h | h
  · simp [(digB_no a).2 h]
  · simp [(digB_no b).2 h]
theorem dMul_ok {a b : Int} (ha : IsD a) (hb : IsD b) : dMul a b = mulD a b := by simp [dMul, (digB_iff _).2 ha, (digB_iff _).2 hb]
theorem InHex.rowB {xs : List Int} (h : InHex xs) : rowB xs = true := (rowB_iff xs).2 h.row
theorem InHex.hIn {xs : List Int} (h : InHex xs) : hIn xs = true := by simp [Go.Proofs.YtojjbdpoecmaeaaDoor.hIn, h.rowB, h.b]
theorem hIn_in {xs : List Int} (h : hIn xs = true) : InHex xs := by
  simp only [Go.Proofs.YtojjbdpoecmaeaaDoor.hIn, Bool.and_eq_true] at h
  exact (hexB_iff ((rowB_iff xs).1 h.1)).1 h.2
theorem hAdd_ok {xs ys : List Int} (h : rowB xs = true) (h2 : rowB ys = true) : hAdd xs ys = (addR xs ys, true) := by simp [hAdd, h, h2]
theorem hAdd_no {xs ys : List Int} (h : ¬ (rowB xs = true ∧ rowB ys = true)) : hAdd xs ys = ([], false) := by unfold hAdd; rw [if_neg (by simpa using h)]
theorem hTimes_ok {xs : List Int} {n : Int} (h : rowB xs = true) (h2 : digB n = true) : hTimes xs n = (mulR xs n, true) := by simp [hTimes, h, h2]
theorem hTimes_no {xs : List Int} {n : Int} (h : ¬ (rowB xs = true ∧ digB n = true)) : hTimes xs n = ([], false) := by unfold hTimes; rw [if_neg (by simpa using h)]
theorem hInner_ok {xs ys : List Int} (h : rowB xs = true) (h2 : rowB ys = true) : hInner xs ys = innR xs ys := by simp [hInner, h, h2]
theorem hInner_no {xs ys : List Int} (h : ¬ (rowB xs = true ∧ rowB ys = true)) : hInner xs ys = -1 := by unfold hInner; rw [if_neg (by simpa using h)]
theorem hWeight_ok {xs : List Int} (h : rowB xs = true) : hWeight xs = wtR xs := by simp [hWeight, h]
theorem hOf_no {a b c : Int} (h : ¬ (IsD a ∧ IsD b ∧ IsD c)) : hOf a b c = ([], false) := by
  unfold hOf; rw [if_neg]
  simp only [Bool.and_eq_true, digB_iff]; exact h
theorem hOf_ok {a b c : Int} (h : IsD a ∧ IsD b ∧ IsD c) : hOf a b c = (hexRow a b c, true) := by simp [hOf, (digB_iff _).2 h.1, (digB_iff _).2 h.2.1, (digB_iff _).2 h.2.2]
theorem own_at2 {w : World} {B : Nat} {A : Option Addr} {n c : Nat} {xs : List Int} (h : Own w B (.slice A n c) xs) (hp : 0 < n) : ∃ g, A = some ⟨g, 0, none⟩ := by
  rcases h.form with ⟨h1, _⟩ | ⟨g, cap, h1, h2, h3, _⟩
  · simp only [Value.slice.injEq] at h1; omega
  · simp only [Value.slice.injEq] at h1
    exact ⟨g, h1.1⟩
set_option maxHeartbeats 4000000 in
theorem walk_FnDigitTimes (a0 : Option Addr) (len0 cap0 : Nat) (z0 : List Int) (w : World) (w0 : IsRow .u8 w a0 len0 cap0 z0) (hT : Tab w) :
    Calls Tryd.prog 3 #[.slice a0 len0 cap0] w fun e w' => e = .returned (.bool true) ∧ Below w.heap.size w w' := by
  obtain ⟨bs, rfl, hr, hc, hm, hv⟩ := w0.bytes
  have hm' := hm
  unfold maxLen at hm'
  by_cases hbig : 1048576 < bs.length
  · go_enter Tryd.func3, Tryd.ntmps3
    go_wp2_with fail
    go_ret
    exact ⟨rfl, Below.refl _ _⟩
  have hbig' : bs.length ≤ 1048576 := by omega
  clear hbig
  go_enter Tryd.func3, Tryd.ntmps3
  go_wp2_with fail
  refine (DrawDigitTimes_calls _ _ bs _ hr hc hm hv).mono ?_
  rintro e w1 ⟨a, b, rfl, b1⟩
  have B0 := Lib.hid (b1)
  rcases noD_or (a := a) (b := b) with h | ⟨ha, hb⟩
  · have H := Lib.hid (digB_noD h)
    clear h
    go_wp2_with fail
    refine (iDigitTimes_calls a b _ (hT.below (B0.out) hT.lt)).mono ?_
    rintro e w1_ ⟨he, b1_⟩
    rw [H.out] at he
    subst he
    have B1 := Lib.hid ((B0.out).trans (b1_.mono (B0.out).size))
    go_wp2_with fail
    refine (sDigitTimes_calls a b _).mono ?_
    rintro e w2_ ⟨he, b2_⟩
    rw [H.out] at he
    subst he
    have B2 := Lib.hid ((B1.out).trans (b2_.mono (B1.out).size))
    go_wp2_with fail
    go_ret
    first | exact ⟨rfl, B2.out⟩ | exact ⟨rfl, by have hB := B2.out; simp only [World.drewN_drewN] at hB; exact hB⟩
  · have hm := mulD_d ha hb
    have HZ := Lib.hid (mulD_zero_iff ha hb)
    have H := Lib.hid (dMul_ok ha hb)
    have H2 := Lib.hid ((dMul_ok hb ha).trans (mulD_comm hb ha))
    have H3 := Lib.hid (dAdd_ok hb (show IsD 1 from ⟨by omega, by omega⟩))
    have H4 := Lib.hid ((dMul_ok ha (xorI_d hb (show IsD 1 from ⟨by omega, by omega⟩))).trans (mulD_next ha hb))
    have H5 := Lib.hid (dAdd_ok hm ha)
    generalize mulD a b = m at *
    obtain ⟨m0, m1⟩ := hm
    rcases (show (((a == 0) = true) ∧ ((m == 0) = true)) ∨ (((a == 0) = false) ∧ ((b == 0) = true) ∧ ((m == 0) = true)) ∨ (((a == 0) = false) ∧ ((b == 0) = false) ∧ ((m == 0) = false)) by
      have := HZ.out
      by_cases h1 : a = 0 <;> by_cases h2 : b = 0 <;> simp_all) with ⟨z1, z3⟩ | ⟨z1, z2, z3⟩ | ⟨z1, z2, z3⟩
    · go_wp2_with fail
      refine (iDigitTimes_calls a b _ (hT.below (B0.out) hT.lt)).mono ?_
      rintro e w1_ ⟨he, b1_⟩
      rw [H.out] at he
      subst he
      have B1 := Lib.hid ((B0.out).trans (b1_.mono (B0.out).size))
      go_wp2_with fail
      refine (sDigitTimes_calls a b _).mono ?_
      rintro e w2_ ⟨he, b2_⟩
      rw [H.out] at he
      subst he
      have B2 := Lib.hid ((B1.out).trans (b2_.mono (B1.out).size))
      go_wp2_with fail
      refine (iDigitTimes_calls b a _ (hT.below (B2.out) hT.lt)).mono ?_
      rintro e w3_ ⟨he, b3_⟩
      rw [H2.out] at he
      subst he
      have B3 := Lib.hid ((B2.out).trans (b3_.mono (B2.out).size))
      go_wp2_with fail
      refine (iDigitAdd_b b 1 _).mono ?_
      rintro e w4_ ⟨he, b4_⟩
      rw [H3.out] at he
      subst he
      have B4 := Lib.hid ((B3.out).trans (b4_.mono (B3.out).size))
      go_wp2_with fail
      refine (iDigitTimes_calls a _ _ (hT.below (B4.out) hT.lt)).mono ?_
      rintro e w5_ ⟨he, b5_⟩
      rw [H4.out] at he
      subst he
      have B5 := Lib.hid ((B4.out).trans (b5_.mono (B4.out).size))
      go_wp2_with fail
      refine (iDigitAdd_b m a _).mono ?_
      rintro e w6_ ⟨he, b6_⟩
      rw [H5.out] at he
      subst he
      have B6 := Lib.hid ((B5.out).trans (b6_.mono (B5.out).size))
      go_wp2_with fail
      go_ret
      first | exact ⟨rfl, B6.out⟩ | exact ⟨rfl, by have hB := B6.out; simp only [World.drewN_drewN] at hB; exact hB⟩
    · go_wp2_with fail
      refine (iDigitTimes_calls a b _ (hT.below (B0.out) hT.lt)).mono ?_
      rintro e w1_ ⟨he, b1_⟩
      rw [H.out] at he
      subst he
      have B1 := Lib.hid ((B0.out).trans (b1_.mono (B0.out).size))
      go_wp2_with fail
      refine (sDigitTimes_calls a b _).mono ?_
      rintro e w2_ ⟨he, b2_⟩
      rw [H.out] at he
      subst he
      have B2 := Lib.hid ((B1.out).trans (b2_.mono (B1.out).size))
      go_wp2_with fail
      refine (iDigitTimes_calls b a _ (hT.below (B2.out) hT.lt)).mono ?_
      rintro e w3_ ⟨he, b3_⟩
      rw [H2.out] at he
      subst he
      have B3 := Lib.hid ((B2.out).trans (b3_.mono (B2.out).size))
      go_wp2_with fail
      refine (iDigitAdd_b b 1 _).mono ?_
      rintro e w4_ ⟨he, b4_⟩
      rw [H3.out] at he
      subst he
      have B4 := Lib.hid ((B3.out).trans (b4_.mono (B3.out).size))
      go_wp2_with fail
      refine (iDigitTimes_calls a _ _ (hT.below (B4.out) hT.lt)).mono ?_
      rintro e w5_ ⟨he, b5_⟩
      rw [H4.out] at he
      subst he
      have B5 := Lib.hid ((B4.out).trans (b5_.mono (B4.out).size))
      go_wp2_with fail
      refine (iDigitAdd_b m a _).mono ?_
      rintro e w6_ ⟨he, b6_⟩
      rw [H5.out] at he
      subst he
      have B6 := Lib.hid ((B5.out).trans (b6_.mono (B5.out).size))
      go_wp2_with fail
      go_ret
      first | exact ⟨rfl, B6.out⟩ | exact ⟨rfl, by have hB := B6.out; simp only [World.drewN_drewN] at hB; exact hB⟩
    · go_wp2_with fail
      refine (iDigitTimes_calls a b _ (hT.below (B0.out) hT.lt)).mono ?_
      rintro e w1_ ⟨he, b1_⟩
      rw [H.out] at he
      subst he
      have B1 := Lib.hid ((B0.out).trans (b1_.mono (B0.out).size))
      go_wp2_with fail
      refine (sDigitTimes_calls a b _).mono ?_
      rintro e w2_ ⟨he, b2_⟩
      rw [H.out] at he
      subst he
      have B2 := Lib.hid ((B1.out).trans (b2_.mono (B1.out).size))
      go_wp2_with fail
      refine (iDigitTimes_calls b a _ (hT.below (B2.out) hT.lt)).mono ?_
      rintro e w3_ ⟨he, b3_⟩
      rw [H2.out] at he
      subst he
      have B3 := Lib.hid ((B2.out).trans (b3_.mono (B2.out).size))
      go_wp2_with fail
      refine (iDigitAdd_b b 1 _).mono ?_
      rintro e w4_ ⟨he, b4_⟩
      rw [H3.out] at he
      subst he
      have B4 := Lib.hid ((B3.out).trans (b4_.mono (B3.out).size))
      go_wp2_with fail
      refine (iDigitTimes_calls a _ _ (hT.below (B4.out) hT.lt)).mono ?_
      rintro e w5_ ⟨he, b5_⟩
      rw [H4.out] at he
      subst he
      have B5 := Lib.hid ((B4.out).trans (b5_.mono (B4.out).size))
      go_wp2_with fail
      refine (iDigitAdd_b m a _).mono ?_
      rintro e w6_ ⟨he, b6_⟩
      rw [H5.out] at he
      subst he
      have B6 := Lib.hid ((B5.out).trans (b6_.mono (B5.out).size))
      go_wp2_with fail
      go_ret
      first | exact ⟨rfl, B6.out⟩ | exact ⟨rfl, by have hB := B6.out; simp only [World.drewN_drewN] at hB; exact hB⟩
set_option maxHeartbeats 4000000 in
theorem walk_FnHexOf (a0 : Option Addr) (len0 cap0 : Nat) (z0 : List Int) (w : World) (w0 : IsRow .u8 w a0 len0 cap0 z0) (hT : Tab w) :
    Calls Tryd.prog 4 #[.slice a0 len0 cap0] w fun e w' => e = .returned (.bool true) ∧ Below w.heap.size w w' := by
  obtain ⟨bs, rfl, hr, hc, hm, hv⟩ := w0.bytes
  have hm' := hm
  unfold maxLen at hm'
  by_cases hbig : 1048576 < bs.length
  · go_enter Tryd.func4, Tryd.ntmps4
    go_wp2_with fail
    go_ret
    exact ⟨rfl, Below.refl _ _⟩
  have hbig' : bs.length ≤ 1048576 := by omega
  clear hbig
  go_enter Tryd.func4, Tryd.ntmps4
  go_wp2_with fail
  refine (DrawHexOf_calls _ _ bs _ hr hc hm hv).mono ?_
  rintro e w1 ⟨a, b, d, rfl, b1⟩
  have B0 := Lib.hid (b1)
  by_cases h : IsD a ∧ IsD b ∧ IsD d
  · have H := Lib.hid (hOf_ok h)
    have hin : InHex (hexRow a b d) := ⟨a, b, d, h.1, h.2.1, h.2.2, rfl⟩
    have HI := Lib.hid hin.hIn
    have HW := Lib.hid (hWeight_ok hin.rowB)
    have hlen : (hexRow a b d).length = 6 := rfl
    have g0 : (hexRow a b d).getD 0 0 = a := rfl
    have g1 : (hexRow a b d).getD 1 0 = b := rfl
    have g2 : (hexRow a b d).getD 2 0 = d := rfl
    have hwt := hin.wt
    clear h hin
    generalize hexRow a b d = xs at *
    have HG0 := Lib.hid g0
    have HG1 := Lib.hid g1
    have HG2 := Lib.hid g2
    have HL := Lib.hid hlen
    clear g0 g1 g2 hlen
    rcases hwt with hwt | hwt | hwt
    · rw [hwt] at HW
      clear hwt
      go_wp2_with fail
      refine (iHexOf_calls a b d _ (hT.below (B0.out) hT.lt)).mono ?_
      rintro e w1_ ⟨v1_, he, o1_, b1_⟩
      rw [H.out] at he o1_
      dsimp only at he o1_
      subst he
      obtain ⟨Ax, cx, rfl⟩ := o1_.slice
      have B1 := Lib.hid ((B0.out).trans (b1_.mono (B0.out).size))
      have Ox1 := Lib.hid (o1_.weak (B0.out).size)
      go_wp2_with fail
      refine (sHexOf_calls a b d _).mono ?_
      rintro e w2_ ⟨v2_, he, o2_, b2_⟩
      rw [H.out] at he o2_
      dsimp only at he o2_
      subst he
      obtain ⟨Ay, cy, rfl⟩ := o2_.slice
      have B2 := Lib.hid ((B1.out).trans (b2_.mono (B1.out).size))
      have Ox2 := Lib.hid ((Ox1.out).below b2_)
      have Oy2 := Lib.hid (o2_.weak (B1.out).size)
      go_wp2_with fail
      refine (sameInts_calls _ _ _ _ xs xs _ (Ox2.out).rds (Oy2.out).rds (Ox2.out).len_le (Oy2.out).len_le).mono ?_
      rintro e w' ⟨he, k3_, rfl⟩
      rw [eqL_refl] at he
      subst he
      have B3 := Lib.hid (below_drewN (B2.out) k3_)
      have Ox3 := Lib.hid ((Ox2.out).drewN k3_)
      have Oy3 := Lib.hid ((Oy2.out).drewN k3_)
      go_wp2_with fail
      refine (iHexWeight_calls _ _ xs _ (Ox3.out).rds (Ox3.out).len_le).mono ?_
      rintro e w4_ ⟨he, b4_⟩
      rw [HW.out] at he
      subst he
      have B4 := Lib.hid ((B3.out).trans (b4_.mono (B3.out).size))
      have Ox4 := Lib.hid ((Ox3.out).below b4_)
      have Oy4 := Lib.hid ((Oy3.out).below b4_)
      go_wp2_with fail
      refine (iHexIn_calls _ _ xs _ (Ox4.out).rds (Ox4.out).len_le (hT.below (B4.out) hT.lt)).mono ?_
      rintro e w5_ ⟨he, b5_⟩
      rw [HI.out] at he
      subst he
      have B5 := Lib.hid ((B4.out).trans (b5_.mono (B4.out).size))
      have Ox5 := Lib.hid ((Ox4.out).below b5_)
      have Oy5 := Lib.hid ((Oy4.out).below b5_)
      obtain ⟨g, rfl⟩ := own_at2 (Ox5.out) (by rw [HL.out]; omega)
      have c0 := (Ox5.out).cell (j := 0) (by rw [HL.out]; omega)
      have c1 := (Ox5.out).cell (j := 1) (by rw [HL.out]; omega)
      have c2 := (Ox5.out).cell (j := 2) (by rw [HL.out]; omega)
      rw [HG0.out] at c0
      rw [HG1.out] at c1
      rw [HG2.out] at c2
      have q0 : 0 < xs.length := by rw [HL.out]; omega
      have q1 : 1 < xs.length := by rw [HL.out]; omega
      have q2 : 2 < xs.length := by rw [HL.out]; omega
      have p0 : (0 : Int) < xs.length := by omega
      have p1 : (1 : Int) < xs.length := by omega
      have p2 : (2 : Int) < xs.length := by omega
      go_wp2_with fail
      go_ret
      first | exact ⟨rfl, B5.out⟩ | exact ⟨rfl, by have hB := B5.out; simp only [World.drewN_drewN] at hB; exact hB⟩
    · rw [hwt] at HW
      clear hwt
      go_wp2_with fail
      refine (iHexOf_calls a b d _ (hT.below (B0.out) hT.lt)).mono ?_
      rintro e w1_ ⟨v1_, he, o1_, b1_⟩
      rw [H.out] at he o1_
      dsimp only at he o1_
      subst he
      obtain ⟨Ax, cx, rfl⟩ := o1_.slice
      have B1 := Lib.hid ((B0.out).trans (b1_.mono (B0.out).size))
      have Ox1 := Lib.hid (o1_.weak (B0.out).size)
      go_wp2_with fail
      refine (sHexOf_calls a b d _).mono ?_
      rintro e w2_ ⟨v2_, he, o2_, b2_⟩
      rw [H.out] at he o2_
      dsimp only at he o2_
      subst he
      obtain ⟨Ay, cy, rfl⟩ := o2_.slice
      have B2 := Lib.hid ((B1.out).trans (b2_.mono (B1.out).size))
      have Ox2 := Lib.hid ((Ox1.out).below b2_)
      have Oy2 := Lib.hid (o2_.weak (B1.out).size)
      go_wp2_with fail
      refine (sameInts_calls _ _ _ _ xs xs _ (Ox2.out).rds (Oy2.out).rds (Ox2.out).len_le (Oy2.out).len_le).mono ?_
      rintro e w' ⟨he, k3_, rfl⟩
      rw [eqL_refl] at he
      subst he
      have B3 := Lib.hid (below_drewN (B2.out) k3_)
      have Ox3 := Lib.hid ((Ox2.out).drewN k3_)
      have Oy3 := Lib.hid ((Oy2.out).drewN k3_)
      go_wp2_with fail
      refine (iHexWeight_calls _ _ xs _ (Ox3.out).rds (Ox3.out).len_le).mono ?_
      rintro e w4_ ⟨he, b4_⟩
      rw [HW.out] at he
      subst he
      have B4 := Lib.hid ((B3.out).trans (b4_.mono (B3.out).size))
      have Ox4 := Lib.hid ((Ox3.out).below b4_)
      have Oy4 := Lib.hid ((Oy3.out).below b4_)
      go_wp2_with fail
      refine (iHexIn_calls _ _ xs _ (Ox4.out).rds (Ox4.out).len_le (hT.below (B4.out) hT.lt)).mono ?_
      rintro e w5_ ⟨he, b5_⟩
      rw [HI.out] at he
      subst he
      have B5 := Lib.hid ((B4.out).trans (b5_.mono (B4.out).size))
      have Ox5 := Lib.hid ((Ox4.out).below b5_)
      have Oy5 := Lib.hid ((Oy4.out).below b5_)
      obtain ⟨g, rfl⟩ := own_at2 (Ox5.out) (by rw [HL.out]; omega)
      have c0 := (Ox5.out).cell (j := 0) (by rw [HL.out]; omega)
      have c1 := (Ox5.out).cell (j := 1) (by rw [HL.out]; omega)
      have c2 := (Ox5.out).cell (j := 2) (by rw [HL.out]; omega)
      rw [HG0.out] at c0
      rw [HG1.out] at c1
      rw [HG2.out] at c2
      have q0 : 0 < xs.length := by rw [HL.out]; omega
      have q1 : 1 < xs.length := by rw [HL.out]; omega
      have q2 : 2 < xs.length := by rw [HL.out]; omega
      have p0 : (0 : Int) < xs.length := by omega
      have p1 : (1 : Int) < xs.length := by omega
      have p2 : (2 : Int) < xs.length := by omega
      go_wp2_with fail
      go_ret
      first | exact ⟨rfl, B5.out⟩ | exact ⟨rfl, by have hB := B5.out; simp only [World.drewN_drewN] at hB; exact hB⟩
    · rw [hwt] at HW
      clear hwt
      go_wp2_with fail
      refine (iHexOf_calls a b d _ (hT.below (B0.out) hT.lt)).mono ?_
      rintro e w1_ ⟨v1_, he, o1_, b1_⟩
      rw [H.out] at he o1_
      dsimp only at he o1_
      subst he
      obtain ⟨Ax, cx, rfl⟩ := o1_.slice
      have B1 := Lib.hid ((B0.out).trans (b1_.mono (B0.out).size))
      have Ox1 := Lib.hid (o1_.weak (B0.out).size)
      go_wp2_with fail
      refine (sHexOf_calls a b d _).mono ?_
      rintro e w2_ ⟨v2_, he, o2_, b2_⟩
      rw [H.out] at he o2_
      dsimp only at he o2_
      subst he
      obtain ⟨Ay, cy, rfl⟩ := o2_.slice
      have B2 := Lib.hid ((B1.out).trans (b2_.mono (B1.out).size))
      have Ox2 := Lib.hid ((Ox1.out).below b2_)
      have Oy2 := Lib.hid (o2_.weak (B1.out).size)
      go_wp2_with fail
      refine (sameInts_calls _ _ _ _ xs xs _ (Ox2.out).rds (Oy2.out).rds (Ox2.out).len_le (Oy2.out).len_le).mono ?_
      rintro e w' ⟨he, k3_, rfl⟩
      rw [eqL_refl] at he
      subst he
      have B3 := Lib.hid (below_drewN (B2.out) k3_)
      have Ox3 := Lib.hid ((Ox2.out).drewN k3_)
      have Oy3 := Lib.hid ((Oy2.out).drewN k3_)
      go_wp2_with fail
      refine (iHexWeight_calls _ _ xs _ (Ox3.out).rds (Ox3.out).len_le).mono ?_
      rintro e w4_ ⟨he, b4_⟩
      rw [HW.out] at he
      subst he
      have B4 := Lib.hid ((B3.out).trans (b4_.mono (B3.out).size))
      have Ox4 := Lib.hid ((Ox3.out).below b4_)
      have Oy4 := Lib.hid ((Oy3.out).below b4_)
      go_wp2_with fail
      refine (iHexIn_calls _ _ xs _ (Ox4.out).rds (Ox4.out).len_le (hT.below (B4.out) hT.lt)).mono ?_
      rintro e w5_ ⟨he, b5_⟩
      rw [HI.out] at he
      subst he
      have B5 := Lib.hid ((B4.out).trans (b5_.mono (B4.out).size))
      have Ox5 := Lib.hid ((Ox4.out).below b5_)
      have Oy5 := Lib.hid ((Oy4.out).below b5_)
      obtain ⟨g, rfl⟩ := own_at2 (Ox5.out) (by rw [HL.out]; omega)
      have c0 := (Ox5.out).cell (j := 0) (by rw [HL.out]; omega)
      have c1 := (Ox5.out).cell (j := 1) (by rw [HL.out]; omega)
      have c2 := (Ox5.out).cell (j := 2) (by rw [HL.out]; omega)
      rw [HG0.out] at c0
      rw [HG1.out] at c1
      rw [HG2.out] at c2
      have q0 : 0 < xs.length := by rw [HL.out]; omega
      have q1 : 1 < xs.length := by rw [HL.out]; omega
      have q2 : 2 < xs.length := by rw [HL.out]; omega
      have p0 : (0 : Int) < xs.length := by omega
      have p1 : (1 : Int) < xs.length := by omega
      have p2 : (2 : Int) < xs.length := by omega
      go_wp2_with fail
      go_ret
      first | exact ⟨rfl, B5.out⟩ | exact ⟨rfl, by have hB := B5.out; simp only [World.drewN_drewN] at hB; exact hB⟩
  · have H := Lib.hid (hOf_no h)
    clear h
    go_wp2_with fail
    refine (iHexOf_calls a b d _ (hT.below (B0.out) hT.lt)).mono ?_
    rintro e w1_ ⟨v1_, he, o1_, b1_⟩
    rw [H.out] at he o1_
    dsimp only at he o1_
    subst he
    obtain ⟨Ax, cx, rfl⟩ := o1_.slice
    have B1 := Lib.hid ((B0.out).trans (b1_.mono (B0.out).size))
    have Ox1 := Lib.hid (o1_.weak (B0.out).size)
    go_wp2_with fail
    refine (sHexOf_calls a b d _).mono ?_
    rintro e w2_ ⟨v2_, he, o2_, b2_⟩
    rw [H.out] at he o2_
    dsimp only at he o2_
    subst he
    obtain ⟨Ay, cy, rfl⟩ := o2_.slice
    have B2 := Lib.hid ((B1.out).trans (b2_.mono (B1.out).size))
    have Ox2 := Lib.hid ((Ox1.out).below b2_)
    have Oy2 := Lib.hid (o2_.weak (B1.out).size)
    go_wp2_with fail
    refine (sameInts_calls _ _ _ _ [] [] _ (Ox2.out).rds (Oy2.out).rds (Ox2.out).len_le (Oy2.out).len_le).mono ?_
    rintro e w' ⟨he, k3_, rfl⟩
    rw [eqL_refl] at he
    subst he
    have B3 := Lib.hid (below_drewN (B2.out) k3_)
    have Ox3 := Lib.hid ((Ox2.out).drewN k3_)
    have Oy3 := Lib.hid ((Oy2.out).drewN k3_)
    go_wp2_with fail
    refine (sameInts_calls _ _ _ _ [] [] _ (Ox3.out).rds (Oy3.out).rds (Ox3.out).len_le (Oy3.out).len_le).mono ?_
    rintro e w' ⟨he, k4_, rfl⟩
    rw [eqL_refl] at he
    subst he
    have B4 := Lib.hid (below_drewN (B3.out) k4_)
    have Ox4 := Lib.hid ((Ox3.out).drewN k4_)
    have Oy4 := Lib.hid ((Oy3.out).drewN k4_)
    go_wp2_with fail
    go_ret
    first | exact ⟨rfl, B4.out⟩ | exact ⟨rfl, by have hB := B4.out; simp only [World.drewN_drewN] at hB; exact hB⟩
set_option maxHeartbeats 4000000 in
theorem walk_FnHexIn (a0 : Option Addr) (len0 cap0 : Nat) (z0 : List Int) (w : World) (w0 : IsRow .u8 w a0 len0 cap0 z0) (hT : Tab w) :
    Calls Tryd.prog 5 #[.slice a0 len0 cap0] w fun e w' => e = .returned (.bool true) ∧ Below w.heap.size w w' := by
  obtain ⟨bs, rfl, hr, hc, hm, hv⟩ := w0.bytes
  have hm' := hm
  unfold maxLen at hm'
  by_cases hbig : 1048576 < bs.length
  · go_enter Tryd.func5, Tryd.ntmps5
    go_wp2_with fail
    go_ret
    exact ⟨rfl, Below.refl _ _⟩
  have hbig' : bs.length ≤ 1048576 := by omega
  clear hbig
  go_enter Tryd.func5, Tryd.ntmps5
  go_wp2_with fail
  refine (DrawHexIn_calls _ _ bs _ hr hc hm hv).mono ?_
  rintro e w1 ⟨v, xs, rfl, o1, hl, b1⟩
  obtain ⟨Aa, ca, rfl⟩ := o1.slice
  have B0 := Lib.hid (b1)
  have Oa0 := Lib.hid (o1)
  rcases h : hIn xs with _ | _
  · have H := Lib.hid h
    clear h
    go_wp2_with fail
    refine (iHexIn_calls _ _ xs _ (Oa0.out).rds (Oa0.out).len_le (hT.below (B0.out) hT.lt)).mono ?_
    rintro e w1_ ⟨he, b1_⟩
    rw [H.out] at he
    subst he
    have B1 := Lib.hid ((B0.out).trans (b1_.mono (B0.out).size))
    have Oa1 := Lib.hid ((Oa0.out).below b1_)
    go_wp2_with fail
    refine (sHexIn_calls _ _ xs _ (Oa1.out).rds (Oa1.out).len_le).mono ?_
    rintro e w2_ ⟨he, b2_⟩
    rw [H.out] at he
    subst he
    have B2 := Lib.hid ((B1.out).trans (b2_.mono (B1.out).size))
    have Oa2 := Lib.hid ((Oa1.out).below b2_)
    go_wp2_with fail
    go_ret
    first | exact ⟨rfl, B2.out⟩ | exact ⟨rfl, by have hB := B2.out; simp only [World.drewN_drewN] at hB; exact hB⟩
  · have hin := hIn_in h
    have H := Lib.hid h
    have D2 : IsD 2 := ⟨by omega, by omega⟩
    have H2 := Lib.hid (hTimes_ok hin.rowB ((digB_iff 2).2 D2))
    have hin2 := hin.mul D2
    have H3 := Lib.hid (hAdd_ok hin2.rowB hin.rowB)
    have hin3 := hin2.add hin
    have H4 := Lib.hid hin2.hIn
    have H5 := Lib.hid hin3.hIn
    have H6 := Lib.hid ((hInner_ok hin.rowB hin.rowB).trans (hin.inn hin))
    clear h hin hin2 hin3 D2
    generalize mulR xs 2 = ys at *
    generalize addR ys xs = zs at *
    go_wp2_with fail
    refine (iHexIn_calls _ _ xs _ (Oa0.out).rds (Oa0.out).len_le (hT.below (B0.out) hT.lt)).mono ?_
    rintro e w1_ ⟨he, b1_⟩
    rw [H.out] at he
    subst he
    have B1 := Lib.hid ((B0.out).trans (b1_.mono (B0.out).size))
    have Oa1 := Lib.hid ((Oa0.out).below b1_)
    go_wp2_with fail
    refine (sHexIn_calls _ _ xs _ (Oa1.out).rds (Oa1.out).len_le).mono ?_
    rintro e w2_ ⟨he, b2_⟩
    rw [H.out] at he
    subst he
    have B2 := Lib.hid ((B1.out).trans (b2_.mono (B1.out).size))
    have Oa2 := Lib.hid ((Oa1.out).below b2_)
    go_wp2_with fail
    refine (iHexTimes_calls _ _ xs 2 _ (Oa2.out).rds (Oa2.out).len_le (hT.below (B2.out) hT.lt)).mono ?_
    rintro e w3_ ⟨v3_, he, o3_, b3_⟩
    rw [H2.out] at he o3_
    dsimp only at he o3_
    subst he
    obtain ⟨Ax, cx, rfl⟩ := o3_.slice
    have B3 := Lib.hid ((B2.out).trans (b3_.mono (B2.out).size))
    have Oa3 := Lib.hid ((Oa2.out).below b3_)
    have Ox3 := Lib.hid (o3_.weak (B2.out).size)
    go_wp2_with fail
    refine (iHexAdd_calls _ _ _ _ ys xs _ (Ox3.out).rds (Ox3.out).len_le (Oa3.out).rds (Oa3.out).len_le).mono ?_
    rintro e w4_ ⟨v4_, he, o4_, b4_⟩
    rw [H3.out] at he o4_
    dsimp only at he o4_
    subst he
    obtain ⟨Ay, cy, rfl⟩ := o4_.slice
    have B4 := Lib.hid ((B3.out).trans (b4_.mono (B3.out).size))
    have Oa4 := Lib.hid ((Oa3.out).below b4_)
    have Ox4 := Lib.hid ((Ox3.out).below b4_)
    have Oy4 := Lib.hid (o4_.weak (B3.out).size)
    go_wp2_with fail
    refine (iHexIn_calls _ _ ys _ (Ox4.out).rds (Ox4.out).len_le (hT.below (B4.out) hT.lt)).mono ?_
    rintro e w5_ ⟨he, b5_⟩
    rw [H4.out] at he
    subst he
    have B5 := Lib.hid ((B4.out).trans (b5_.mono (B4.out).size))
    have Oa5 := Lib.hid ((Oa4.out).below b5_)
    have Ox5 := Lib.hid ((Ox4.out).below b5_)
    have Oy5 := Lib.hid ((Oy4.out).below b5_)
    go_wp2_with fail
    refine (iHexIn_calls _ _ zs _ (Oy5.out).rds (Oy5.out).len_le (hT.below (B5.out) hT.lt)).mono ?_
    rintro e w6_ ⟨he, b6_⟩
    rw [H5.out] at he
    subst he
    have B6 := Lib.hid ((B5.out).trans (b6_.mono (B5.out).size))
    have Oa6 := Lib.hid ((Oa5.out).below b6_)
    have Ox6 := Lib.hid ((Ox5.out).below b6_)
    have Oy6 := Lib.hid ((Oy5.out).below b6_)
    go_wp2_with fail
    refine (iHexInner_calls _ _ _ _ xs xs _ (Oa6.out).rds (Oa6.out).len_le (Oa6.out).rds (Oa6.out).len_le (hT.below (B6.out) hT.lt)).mono ?_
    rintro e w7_ ⟨he, b7_⟩
    rw [H6.out] at he
    subst he
    have B7 := Lib.hid ((B6.out).trans (b7_.mono (B6.out).size))
    have Oa7 := Lib.hid ((Oa6.out).below b7_)
    have Ox7 := Lib.hid ((Ox6.out).below b7_)
    have Oy7 := Lib.hid ((Oy6.out).below b7_)
    go_wp2_with fail
    go_ret
    first | exact ⟨rfl, B7.out⟩ | exact ⟨rfl, by have hB := B7.out; simp only [World.drewN_drewN] at hB; exact hB⟩
set_option maxHeartbeats 4000000 in
theorem walk_FnHexAdd (a0 : Option Addr) (len0 cap0 : Nat) (z0 : List Int) (w : World) (w0 : IsRow .u8 w a0 len0 cap0 z0) (hT : Tab w) :
    Calls Tryd.prog 6 #[.slice a0 len0 cap0] w fun e w' => e = .returned (.bool true) ∧ Below w.heap.size w w' := by
  obtain ⟨bs, rfl, hr, hc, hm, hv⟩ := w0.bytes
  have hm' := hm
  unfold maxLen at hm'
  by_cases hbig : 1048576 < bs.length
  · go_enter Tryd.func6, Tryd.ntmps6
    go_wp2_with fail
    go_ret
    exact ⟨rfl, Below.refl _ _⟩
  have hbig' : bs.length ≤ 1048576 := by omega
  clear hbig
  go_enter Tryd.func6, Tryd.ntmps6
  go_wp2_with fail
  refine (DrawHexAdd_calls _ _ bs _ hr hc hm hv).mono ?_
  rintro e w1 ⟨v, v2, xs, ys, rfl, o1, hl, o2, hl2, b1⟩
  obtain ⟨Aa, ca, rfl⟩ := o1.slice
  obtain ⟨Ab, cb, rfl⟩ := o2.slice
  have B0 := Lib.hid (b1)
  have Oa0 := Lib.hid (o1)
  have Ob0 := Lib.hid (o2)
  by_cases h : rowB xs = true ∧ rowB ys = true
  · have hx := (rowB_iff xs).1 h.1
    have hy := (rowB_iff ys).1 h.2
    have hz := addR_row hx hy
    have H := Lib.hid (hAdd_ok h.1 h.2)
    have H2 := Lib.hid ((hAdd_ok ((rowB_iff _).2 hz) h.2).trans (by rw [addR_back hx hy] : _ = (xs, true)))
    have H5 : Hid (hIn xs = true → hIn ys = true → hIn (addR xs ys) = true) := fun a b => ((hIn_in a).add (hIn_in b)).hIn
    have H6 : Hid (hIn xs = true → hIn ys = true → hInner xs ys = 0) := fun a b => (hInner_ok h.1 h.2).trans ((hIn_in a).inn (hIn_in b))
    clear h hx hy hz
    generalize addR xs ys = zs at *
    rcases h1 : hIn xs with _ | _
    · have H3 := Lib.hid h1
      clear h1
      go_wp2_with fail
      refine (iHexAdd_calls _ _ _ _ xs ys _ (Oa0.out).rds (Oa0.out).len_le (Ob0.out).rds (Ob0.out).len_le).mono ?_
      rintro e w1_ ⟨v1_, he, o1_, b1_⟩
      rw [H.out] at he o1_
      dsimp only at he o1_
      subst he
      obtain ⟨Ax, cx, rfl⟩ := o1_.slice
      have B1 := Lib.hid ((B0.out).trans (b1_.mono (B0.out).size))
      have Oa1 := Lib.hid ((Oa0.out).below b1_)
      have Ob1 := Lib.hid ((Ob0.out).below b1_)
      have Ox1 := Lib.hid (o1_.weak (B0.out).size)
      go_wp2_with fail
      refine (sHexAdd_calls _ _ _ _ xs ys _ (Oa1.out).rds (Oa1.out).len_le (Ob1.out).rds (Ob1.out).len_le).mono ?_
      rintro e w2_ ⟨v2_, he, o2_, b2_⟩
      rw [H.out] at he o2_
      dsimp only at he o2_
      subst he
      obtain ⟨Ay, cy, rfl⟩ := o2_.slice
      have B2 := Lib.hid ((B1.out).trans (b2_.mono (B1.out).size))
      have Oa2 := Lib.hid ((Oa1.out).below b2_)
      have Ob2 := Lib.hid ((Ob1.out).below b2_)
      have Ox2 := Lib.hid ((Ox1.out).below b2_)
      have Oy2 := Lib.hid (o2_.weak (B1.out).size)
      go_wp2_with fail
      refine (sameInts_calls _ _ _ _ zs zs _ (Ox2.out).rds (Oy2.out).rds (Ox2.out).len_le (Oy2.out).len_le).mono ?_
      rintro e w' ⟨he, k3_, rfl⟩
      rw [eqL_refl] at he
      subst he
      have B3 := Lib.hid (below_drewN (B2.out) k3_)
      have Oa3 := Lib.hid ((Oa2.out).drewN k3_)
      have Ob3 := Lib.hid ((Ob2.out).drewN k3_)
      have Ox3 := Lib.hid ((Ox2.out).drewN k3_)
      have Oy3 := Lib.hid ((Oy2.out).drewN k3_)
      go_wp2_with fail
      refine (iHexAdd_calls _ _ _ _ zs ys _ (Ox3.out).rds (Ox3.out).len_le (Ob3.out).rds (Ob3.out).len_le).mono ?_
      rintro e w4_ ⟨v4_, he, o4_, b4_⟩
      rw [H2.out] at he o4_
      dsimp only at he o4_
      subst he
      obtain ⟨Az, cz, rfl⟩ := o4_.slice
      have B4 := Lib.hid ((B3.out).trans (b4_.mono (B3.out).size))
      have Oa4 := Lib.hid ((Oa3.out).below b4_)
      have Ob4 := Lib.hid ((Ob3.out).below b4_)
      have Ox4 := Lib.hid ((Ox3.out).below b4_)
      have Oy4 := Lib.hid ((Oy3.out).below b4_)
      have Oz4 := Lib.hid (o4_.weak (B3.out).size)
      go_wp2_with fail
      refine (iHexIn_calls _ _ xs _ (Oa4.out).rds (Oa4.out).len_le (hT.below (B4.out) hT.lt)).mono ?_
      rintro e w5_ ⟨he, b5_⟩
      rw [H3.out] at he
      subst he
      have B5 := Lib.hid ((B4.out).trans (b5_.mono (B4.out).size))
      have Oa5 := Lib.hid ((Oa4.out).below b5_)
      have Ob5 := Lib.hid ((Ob4.out).below b5_)
      have Ox5 := Lib.hid ((Ox4.out).below b5_)
      have Oy5 := Lib.hid ((Oy4.out).below b5_)
      have Oz5 := Lib.hid ((Oz4.out).below b5_)
      go_wp2_with fail
      refine (sameInts_calls _ _ _ _ xs xs _ (Oz5.out).rds (Oa5.out).rds (Oz5.out).len_le (Oa5.out).len_le).mono ?_
      rintro e w' ⟨he, k6_, rfl⟩
      rw [eqL_refl] at he
      subst he
      have B6 := Lib.hid (below_drewN (B5.out) k6_)
      have Oa6 := Lib.hid ((Oa5.out).drewN k6_)
      have Ob6 := Lib.hid ((Ob5.out).drewN k6_)
      have Ox6 := Lib.hid ((Ox5.out).drewN k6_)
      have Oy6 := Lib.hid ((Oy5.out).drewN k6_)
      have Oz6 := Lib.hid ((Oz5.out).drewN k6_)
      go_wp2_with fail
      go_ret
      first | exact ⟨rfl, B6.out⟩ | exact ⟨rfl, by have hB := B6.out; simp only [World.drewN_drewN] at hB; exact hB⟩
    · have H3 := Lib.hid h1
      rcases h2 : hIn ys with _ | _
      · have H4 := Lib.hid h2
        clear h1 h2
        go_wp2_with fail
        refine (iHexAdd_calls _ _ _ _ xs ys _ (Oa0.out).rds (Oa0.out).len_le (Ob0.out).rds (Ob0.out).len_le).mono ?_
        rintro e w1_ ⟨v1_, he, o1_, b1_⟩
        rw [H.out] at he o1_
        dsimp only at he o1_
        subst he
        obtain ⟨Ax, cx, rfl⟩ := o1_.slice
        have B1 := Lib.hid ((B0.out).trans (b1_.mono (B0.out).size))
        have Oa1 := Lib.hid ((Oa0.out).below b1_)
        have Ob1 := Lib.hid ((Ob0.out).below b1_)
        have Ox1 := Lib.hid (o1_.weak (B0.out).size)
        go_wp2_with fail
        refine (sHexAdd_calls _ _ _ _ xs ys _ (Oa1.out).rds (Oa1.out).len_le (Ob1.out).rds (Ob1.out).len_le).mono ?_
        rintro e w2_ ⟨v2_, he, o2_, b2_⟩
        rw [H.out] at he o2_
        dsimp only at he o2_
        subst he
        obtain ⟨Ay, cy, rfl⟩ := o2_.slice
        have B2 := Lib.hid ((B1.out).trans (b2_.mono (B1.out).size))
        have Oa2 := Lib.hid ((Oa1.out).below b2_)
        have Ob2 := Lib.hid ((Ob1.out).below b2_)
        have Ox2 := Lib.hid ((Ox1.out).below b2_)
        have Oy2 := Lib.hid (o2_.weak (B1.out).size)
        go_wp2_with fail
        refine (sameInts_calls _ _ _ _ zs zs _ (Ox2.out).rds (Oy2.out).rds (Ox2.out).len_le (Oy2.out).len_le).mono ?_
        rintro e w' ⟨he, k3_, rfl⟩
        rw [eqL_refl] at he
        subst he
        have B3 := Lib.hid (below_drewN (B2.out) k3_)
        have Oa3 := Lib.hid ((Oa2.out).drewN k3_)
        have Ob3 := Lib.hid ((Ob2.out).drewN k3_)
        have Ox3 := Lib.hid ((Ox2.out).drewN k3_)
        have Oy3 := Lib.hid ((Oy2.out).drewN k3_)
        go_wp2_with fail
        refine (iHexAdd_calls _ _ _ _ zs ys _ (Ox3.out).rds (Ox3.out).len_le (Ob3.out).rds (Ob3.out).len_le).mono ?_
        rintro e w4_ ⟨v4_, he, o4_, b4_⟩
        rw [H2.out] at he o4_
        dsimp only at he o4_
        subst he
        obtain ⟨Az, cz, rfl⟩ := o4_.slice
        have B4 := Lib.hid ((B3.out).trans (b4_.mono (B3.out).size))
        have Oa4 := Lib.hid ((Oa3.out).below b4_)
        have Ob4 := Lib.hid ((Ob3.out).below b4_)
        have Ox4 := Lib.hid ((Ox3.out).below b4_)
        have Oy4 := Lib.hid ((Oy3.out).below b4_)
        have Oz4 := Lib.hid (o4_.weak (B3.out).size)
        go_wp2_with fail
        refine (iHexIn_calls _ _ xs _ (Oa4.out).rds (Oa4.out).len_le (hT.below (B4.out) hT.lt)).mono ?_
        rintro e w5_ ⟨he, b5_⟩
        rw [H3.out] at he
        subst he
        have B5 := Lib.hid ((B4.out).trans (b5_.mono (B4.out).size))
        have Oa5 := Lib.hid ((Oa4.out).below b5_)
        have Ob5 := Lib.hid ((Ob4.out).below b5_)
        have Ox5 := Lib.hid ((Ox4.out).below b5_)
        have Oy5 := Lib.hid ((Oy4.out).below b5_)
        have Oz5 := Lib.hid ((Oz4.out).below b5_)
        go_wp2_with fail
        refine (iHexIn_calls _ _ ys _ (Ob5.out).rds (Ob5.out).len_le (hT.below (B5.out) hT.lt)).mono ?_
        rintro e w6_ ⟨he, b6_⟩
        rw [H4.out] at he
        subst he
        have B6 := Lib.hid ((B5.out).trans (b6_.mono (B5.out).size))
        have Oa6 := Lib.hid ((Oa5.out).below b6_)
        have Ob6 := Lib.hid ((Ob5.out).below b6_)
        have Ox6 := Lib.hid ((Ox5.out).below b6_)
        have Oy6 := Lib.hid ((Oy5.out).below b6_)
        have Oz6 := Lib.hid ((Oz5.out).below b6_)
        go_wp2_with fail
        refine (sameInts_calls _ _ _ _ xs xs _ (Oz6.out).rds (Oa6.out).rds (Oz6.out).len_le (Oa6.out).len_le).mono ?_
        rintro e w' ⟨he, k7_, rfl⟩
        rw [eqL_refl] at he
        subst he
        have B7 := Lib.hid (below_drewN (B6.out) k7_)
        have Oa7 := Lib.hid ((Oa6.out).drewN k7_)
        have Ob7 := Lib.hid ((Ob6.out).drewN k7_)
        have Ox7 := Lib.hid ((Ox6.out).drewN k7_)
        have Oy7 := Lib.hid ((Oy6.out).drewN k7_)
        have Oz7 := Lib.hid ((Oz6.out).drewN k7_)
        go_wp2_with fail
        go_ret
        first | exact ⟨rfl, B7.out⟩ | exact ⟨rfl, by have hB := B7.out; simp only [World.drewN_drewN] at hB; exact hB⟩
      · have H4 := Lib.hid h2
        have H7 := Lib.hid (H5.out h1 h2)
        have H8 := Lib.hid (H6.out h1 h2)
        clear h1 h2 H5 H6
        go_wp2_with fail
        refine (iHexAdd_calls _ _ _ _ xs ys _ (Oa0.out).rds (Oa0.out).len_le (Ob0.out).rds (Ob0.out).len_le).mono ?_
        rintro e w1_ ⟨v1_, he, o1_, b1_⟩
        rw [H.out] at he o1_
        dsimp only at he o1_
        subst he
        obtain ⟨Ax, cx, rfl⟩ := o1_.slice
        have B1 := Lib.hid ((B0.out).trans (b1_.mono (B0.out).size))
        have Oa1 := Lib.hid ((Oa0.out).below b1_)
        have Ob1 := Lib.hid ((Ob0.out).below b1_)
        have Ox1 := Lib.hid (o1_.weak (B0.out).size)
        go_wp2_with fail
        refine (sHexAdd_calls _ _ _ _ xs ys _ (Oa1.out).rds (Oa1.out).len_le (Ob1.out).rds (Ob1.out).len_le).mono ?_
        rintro e w2_ ⟨v2_, he, o2_, b2_⟩
        rw [H.out] at he o2_
        dsimp only at he o2_
        subst he
        obtain ⟨Ay, cy, rfl⟩ := o2_.slice
        have B2 := Lib.hid ((B1.out).trans (b2_.mono (B1.out).size))
        have Oa2 := Lib.hid ((Oa1.out).below b2_)
        have Ob2 := Lib.hid ((Ob1.out).below b2_)
        have Ox2 := Lib.hid ((Ox1.out).below b2_)
        have Oy2 := Lib.hid (o2_.weak (B1.out).size)
        go_wp2_with fail
        refine (sameInts_calls _ _ _ _ zs zs _ (Ox2.out).rds (Oy2.out).rds (Ox2.out).len_le (Oy2.out).len_le).mono ?_
        rintro e w' ⟨he, k3_, rfl⟩
        rw [eqL_refl] at he
        subst he
        have B3 := Lib.hid (below_drewN (B2.out) k3_)
        have Oa3 := Lib.hid ((Oa2.out).drewN k3_)
        have Ob3 := Lib.hid ((Ob2.out).drewN k3_)
        have Ox3 := Lib.hid ((Ox2.out).drewN k3_)
        have Oy3 := Lib.hid ((Oy2.out).drewN k3_)
        go_wp2_with fail
        refine (iHexAdd_calls _ _ _ _ zs ys _ (Ox3.out).rds (Ox3.out).len_le (Ob3.out).rds (Ob3.out).len_le).mono ?_
        rintro e w4_ ⟨v4_, he, o4_, b4_⟩
        rw [H2.out] at he o4_
        dsimp only at he o4_
        subst he
        obtain ⟨Az, cz, rfl⟩ := o4_.slice
        have B4 := Lib.hid ((B3.out).trans (b4_.mono (B3.out).size))
        have Oa4 := Lib.hid ((Oa3.out).below b4_)
        have Ob4 := Lib.hid ((Ob3.out).below b4_)
        have Ox4 := Lib.hid ((Ox3.out).below b4_)
        have Oy4 := Lib.hid ((Oy3.out).below b4_)
        have Oz4 := Lib.hid (o4_.weak (B3.out).size)
        go_wp2_with fail
        refine (iHexIn_calls _ _ xs _ (Oa4.out).rds (Oa4.out).len_le (hT.below (B4.out) hT.lt)).mono ?_
        rintro e w5_ ⟨he, b5_⟩
        rw [H3.out] at he
        subst he
        have B5 := Lib.hid ((B4.out).trans (b5_.mono (B4.out).size))
        have Oa5 := Lib.hid ((Oa4.out).below b5_)
        have Ob5 := Lib.hid ((Ob4.out).below b5_)
        have Ox5 := Lib.hid ((Ox4.out).below b5_)
        have Oy5 := Lib.hid ((Oy4.out).below b5_)
        have Oz5 := Lib.hid ((Oz4.out).below b5_)
        go_wp2_with fail
        refine (iHexIn_calls _ _ ys _ (Ob5.out).rds (Ob5.out).len_le (hT.below (B5.out) hT.lt)).mono ?_
        rintro e w6_ ⟨he, b6_⟩
        rw [H4.out] at he
        subst he
        have B6 := Lib.hid ((B5.out).trans (b6_.mono (B5.out).size))
        have Oa6 := Lib.hid ((Oa5.out).below b6_)
        have Ob6 := Lib.hid ((Ob5.out).below b6_)
        have Ox6 := Lib.hid ((Ox5.out).below b6_)
        have Oy6 := Lib.hid ((Oy5.out).below b6_)
        have Oz6 := Lib.hid ((Oz5.out).below b6_)
        go_wp2_with fail
        refine (sameInts_calls _ _ _ _ xs xs _ (Oz6.out).rds (Oa6.out).rds (Oz6.out).len_le (Oa6.out).len_le).mono ?_
        rintro e w' ⟨he, k7_, rfl⟩
        rw [eqL_refl] at he
        subst he
        have B7 := Lib.hid (below_drewN (B6.out) k7_)
        have Oa7 := Lib.hid ((Oa6.out).drewN k7_)
        have Ob7 := Lib.hid ((Ob6.out).drewN k7_)
        have Ox7 := Lib.hid ((Ox6.out).drewN k7_)
        have Oy7 := Lib.hid ((Oy6.out).drewN k7_)
        have Oz7 := Lib.hid ((Oz6.out).drewN k7_)
        go_wp2_with fail
        refine (iHexIn_calls _ _ zs _ (Ox7.out).rds (Ox7.out).len_le (hT.below (B7.out) hT.lt)).mono ?_
        rintro e w8_ ⟨he, b8_⟩
        rw [H7.out] at he
        subst he
        have B8 := Lib.hid ((B7.out).trans (b8_.mono (B7.out).size))
        have Oa8 := Lib.hid ((Oa7.out).below b8_)
        have Ob8 := Lib.hid ((Ob7.out).below b8_)
        have Ox8 := Lib.hid ((Ox7.out).below b8_)
        have Oy8 := Lib.hid ((Oy7.out).below b8_)
        have Oz8 := Lib.hid ((Oz7.out).below b8_)
        go_wp2_with fail
        refine (iHexInner_calls _ _ _ _ xs ys _ (Oa8.out).rds (Oa8.out).len_le (Ob8.out).rds (Ob8.out).len_le (hT.below (B8.out) hT.lt)).mono ?_
        rintro e w9_ ⟨he, b9_⟩
        rw [H8.out] at he
        subst he
        have B9 := Lib.hid ((B8.out).trans (b9_.mono (B8.out).size))
        have Oa9 := Lib.hid ((Oa8.out).below b9_)
        have Ob9 := Lib.hid ((Ob8.out).below b9_)
        have Ox9 := Lib.hid ((Ox8.out).below b9_)
        have Oy9 := Lib.hid ((Oy8.out).below b9_)
        have Oz9 := Lib.hid ((Oz8.out).below b9_)
        go_wp2_with fail
        go_ret
        first | exact ⟨rfl, B9.out⟩ | exact ⟨rfl, by have hB := B9.out; simp only [World.drewN_drewN] at hB; exact hB⟩
  · have H := Lib.hid (hAdd_no h)
    clear h
    go_wp2_with fail
    refine (iHexAdd_calls _ _ _ _ xs ys _ (Oa0.out).rds (Oa0.out).len_le (Ob0.out).rds (Ob0.out).len_le).mono ?_
    rintro e w1_ ⟨v1_, he, o1_, b1_⟩
    rw [H.out] at he o1_
    dsimp only at he o1_
    subst he
    obtain ⟨Ax, cx, rfl⟩ := o1_.slice
    have B1 := Lib.hid ((B0.out).trans (b1_.mono (B0.out).size))
    have Oa1 := Lib.hid ((Oa0.out).below b1_)
    have Ob1 := Lib.hid ((Ob0.out).below b1_)
    have Ox1 := Lib.hid (o1_.weak (B0.out).size)
    go_wp2_with fail
    refine (sHexAdd_calls _ _ _ _ xs ys _ (Oa1.out).rds (Oa1.out).len_le (Ob1.out).rds (Ob1.out).len_le).mono ?_
    rintro e w2_ ⟨v2_, he, o2_, b2_⟩
    rw [H.out] at he o2_
    dsimp only at he o2_
    subst he
    obtain ⟨Ay, cy, rfl⟩ := o2_.slice
    have B2 := Lib.hid ((B1.out).trans (b2_.mono (B1.out).size))
    have Oa2 := Lib.hid ((Oa1.out).below b2_)
    have Ob2 := Lib.hid ((Ob1.out).below b2_)
    have Ox2 := Lib.hid ((Ox1.out).below b2_)
    have Oy2 := Lib.hid (o2_.weak (B1.out).size)
    go_wp2_with fail
    refine (sameInts_calls _ _ _ _ [] [] _ (Ox2.out).rds (Oy2.out).rds (Ox2.out).len_le (Oy2.out).len_le).mono ?_
    rintro e w' ⟨he, k3_, rfl⟩
    rw [eqL_refl] at he
    subst he
    have B3 := Lib.hid (below_drewN (B2.out) k3_)
    have Oa3 := Lib.hid ((Oa2.out).drewN k3_)
    have Ob3 := Lib.hid ((Ob2.out).drewN k3_)
    have Ox3 := Lib.hid ((Ox2.out).drewN k3_)
    have Oy3 := Lib.hid ((Oy2.out).drewN k3_)
    go_wp2_with fail
    refine (sameInts_calls _ _ _ _ [] [] _ (Ox3.out).rds (Oy3.out).rds (Ox3.out).len_le (Oy3.out).len_le).mono ?_
    rintro e w' ⟨he, k4_, rfl⟩
    rw [eqL_refl] at he
    subst he
    have B4 := Lib.hid (below_drewN (B3.out) k4_)
    have Oa4 := Lib.hid ((Oa3.out).drewN k4_)
    have Ob4 := Lib.hid ((Ob3.out).drewN k4_)
    have Ox4 := Lib.hid ((Ox3.out).drewN k4_)
    have Oy4 := Lib.hid ((Oy3.out).drewN k4_)
    go_wp2_with fail
    go_ret
    first | exact ⟨rfl, B4.out⟩ | exact ⟨rfl, by have hB := B4.out; simp only [World.drewN_drewN] at hB; exact hB⟩
set_option maxHeartbeats 4000000 in
theorem walk_FnHexTimes (a0 : Option Addr) (len0 cap0 : Nat) (z0 : List Int) (w : World) (w0 : IsRow .u8 w a0 len0 cap0 z0) (hT : Tab w) :
    Calls Tryd.prog 7 #[.slice a0 len0 cap0] w fun e w' => e = .returned (.bool true) ∧ Below w.heap.size w w' := by
  obtain ⟨bs, rfl, hr, hc, hm, hv⟩ := w0.bytes
  have hm' := hm
  unfold maxLen at hm'
  by_cases hbig : 1048576 < bs.length
  · go_enter Tryd.func7, Tryd.ntmps7
    go_wp2_with fail
    go_ret
    exact ⟨rfl, Below.refl _ _⟩
  have hbig' : bs.length ≤ 1048576 := by omega
  clear hbig
  go_enter Tryd.func7, Tryd.ntmps7
  go_wp2_with fail
  refine (DrawHexTimes_calls _ _ bs _ hr hc hm hv).mono ?_
  rintro e w1 ⟨v, xs, n, rfl, o1, hl, n0, n1, b1⟩
  obtain ⟨Aa, ca, rfl⟩ := o1.slice
  have B0 := Lib.hid (b1)
  have Oa0 := Lib.hid (o1)
  by_cases h : rowB xs = true ∧ digB n = true
  · have hx := (rowB_iff xs).1 h.1
    have hn := (digB_iff n).1 h.2
    have hz := mulR_row hx hn
    have hu := mulR_row hz hn
    have H := Lib.hid (hTimes_ok h.1 h.2)
    have H2 := Lib.hid (hTimes_ok ((rowB_iff _).2 hz) h.2)
    have H3 := Lib.hid (hTimes_ok ((rowB_iff _).2 hu) h.2)
    have H4 : Hid (n ≠ 0 → mulR (mulR (mulR xs n) n) n = xs) := mulR_thrice hx hn
    have H5 : Hid (n ≠ 0 → hWeight (mulR xs n) = hWeight xs) := fun e => (hWeight_ok ((rowB_iff _).2 hz)).trans ((wtR_mul hx hn e).trans (hWeight_ok h.1).symm)
    clear h hx hn hz hu
    generalize mulR xs n = ys at *
    generalize mulR ys n = zs at *
    generalize mulR zs n = us at *
    by_cases h0 : n = 0
    · have z1 : (n == 0) = true := by simp [h0]
      clear h0
      go_wp2_with fail
      refine (iHexTimes_calls _ _ xs n _ (Oa0.out).rds (Oa0.out).len_le (hT.below (B0.out) hT.lt)).mono ?_
      rintro e w1_ ⟨v1_, he, o1_, b1_⟩
      rw [H.out] at he o1_
      dsimp only at he o1_
      subst he
      obtain ⟨Ax, cx, rfl⟩ := o1_.slice
      have B1 := Lib.hid ((B0.out).trans (b1_.mono (B0.out).size))
      have Oa1 := Lib.hid ((Oa0.out).below b1_)
      have Ox1 := Lib.hid (o1_.weak (B0.out).size)
      go_wp2_with fail
      refine (sHexTimes_calls _ _ xs n _ (Oa1.out).rds (Oa1.out).len_le).mono ?_
      rintro e w2_ ⟨v2_, he, o2_, b2_⟩
      rw [H.out] at he o2_
      dsimp only at he o2_
      subst he
      obtain ⟨Ay, cy, rfl⟩ := o2_.slice
      have B2 := Lib.hid ((B1.out).trans (b2_.mono (B1.out).size))
      have Oa2 := Lib.hid ((Oa1.out).below b2_)
      have Ox2 := Lib.hid ((Ox1.out).below b2_)
      have Oy2 := Lib.hid (o2_.weak (B1.out).size)
      go_wp2_with fail
      refine (sameInts_calls _ _ _ _ ys ys _ (Ox2.out).rds (Oy2.out).rds (Ox2.out).len_le (Oy2.out).len_le).mono ?_
      rintro e w' ⟨he, k3_, rfl⟩
      rw [eqL_refl] at he
      subst he
      have B3 := Lib.hid (below_drewN (B2.out) k3_)
      have Oa3 := Lib.hid ((Oa2.out).drewN k3_)
      have Ox3 := Lib.hid ((Ox2.out).drewN k3_)
      have Oy3 := Lib.hid ((Oy2.out).drewN k3_)
      go_wp2_with fail
      refine (iHexTimes_calls _ _ ys n _ (Ox3.out).rds (Ox3.out).len_le (hT.below (B3.out) hT.lt)).mono ?_
      rintro e w4_ ⟨v4_, he, o4_, b4_⟩
      rw [H2.out] at he o4_
      dsimp only at he o4_
      subst he
      obtain ⟨Az, cz, rfl⟩ := o4_.slice
      have B4 := Lib.hid ((B3.out).trans (b4_.mono (B3.out).size))
      have Oa4 := Lib.hid ((Oa3.out).below b4_)
      have Ox4 := Lib.hid ((Ox3.out).below b4_)
      have Oy4 := Lib.hid ((Oy3.out).below b4_)
      have Oz4 := Lib.hid (o4_.weak (B3.out).size)
      go_wp2_with fail
      refine (iHexTimes_calls _ _ zs n _ (Oz4.out).rds (Oz4.out).len_le (hT.below (B4.out) hT.lt)).mono ?_
      rintro e w5_ ⟨v5_, he, o5_, b5_⟩
      rw [H3.out] at he o5_
      dsimp only at he o5_
      subst he
      obtain ⟨Au, cu, rfl⟩ := o5_.slice
      have B5 := Lib.hid ((B4.out).trans (b5_.mono (B4.out).size))
      have Oa5 := Lib.hid ((Oa4.out).below b5_)
      have Ox5 := Lib.hid ((Ox4.out).below b5_)
      have Oy5 := Lib.hid ((Oy4.out).below b5_)
      have Oz5 := Lib.hid ((Oz4.out).below b5_)
      have Ou5 := Lib.hid (o5_.weak (B4.out).size)
      go_wp2_with fail
      go_ret
      first | exact ⟨rfl, B5.out⟩ | exact ⟨rfl, by have hB := B5.out; simp only [World.drewN_drewN] at hB; exact hB⟩
    · have z1 : (n == 0) = false := by simp [h0]
      have H6 := Lib.hid (H4.out h0)
      have H7 := Lib.hid (H5.out h0)
      clear h0 H4 H5
      go_wp2_with fail
      refine (iHexTimes_calls _ _ xs n _ (Oa0.out).rds (Oa0.out).len_le (hT.below (B0.out) hT.lt)).mono ?_
      rintro e w1_ ⟨v1_, he, o1_, b1_⟩
      rw [H.out] at he o1_
      dsimp only at he o1_
      subst he
      obtain ⟨Ax, cx, rfl⟩ := o1_.slice
      have B1 := Lib.hid ((B0.out).trans (b1_.mono (B0.out).size))
      have Oa1 := Lib.hid ((Oa0.out).below b1_)
      have Ox1 := Lib.hid (o1_.weak (B0.out).size)
      go_wp2_with fail
      refine (sHexTimes_calls _ _ xs n _ (Oa1.out).rds (Oa1.out).len_le).mono ?_
      rintro e w2_ ⟨v2_, he, o2_, b2_⟩
      rw [H.out] at he o2_
      dsimp only at he o2_
      subst he
      obtain ⟨Ay, cy, rfl⟩ := o2_.slice
      have B2 := Lib.hid ((B1.out).trans (b2_.mono (B1.out).size))
      have Oa2 := Lib.hid ((Oa1.out).below b2_)
      have Ox2 := Lib.hid ((Ox1.out).below b2_)
      have Oy2 := Lib.hid (o2_.weak (B1.out).size)
      go_wp2_with fail
      refine (sameInts_calls _ _ _ _ ys ys _ (Ox2.out).rds (Oy2.out).rds (Ox2.out).len_le (Oy2.out).len_le).mono ?_
      rintro e w' ⟨he, k3_, rfl⟩
      rw [eqL_refl] at he
      subst he
      have B3 := Lib.hid (below_drewN (B2.out) k3_)
      have Oa3 := Lib.hid ((Oa2.out).drewN k3_)
      have Ox3 := Lib.hid ((Ox2.out).drewN k3_)
      have Oy3 := Lib.hid ((Oy2.out).drewN k3_)
      go_wp2_with fail
      refine (iHexTimes_calls _ _ ys n _ (Ox3.out).rds (Ox3.out).len_le (hT.below (B3.out) hT.lt)).mono ?_
      rintro e w4_ ⟨v4_, he, o4_, b4_⟩
      rw [H2.out] at he o4_
      dsimp only at he o4_
      subst he
      obtain ⟨Az, cz, rfl⟩ := o4_.slice
      have B4 := Lib.hid ((B3.out).trans (b4_.mono (B3.out).size))
      have Oa4 := Lib.hid ((Oa3.out).below b4_)
      have Ox4 := Lib.hid ((Ox3.out).below b4_)
      have Oy4 := Lib.hid ((Oy3.out).below b4_)
      have Oz4 := Lib.hid (o4_.weak (B3.out).size)
      go_wp2_with fail
      refine (iHexTimes_calls _ _ zs n _ (Oz4.out).rds (Oz4.out).len_le (hT.below (B4.out) hT.lt)).mono ?_
      rintro e w5_ ⟨v5_, he, o5_, b5_⟩
      rw [H3.out] at he o5_
      dsimp only at he o5_
      subst he
      obtain ⟨Au, cu, rfl⟩ := o5_.slice
      have B5 := Lib.hid ((B4.out).trans (b5_.mono (B4.out).size))
      have Oa5 := Lib.hid ((Oa4.out).below b5_)
      have Ox5 := Lib.hid ((Ox4.out).below b5_)
      have Oy5 := Lib.hid ((Oy4.out).below b5_)
      have Oz5 := Lib.hid ((Oz4.out).below b5_)
      have Ou5 := Lib.hid (o5_.weak (B4.out).size)
      go_wp2_with fail
      refine (sameInts_calls _ _ _ _ us xs _ (Ou5.out).rds (Oa5.out).rds (Ou5.out).len_le (Oa5.out).len_le).mono ?_
      rintro e w' ⟨he, k6_, rfl⟩
      rw [H6.out, eqL_refl] at he
      subst he
      have B6 := Lib.hid (below_drewN (B5.out) k6_)
      have Oa6 := Lib.hid ((Oa5.out).drewN k6_)
      have Ox6 := Lib.hid ((Ox5.out).drewN k6_)
      have Oy6 := Lib.hid ((Oy5.out).drewN k6_)
      have Oz6 := Lib.hid ((Oz5.out).drewN k6_)
      have Ou6 := Lib.hid ((Ou5.out).drewN k6_)
      go_wp2_with fail
      refine (iHexWeight_calls _ _ ys _ (Ox6.out).rds (Ox6.out).len_le).mono ?_
      rintro e w7_ ⟨he, b7_⟩
      rw [H7.out] at he
      subst he
      have B7 := Lib.hid ((B6.out).trans (b7_.mono (B6.out).size))
      have Oa7 := Lib.hid ((Oa6.out).below b7_)
      have Ox7 := Lib.hid ((Ox6.out).below b7_)
      have Oy7 := Lib.hid ((Oy6.out).below b7_)
      have Oz7 := Lib.hid ((Oz6.out).below b7_)
      have Ou7 := Lib.hid ((Ou6.out).below b7_)
      go_wp2_with fail
      refine (iHexWeight_calls _ _ xs _ (Oa7.out).rds (Oa7.out).len_le).mono ?_
      rintro e w8_ ⟨he, b8_⟩
      subst he
      have B8 := Lib.hid ((B7.out).trans (b8_.mono (B7.out).size))
      have Oa8 := Lib.hid ((Oa7.out).below b8_)
      have Ox8 := Lib.hid ((Ox7.out).below b8_)
      have Oy8 := Lib.hid ((Oy7.out).below b8_)
      have Oz8 := Lib.hid ((Oz7.out).below b8_)
      have Ou8 := Lib.hid ((Ou7.out).below b8_)
      go_wp2_with fail
      go_ret
      first | exact ⟨rfl, B8.out⟩ | exact ⟨rfl, by have hB := B8.out; simp only [World.drewN_drewN] at hB; exact hB⟩
  · have H := Lib.hid (hTimes_no h)
    clear h
    go_wp2_with fail
    refine (iHexTimes_calls _ _ xs n _ (Oa0.out).rds (Oa0.out).len_le (hT.below (B0.out) hT.lt)).mono ?_
    rintro e w1_ ⟨v1_, he, o1_, b1_⟩
    rw [H.out] at he o1_
    dsimp only at he o1_
    subst he
    obtain ⟨Ax, cx, rfl⟩ := o1_.slice
    have B1 := Lib.hid ((B0.out).trans (b1_.mono (B0.out).size))
    have Oa1 := Lib.hid ((Oa0.out).below b1_)
    have Ox1 := Lib.hid (o1_.weak (B0.out).size)
    go_wp2_with fail
    refine (sHexTimes_calls _ _ xs n _ (Oa1.out).rds (Oa1.out).len_le).mono ?_
    rintro e w2_ ⟨v2_, he, o2_, b2_⟩
    rw [H.out] at he o2_
    dsimp only at he o2_
    subst he
    obtain ⟨Ay, cy, rfl⟩ := o2_.slice
    have B2 := Lib.hid ((B1.out).trans (b2_.mono (B1.out).size))
    have Oa2 := Lib.hid ((Oa1.out).below b2_)
    have Ox2 := Lib.hid ((Ox1.out).below b2_)
    have Oy2 := Lib.hid (o2_.weak (B1.out).size)
    go_wp2_with fail
    refine (sameInts_calls _ _ _ _ [] [] _ (Ox2.out).rds (Oy2.out).rds (Ox2.out).len_le (Oy2.out).len_le).mono ?_
    rintro e w' ⟨he, k3_, rfl⟩
    rw [eqL_refl] at he
    subst he
    have B3 := Lib.hid (below_drewN (B2.out) k3_)
    have Oa3 := Lib.hid ((Oa2.out).drewN k3_)
    have Ox3 := Lib.hid ((Ox2.out).drewN k3_)
    have Oy3 := Lib.hid ((Oy2.out).drewN k3_)
    go_wp2_with fail
    refine (sameInts_calls _ _ _ _ [] [] _ (Ox3.out).rds (Oy3.out).rds (Ox3.out).len_le (Oy3.out).len_le).mono ?_
    rintro e w' ⟨he, k4_, rfl⟩
    rw [eqL_refl] at he
    subst he
    have B4 := Lib.hid (below_drewN (B3.out) k4_)
    have Oa4 := Lib.hid ((Oa3.out).drewN k4_)
    have Ox4 := Lib.hid ((Ox3.out).drewN k4_)
    have Oy4 := Lib.hid ((Oy3.out).drewN k4_)
    go_wp2_with fail
    go_ret
    first | exact ⟨rfl, B4.out⟩ | exact ⟨rfl, by have hB := B4.out; simp only [World.drewN_drewN] at hB; exact hB⟩
set_option maxHeartbeats 4000000 in
theorem walk_FnHexInner (a0 : Option Addr) (len0 cap0 : Nat) (z0 : List Int) (w : World) (w0 : IsRow .u8 w a0 len0 cap0 z0) (hT : Tab w) :
    Calls Tryd.prog 8 #[.slice a0 len0 cap0] w fun e w' => e = .returned (.bool true) ∧ Below w.heap.size w w' := by
  obtain ⟨bs, rfl, hr, hc, hm, hv⟩ := w0.bytes
  have hm' := hm
  unfold maxLen at hm'
  by_cases hbig : 1048576 < bs.length
  · go_enter Tryd.func8, Tryd.ntmps8
    go_wp2_with fail
    go_ret
    exact ⟨rfl, Below.refl _ _⟩
  have hbig' : bs.length ≤ 1048576 := by omega
  clear hbig
  go_enter Tryd.func8, Tryd.ntmps8
  go_wp2_with fail
  refine (DrawHexInner_calls _ _ bs _ hr hc hm hv).mono ?_
  rintro e w1 ⟨v, v2, xs, ys, rfl, o1, hl, o2, hl2, b1⟩
  obtain ⟨Aa, ca, rfl⟩ := o1.slice
  obtain ⟨Ab, cb, rfl⟩ := o2.slice
  have B0 := Lib.hid (b1)
  have Oa0 := Lib.hid (o1)
  have Ob0 := Lib.hid (o2)
  by_cases h : rowB xs = true ∧ rowB ys = true
  · have hx := (rowB_iff xs).1 h.1
    have hy := (rowB_iff ys).1 h.2
    have hz := addR_row hx hy
    have hm := innR_d hx hy
    have hq := innR_d hy hy
    have H := Lib.hid (hInner_ok h.1 h.2)
    have H2 := Lib.hid (hAdd_ok h.1 h.2)
    have H3 := Lib.hid ((hInner_ok h.2 h.1).trans (innR_turn hx hy))
    have H4 := Lib.hid (dMul_ok hm hm)
    have H5 := Lib.hid ((hInner_ok ((rowB_iff _).2 hz) h.2).trans (innR_add hx hy hy))
    have H6 := Lib.hid (hInner_ok h.2 h.2)
    have H7 := Lib.hid (dAdd_ok hm hq)
    clear h hx hy hz hq
    generalize addR xs ys = zs at *
    generalize innR xs ys = m at *
    generalize innR ys ys = q at *
    obtain ⟨m0, m1⟩ := hm
    go_wp2_with fail
    refine (iHexInner_calls _ _ _ _ xs ys _ (Oa0.out).rds (Oa0.out).len_le (Ob0.out).rds (Ob0.out).len_le (hT.below (B0.out) hT.lt)).mono ?_
    rintro e w1_ ⟨he, b1_⟩
    rw [H.out] at he
    subst he
    have B1 := Lib.hid ((B0.out).trans (b1_.mono (B0.out).size))
    have Oa1 := Lib.hid ((Oa0.out).below b1_)
    have Ob1 := Lib.hid ((Ob0.out).below b1_)
    go_wp2_with fail
    refine (sHexInner_calls _ _ _ _ xs ys _ (Oa1.out).rds (Oa1.out).len_le (Ob1.out).rds (Ob1.out).len_le).mono ?_
    rintro e w2_ ⟨he, b2_⟩
    rw [H.out] at he
    subst he
    have B2 := Lib.hid ((B1.out).trans (b2_.mono (B1.out).size))
    have Oa2 := Lib.hid ((Oa1.out).below b2_)
    have Ob2 := Lib.hid ((Ob1.out).below b2_)
    go_wp2_with fail
    refine (iHexAdd_calls _ _ _ _ xs ys _ (Oa2.out).rds (Oa2.out).len_le (Ob2.out).rds (Ob2.out).len_le).mono ?_
    rintro e w3_ ⟨v3_, he, o3_, b3_⟩
    rw [H2.out] at he o3_
    dsimp only at he o3_
    subst he
    obtain ⟨Ax, cx, rfl⟩ := o3_.slice
    have B3 := Lib.hid ((B2.out).trans (b3_.mono (B2.out).size))
    have Oa3 := Lib.hid ((Oa2.out).below b3_)
    have Ob3 := Lib.hid ((Ob2.out).below b3_)
    have Ox3 := Lib.hid (o3_.weak (B2.out).size)
    go_wp2_with fail
    refine (iHexInner_calls _ _ _ _ ys xs _ (Ob3.out).rds (Ob3.out).len_le (Oa3.out).rds (Oa3.out).len_le (hT.below (B3.out) hT.lt)).mono ?_
    rintro e w4_ ⟨he, b4_⟩
    rw [H3.out] at he
    subst he
    have B4 := Lib.hid ((B3.out).trans (b4_.mono (B3.out).size))
    have Oa4 := Lib.hid ((Oa3.out).below b4_)
    have Ob4 := Lib.hid ((Ob3.out).below b4_)
    have Ox4 := Lib.hid ((Ox3.out).below b4_)
    go_wp2_with fail
    refine (iDigitTimes_calls m m _ (hT.below (B4.out) hT.lt)).mono ?_
    rintro e w5_ ⟨he, b5_⟩
    rw [H4.out] at he
    subst he
    have B5 := Lib.hid ((B4.out).trans (b5_.mono (B4.out).size))
    have Oa5 := Lib.hid ((Oa4.out).below b5_)
    have Ob5 := Lib.hid ((Ob4.out).below b5_)
    have Ox5 := Lib.hid ((Ox4.out).below b5_)
    go_wp2_with fail
    refine (iHexInner_calls _ _ _ _ zs ys _ (Ox5.out).rds (Ox5.out).len_le (Ob5.out).rds (Ob5.out).len_le (hT.below (B5.out) hT.lt)).mono ?_
    rintro e w6_ ⟨he, b6_⟩
    rw [H5.out] at he
    subst he
    have B6 := Lib.hid ((B5.out).trans (b6_.mono (B5.out).size))
    have Oa6 := Lib.hid ((Oa5.out).below b6_)
    have Ob6 := Lib.hid ((Ob5.out).below b6_)
    have Ox6 := Lib.hid ((Ox5.out).below b6_)
    go_wp2_with fail
    refine (iHexInner_calls _ _ _ _ ys ys _ (Ob6.out).rds (Ob6.out).len_le (Ob6.out).rds (Ob6.out).len_le (hT.below (B6.out) hT.lt)).mono ?_
    rintro e w7_ ⟨he, b7_⟩
    rw [H6.out] at he
    subst he
    have B7 := Lib.hid ((B6.out).trans (b7_.mono (B6.out).size))
    have Oa7 := Lib.hid ((Oa6.out).below b7_)
    have Ob7 := Lib.hid ((Ob6.out).below b7_)
    have Ox7 := Lib.hid ((Ox6.out).below b7_)
    go_wp2_with fail
    refine (iDigitAdd_b m q _).mono ?_
    rintro e w8_ ⟨he, b8_⟩
    rw [H7.out] at he
    subst he
    have B8 := Lib.hid ((B7.out).trans (b8_.mono (B7.out).size))
    have Oa8 := Lib.hid ((Oa7.out).below b8_)
    have Ob8 := Lib.hid ((Ob7.out).below b8_)
    have Ox8 := Lib.hid ((Ox7.out).below b8_)
    go_wp2_with fail
    go_ret
    first | exact ⟨rfl, B8.out⟩ | exact ⟨rfl, by have hB := B8.out; simp only [World.drewN_drewN] at hB; exact hB⟩
  · have H := Lib.hid (hInner_no h)
    clear h
    go_wp2_with fail
    refine (iHexInner_calls _ _ _ _ xs ys _ (Oa0.out).rds (Oa0.out).len_le (Ob0.out).rds (Ob0.out).len_le (hT.below (B0.out) hT.lt)).mono ?_
    rintro e w1_ ⟨he, b1_⟩
    rw [H.out] at he
    subst he
    have B1 := Lib.hid ((B0.out).trans (b1_.mono (B0.out).size))
    have Oa1 := Lib.hid ((Oa0.out).below b1_)
    have Ob1 := Lib.hid ((Ob0.out).below b1_)
    go_wp2_with fail
    refine (sHexInner_calls _ _ _ _ xs ys _ (Oa1.out).rds (Oa1.out).len_le (Ob1.out).rds (Ob1.out).len_le).mono ?_
    rintro e w2_ ⟨he, b2_⟩
    rw [H.out] at he
    subst he
    have B2 := Lib.hid ((B1.out).trans (b2_.mono (B1.out).size))
    have Oa2 := Lib.hid ((Oa1.out).below b2_)
    have Ob2 := Lib.hid ((Ob1.out).below b2_)
    go_wp2_with fail
    go_ret
    first | exact ⟨rfl, B2.out⟩ | exact ⟨rfl, by have hB := B2.out; simp only [World.drewN_drewN] at hB; exact hB⟩
set_option maxHeartbeats 4000000 in
theorem walk_FnHexNear (a0 : Option Addr) (len0 cap0 : Nat) (z0 : List Int) (w : World) (w0 : IsRow .u8 w a0 len0 cap0 z0) (hT : Tab w) :
    Calls Tryd.prog 9 #[.slice a0 len0 cap0] w fun e w' => e = .returned (.bool true) ∧ Below w.heap.size w w' := by
  obtain ⟨bs, rfl, hr, hc, hm, hv⟩ := w0.bytes
  have hm' := hm
  unfold maxLen at hm'
  by_cases hbig : 1048576 < bs.length
  · go_enter Tryd.func9, Tryd.ntmps9
    go_wp2_with fail
    go_ret
    exact ⟨rfl, Below.refl _ _⟩
  have hbig' : bs.length ≤ 1048576 := by omega
  clear hbig
  go_enter Tryd.func9, Tryd.ntmps9
  go_wp2_with fail
  refine (DrawHexNear_calls _ _ bs _ hr hc hm hv).mono ?_
  rintro e w1 ⟨v, xs, rfl, o1, hl, b1⟩
  obtain ⟨Aa, ca, rfl⟩ := o1.slice
  have B0 := Lib.hid (b1)
  have Oa0 := Lib.hid (o1)
  rcases h : rowB xs with _ | _
  · have H := Lib.hid (show hNear xs = ([], 0, false) by simp [hNear, h])
    clear h
    go_wp2_with fail
    refine (iHexNear_calls _ _ xs _ (Oa0.out).rds (Oa0.out).len_le (hT.below (B0.out) hT.lt)).mono ?_
    rintro e w1_ ⟨v1_, he, o1_, b1_⟩
    rw [H.out] at he o1_
    dsimp only at he o1_
    subst he
    obtain ⟨Ax, cx, rfl⟩ := o1_.slice
    have B1 := Lib.hid ((B0.out).trans (b1_.mono (B0.out).size))
    have Oa1 := Lib.hid ((Oa0.out).below b1_)
    have Ox1 := Lib.hid (o1_.weak (B0.out).size)
    go_wp2_with fail
    refine (sHexNear_calls _ _ xs _ (Oa1.out).rds (Oa1.out).len_le).mono ?_
    rintro e w2_ ⟨v2_, he, o2_, b2_⟩
    rw [H.out] at he o2_
    dsimp only at he o2_
    subst he
    obtain ⟨Ay, cy, rfl⟩ := o2_.slice
    have B2 := Lib.hid ((B1.out).trans (b2_.mono (B1.out).size))
    have Oa2 := Lib.hid ((Oa1.out).below b2_)
    have Ox2 := Lib.hid ((Ox1.out).below b2_)
    have Oy2 := Lib.hid (o2_.weak (B1.out).size)
    go_wp2_with fail
    refine (sameInts_calls _ _ _ _ [] [] _ (Ox2.out).rds (Oy2.out).rds (Ox2.out).len_le (Oy2.out).len_le).mono ?_
    rintro e w' ⟨he, k3_, rfl⟩
    rw [eqL_refl] at he
    subst he
    have B3 := Lib.hid (below_drewN (B2.out) k3_)
    have Oa3 := Lib.hid ((Oa2.out).drewN k3_)
    have Ox3 := Lib.hid ((Ox2.out).drewN k3_)
    have Oy3 := Lib.hid ((Oy2.out).drewN k3_)
    go_wp2_with fail
    refine (sameInts_calls _ _ _ _ [] [] _ (Ox3.out).rds (Oy3.out).rds (Ox3.out).len_le (Oy3.out).len_le).mono ?_
    rintro e w' ⟨he, k4_, rfl⟩
    rw [eqL_refl] at he
    subst he
    have B4 := Lib.hid (below_drewN (B3.out) k4_)
    have Oa4 := Lib.hid ((Oa3.out).drewN k4_)
    have Ox4 := Lib.hid ((Ox3.out).drewN k4_)
    have Oy4 := Lib.hid ((Oy3.out).drewN k4_)
    go_wp2_with fail
    go_ret
    first | exact ⟨rfl, B4.out⟩ | exact ⟨rfl, by have hB := B4.out; simp only [World.drewN_drewN] at hB; exact hB⟩
  · have hx := (rowB_iff xs).1 h
    have H := Lib.hid (show hNear xs = ((nearTo xs 64).1, (nearTo xs 64).2, true) by simp [hNear, h])
    obtain ⟨k1, k2, k3, k4, k5⟩ := near_is hx
    have H2 := Lib.hid (hAdd_ok k1.rowB h)
    have H3 := Lib.hid k1.hIn
    have H4 := Lib.hid ((hWeight_ok ((rowB_iff _).2 (addR_row k1.row hx))).trans k2.symm)
    have H5 := Lib.hid (show hIn xs = ((nearTo xs 64).2 == 0) by rw [Bool.eq_iff_iff, beq_iff_eq, k5]; exact ⟨hIn_in, InHex.hIn⟩)
    clear k1 k2 k5 h hx
    generalize nearTo xs 64 = p at *
    obtain ⟨ys, n⟩ := p
    dsimp only at *
    generalize addR ys xs = zs at *
    go_wp2_with fail
    refine (iHexNear_calls _ _ xs _ (Oa0.out).rds (Oa0.out).len_le (hT.below (B0.out) hT.lt)).mono ?_
    rintro e w1_ ⟨v1_, he, o1_, b1_⟩
    rw [H.out] at he o1_
    dsimp only at he o1_
    subst he
    obtain ⟨Ax, cx, rfl⟩ := o1_.slice
    have B1 := Lib.hid ((B0.out).trans (b1_.mono (B0.out).size))
    have Oa1 := Lib.hid ((Oa0.out).below b1_)
    have Ox1 := Lib.hid (o1_.weak (B0.out).size)
    go_wp2_with fail
    refine (sHexNear_calls _ _ xs _ (Oa1.out).rds (Oa1.out).len_le).mono ?_
    rintro e w2_ ⟨v2_, he, o2_, b2_⟩
    rw [H.out] at he o2_
    dsimp only at he o2_
    subst he
    obtain ⟨Ay, cy, rfl⟩ := o2_.slice
    have B2 := Lib.hid ((B1.out).trans (b2_.mono (B1.out).size))
    have Oa2 := Lib.hid ((Oa1.out).below b2_)
    have Ox2 := Lib.hid ((Ox1.out).below b2_)
    have Oy2 := Lib.hid (o2_.weak (B1.out).size)
    go_wp2_with fail
    refine (sameInts_calls _ _ _ _ ys ys _ (Ox2.out).rds (Oy2.out).rds (Ox2.out).len_le (Oy2.out).len_le).mono ?_
    rintro e w' ⟨he, k3_, rfl⟩
    rw [eqL_refl] at he
    subst he
    have B3 := Lib.hid (below_drewN (B2.out) k3_)
    have Oa3 := Lib.hid ((Oa2.out).drewN k3_)
    have Ox3 := Lib.hid ((Ox2.out).drewN k3_)
    have Oy3 := Lib.hid ((Oy2.out).drewN k3_)
    go_wp2_with fail
    refine (iHexAdd_calls _ _ _ _ ys xs _ (Ox3.out).rds (Ox3.out).len_le (Oa3.out).rds (Oa3.out).len_le).mono ?_
    rintro e w4_ ⟨v4_, he, o4_, b4_⟩
    rw [H2.out] at he o4_
    dsimp only at he o4_
    subst he
    obtain ⟨Az, cz, rfl⟩ := o4_.slice
    have B4 := Lib.hid ((B3.out).trans (b4_.mono (B3.out).size))
    have Oa4 := Lib.hid ((Oa3.out).below b4_)
    have Ox4 := Lib.hid ((Ox3.out).below b4_)
    have Oy4 := Lib.hid ((Oy3.out).below b4_)
    have Oz4 := Lib.hid (o4_.weak (B3.out).size)
    go_wp2_with fail
    refine (iHexIn_calls _ _ ys _ (Ox4.out).rds (Ox4.out).len_le (hT.below (B4.out) hT.lt)).mono ?_
    rintro e w5_ ⟨he, b5_⟩
    rw [H3.out] at he
    subst he
    have B5 := Lib.hid ((B4.out).trans (b5_.mono (B4.out).size))
    have Oa5 := Lib.hid ((Oa4.out).below b5_)
    have Ox5 := Lib.hid ((Ox4.out).below b5_)
    have Oy5 := Lib.hid ((Oy4.out).below b5_)
    have Oz5 := Lib.hid ((Oz4.out).below b5_)
    go_wp2_with fail
    refine (iHexWeight_calls _ _ zs _ (Oz5.out).rds (Oz5.out).len_le).mono ?_
    rintro e w6_ ⟨he, b6_⟩
    rw [H4.out] at he
    subst he
    have B6 := Lib.hid ((B5.out).trans (b6_.mono (B5.out).size))
    have Oa6 := Lib.hid ((Oa5.out).below b6_)
    have Ox6 := Lib.hid ((Ox5.out).below b6_)
    have Oy6 := Lib.hid ((Oy5.out).below b6_)
    have Oz6 := Lib.hid ((Oz5.out).below b6_)
    go_wp2_with fail
    refine (iHexIn_calls _ _ xs _ (Oa6.out).rds (Oa6.out).len_le (hT.below (B6.out) hT.lt)).mono ?_
    rintro e w7_ ⟨he, b7_⟩
    rw [H5.out] at he
    subst he
    have B7 := Lib.hid ((B6.out).trans (b7_.mono (B6.out).size))
    have Oa7 := Lib.hid ((Oa6.out).below b7_)
    have Ox7 := Lib.hid ((Ox6.out).below b7_)
    have Oy7 := Lib.hid ((Oy6.out).below b7_)
    have Oz7 := Lib.hid ((Oz6.out).below b7_)
    go_wp2_with fail
    go_ret
    first | exact ⟨rfl, B7.out⟩ | exact ⟨rfl, by have hB := B7.out; simp only [World.drewN_drewN] at hB; exact hB⟩
end Go.Proofs.YtojjbdpoecmaeaaDoor
