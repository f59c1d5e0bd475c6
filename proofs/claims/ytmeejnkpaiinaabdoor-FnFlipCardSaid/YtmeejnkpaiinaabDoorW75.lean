/- The walks of promises 70 to 77. -/
import Derived.Test.YtmeejnkpaiinaabDoorC170
import Derived.Test.YtmeejnkpaiinaabDoorC172
import Derived.Test.YtmeejnkpaiinaabDoorC174
import Derived.Test.YtmeejnkpaiinaabDoorC167
import Derived.Test.YtmeejnkpaiinaabDoorW8
namespace Go.Proofs.YtmeejnkpaiinaabDoor
open Go.RowKit
set_option linter.unusedVariables false
set_option linter.unusedSimpArgs false
attribute [local irreducible] cN syn octS octF

theorem sInner_b (A A2 : Option Addr) (c c2 : Nat) (xs ys : List Int) (w : World) (ha : Rds w w.heap.size .i64 A xs) (hx : xs.length ≤ maxLen) (ha2 : Rds w w.heap.size .i64 A2 ys) (hy : ys.length ≤ maxLen) :
    Calls Tryd.prog 13 #[.slice A xs.length c, .slice A2 ys.length c2] w fun e w' => e = .returned (.tuple #[.int .i64 (lvInner xs ys).1, .bool (lvInner xs ys).2]) ∧ Below w.heap.size w w' := iLatticeInner_calls A A2 c c2 xs ys w ha hx ha2 hy
theorem tmod_zero {n b : Int} (hb : b ≠ 0) (h : n % b = 0) : n.tmod b = 0 := by
  obtain ⟨k, rfl⟩ := Int.dvd_of_emod_eq_zero h
  exact Int.mul_tmod_right b k
theorem codeN_of {n : Int} (h : cIn n = true) : ∃ R : Nat, n = (R : Int) ∧ codeN R := by
  simp only [cIn, Bool.and_eq_true] at h
  have hn := (wordB_iff n).1 h.1
  obtain ⟨R, rfl⟩ := Int.eq_ofNat_of_zero_le hn.1
  exact ⟨R, rfl, by omega, h.2⟩
theorem lvAdd_no {xs ys : List Int} (h : (lvAdd xs ys).2 = false) : lvAdd xs ys = ([], false) := by
  unfold lvAdd at h ⊢
  by_cases c : (latB xs && latB ys && vecB (addL xs ys)) = true
  · rw [if_pos c] at h; cases h
  · rw [if_neg c]
theorem lvOct_no {n s : Int} (h : (lvOct n s).2 = false) : lvOct n s = ([], false) := by
  unfold lvOct at h ⊢
  by_cases c : ((cIn n && decide (wt n = 8)) && decide (0 ≤ s ∧ s ≤ 127)) = true
  · rw [if_pos c] at h; cases h
  · rw [if_neg c]
theorem lvOct_yes {n s : Int} (h : (lvOct n s).2 = true) : (cIn n = true ∧ wt n = 8) ∧ (0 ≤ s ∧ s ≤ 127) ∧ lvOct n s = (vL (octV n.toNat s.toNat), true) := by
  unfold lvOct at h ⊢
  by_cases c : ((cIn n && decide (wt n = 8)) && decide (0 ≤ s ∧ s ≤ 127)) = true
  · rw [if_pos c]
    simp only [Bool.and_eq_true, decide_eq_true_eq] at c
    exact ⟨c.1, c.2, rfl⟩
  · rw [if_neg c] at h; cases h
theorem lvAdd_yes {xs ys : List Int} (h : (lvAdd xs ys).2 = true) : latB xs = true ∧ latB ys = true ∧ vecB (addL xs ys) = true := by
  unfold lvAdd at h
  by_cases c : (latB xs && latB ys && vecB (addL xs ys)) = true
  · simp only [Bool.and_eq_true] at c; exact ⟨c.1.1, c.1.2, c.2⟩
  · rw [if_neg c] at h; cases h
theorem inn_rngA {xs ys : List Int} (hx : vecB xs = true) (hy : vecB ys = true) : ∀ a, innL xs ys = a → -240000000000 ≤ a ∧ a ≤ 240000000000 := fun a e => e ▸ innL_rng hx hy
set_option maxHeartbeats 4000000 in
theorem walk_FnFlip (a0 : Option Addr) (len0 cap0 : Nat) (z0 : List Int) (w : World) (w0 : IsRow .u8 w a0 len0 cap0 z0) (hT : Tab3 w) :
    Calls Tryd.prog 6 #[.slice a0 len0 cap0] w fun e w' => e = .returned (.bool true) ∧ Below w.heap.size w w' := by
  obtain ⟨bs, rfl, hr, hc, hm, hv⟩ := w0.bytes
  have hm' := hm
  unfold maxLen at hm'
  by_cases hbig : 1048576 < bs.length
  · go_enter Tryd.func6, Tryd.ntmps6
    go_wp2_with fail
    go_ret
    exact ⟨rfl, Below.refl _ _⟩
  have hbig' : bs.length ≤ 1048576 := by omega
  clear hbig
  go_enter Tryd.func6, Tryd.ntmps6
  go_wp2_with fail
  refine (DrawLatticeFlip_calls _ _ bs _ hr hc hm hv).mono ?_
  rintro e w1 ⟨v, xs, n, rfl, o1, hl, b1⟩
  obtain ⟨Aa, ca, rfl⟩ := o1.slice
  have B0 := Lib.hid (b1)
  have Oa0 := Lib.hid (o1)
  rcases hb : (vecB xs && wordB n) with _ | _
  · have H := Lib.hid (show lvFlip xs n = ([], false) by simp [lvFlip, hb])
    clear hb
    go_wp2_with fail
    refine (iLatticeFlip_calls Aa ca xs n _ (Oa0.out).rds (Oa0.out).len_le (hT.below (B0.out) hT.lt).1).mono ?_
    rintro e w1_ ⟨v1_, he, o1_, b1_⟩
    rw [H.out] at he o1_
    (try dsimp only at he o1_)
    subst he
    obtain ⟨Ax, cx, rfl⟩ := o1_.slice
    have B1 := Lib.hid ((B0.out).trans (b1_.mono (B0.out).size))
    have Oa1 := Lib.hid ((Oa0.out).below b1_)
    have Ox1 := Lib.hid (o1_.weak (B0.out).size)
    go_wp2_with fail
    refine (sLatticeFlip_calls Aa ca xs n _ (Oa1.out).rds (Oa1.out).len_le).mono ?_
    rintro e w2_ ⟨v2_, he, o2_, b2_⟩
    rw [H.out] at he o2_
    (try dsimp only at he o2_)
    subst he
    obtain ⟨Ay, cy, rfl⟩ := o2_.slice
    have B2 := Lib.hid ((B1.out).trans (b2_.mono (B1.out).size))
    have Oa2 := Lib.hid ((Oa1.out).below b2_)
    have Ox2 := Lib.hid ((Ox1.out).below b2_)
    have Oy2 := Lib.hid (o2_.weak (B1.out).size)
    go_wp2_with fail
    refine (sameInts_calls _ _ _ _ [] [] _ (Ox2.out).rds (Oy2.out).rds (Ox2.out).len_le (Oy2.out).len_le).mono ?_
    rintro e w' ⟨he, k3_, rfl⟩
    rw [eqL_refl] at he
    subst he
    have B3 := Lib.hid (below_drewN (B2.out) k3_)
    have Oa3 := Lib.hid ((Oa2.out).drewN k3_)
    have Ox3 := Lib.hid ((Ox2.out).drewN k3_)
    have Oy3 := Lib.hid ((Oy2.out).drewN k3_)
    go_wp2_with fail
    refine (sameInts_calls _ _ _ _ [] [] _ (Ox3.out).rds (Oy3.out).rds (Ox3.out).len_le (Oy3.out).len_le).mono ?_
    rintro e w' ⟨he, k4_, rfl⟩
    rw [eqL_refl] at he
    subst he
    have B4 := Lib.hid (below_drewN (B3.out) k4_)
    have Oa4 := Lib.hid ((Oa3.out).drewN k4_)
    have Ox4 := Lib.hid ((Ox3.out).drewN k4_)
    have Oy4 := Lib.hid ((Oy3.out).drewN k4_)
    go_wp2_with fail
    go_ret
    first | exact ⟨rfl, B4.out⟩ | exact ⟨rfl, by have hB := B4.out; simp only [World.drewN_drewN] at hB; exact hB⟩
  · have hb' := hb
    simp only [Bool.and_eq_true] at hb'
    obtain ⟨q1, q2⟩ := hb'
    have H := Lib.hid (show lvFlip xs n = (flipL xs n.toNat, true) by simp [lvFlip, hb])
    have H2 := Lib.hid (show lvFlip (flipL xs n.toNat) n = (xs, true) by simp [lvFlip, flip_vec n.toNat q1, q2, flip_twice n.toNat (vecB_len q1)])
    have HI1 := Lib.hid (show lvInner (flipL xs n.toNat) (flipL xs n.toNat) = (innL xs xs, true) by rw [← flip_sq xs n.toNat]; simp [lvInner, flip_vec n.toNat q1])
    have HI2 := Lib.hid (show lvInner xs xs = (innL xs xs, true) by simp [lvInner, q1])
    have HLF := Lib.hid (fun (h : cIn n = true) => show latB (flipL xs n.toNat) = latB xs by
      obtain ⟨R, rfl, hR⟩ := codeN_of h
      exact flip_lat hR q1)
    generalize flipL xs n.toNat = ts at *
    generalize innL xs xs = u at *
    clear hb q1 q2
    rcases hc : cIn n with _ | _
    · have HC := Lib.hid hc
      clear hc HLF
      go_wp2_with fail
      refine (iLatticeFlip_calls Aa ca xs n _ (Oa0.out).rds (Oa0.out).len_le (hT.below (B0.out) hT.lt).1).mono ?_
      rintro e w1_ ⟨v1_, he, o1_, b1_⟩
      rw [H.out] at he o1_
      (try dsimp only at he o1_)
      subst he
      obtain ⟨Ax, cx, rfl⟩ := o1_.slice
      have B1 := Lib.hid ((B0.out).trans (b1_.mono (B0.out).size))
      have Oa1 := Lib.hid ((Oa0.out).below b1_)
      have Ox1 := Lib.hid (o1_.weak (B0.out).size)
      go_wp2_with fail
      refine (sLatticeFlip_calls Aa ca xs n _ (Oa1.out).rds (Oa1.out).len_le).mono ?_
      rintro e w2_ ⟨v2_, he, o2_, b2_⟩
      rw [H.out] at he o2_
      (try dsimp only at he o2_)
      subst he
      obtain ⟨Ay, cy, rfl⟩ := o2_.slice
      have B2 := Lib.hid ((B1.out).trans (b2_.mono (B1.out).size))
      have Oa2 := Lib.hid ((Oa1.out).below b2_)
      have Ox2 := Lib.hid ((Ox1.out).below b2_)
      have Oy2 := Lib.hid (o2_.weak (B1.out).size)
      go_wp2_with fail
      refine (sameInts_calls _ _ _ _ ts ts _ (Ox2.out).rds (Oy2.out).rds (Ox2.out).len_le (Oy2.out).len_le).mono ?_
      rintro e w' ⟨he, k3_, rfl⟩
      rw [eqL_refl] at he
      subst he
      have B3 := Lib.hid (below_drewN (B2.out) k3_)
      have Oa3 := Lib.hid ((Oa2.out).drewN k3_)
      have Ox3 := Lib.hid ((Ox2.out).drewN k3_)
      have Oy3 := Lib.hid ((Oy2.out).drewN k3_)
      go_wp2_with fail
      refine (iLatticeFlip_calls Ax cx ts n _ (Ox3.out).rds (Ox3.out).len_le (hT.below (B3.out) hT.lt).1).mono ?_
      rintro e w4_ ⟨v4_, he, o4_, b4_⟩
      rw [H2.out] at he o4_
      (try dsimp only at he o4_)
      subst he
      obtain ⟨Az, cz, rfl⟩ := o4_.slice
      have B4 := Lib.hid ((B3.out).trans (b4_.mono (B3.out).size))
      have Oa4 := Lib.hid ((Oa3.out).below b4_)
      have Ox4 := Lib.hid ((Ox3.out).below b4_)
      have Oy4 := Lib.hid ((Oy3.out).below b4_)
      have Oz4 := Lib.hid (o4_.weak (B3.out).size)
      go_wp2_with fail
      refine (iLatticeInner_calls Ax Ax cx cx ts ts _ (Ox4.out).rds (Ox4.out).len_le (Ox4.out).rds (Ox4.out).len_le).mono ?_
      rintro e w5_ ⟨he, b5_⟩
      rw [HI1.out] at he
      dsimp only at he
      subst he
      have B5 := Lib.hid ((B4.out).trans (b5_.mono (B4.out).size))
      have Oa5 := Lib.hid ((Oa4.out).below b5_)
      have Ox5 := Lib.hid ((Ox4.out).below b5_)
      have Oy5 := Lib.hid ((Oy4.out).below b5_)
      have Oz5 := Lib.hid ((Oz4.out).below b5_)
      go_wp2_with fail
      refine (iLatticeInner_calls Aa Aa ca ca xs xs _ (Oa5.out).rds (Oa5.out).len_le (Oa5.out).rds (Oa5.out).len_le).mono ?_
      rintro e w6_ ⟨he, b6_⟩
      rw [HI2.out] at he
      dsimp only at he
      subst he
      have B6 := Lib.hid ((B5.out).trans (b6_.mono (B5.out).size))
      have Oa6 := Lib.hid ((Oa5.out).below b6_)
      have Ox6 := Lib.hid ((Ox5.out).below b6_)
      have Oy6 := Lib.hid ((Oy5.out).below b6_)
      have Oz6 := Lib.hid ((Oz5.out).below b6_)
      go_wp2_with fail
      refine (sameInts_calls _ _ _ _ xs xs _ (Oz6.out).rds (Oa6.out).rds (Oz6.out).len_le (Oa6.out).len_le).mono ?_
      rintro e w' ⟨he, k7_, rfl⟩
      rw [eqL_refl] at he
      subst he
      have B7 := Lib.hid (below_drewN (B6.out) k7_)
      have Oa7 := Lib.hid ((Oa6.out).drewN k7_)
      have Ox7 := Lib.hid ((Ox6.out).drewN k7_)
      have Oy7 := Lib.hid ((Oy6.out).drewN k7_)
      have Oz7 := Lib.hid ((Oz6.out).drewN k7_)
      go_wp2_with fail
      refine (iCodeIn_calls n _ (hT.below (B7.out) hT.lt)).mono ?_
      rintro e w8_ ⟨he, b8_⟩
      rw [HC.out] at he
      subst he
      have B8 := Lib.hid ((B7.out).trans (b8_.mono (B7.out).size))
      have Oa8 := Lib.hid ((Oa7.out).below b8_)
      have Ox8 := Lib.hid ((Ox7.out).below b8_)
      have Oy8 := Lib.hid ((Oy7.out).below b8_)
      have Oz8 := Lib.hid ((Oz7.out).below b8_)
      go_wp2_with fail
      go_ret
      first | exact ⟨rfl, B8.out⟩ | exact ⟨rfl, by have hB := B8.out; simp only [World.drewN_drewN] at hB; exact hB⟩
    · have HC := Lib.hid hc
      have HL1 := Lib.hid (HLF.out hc)
      clear hc HLF
      obtain ⟨lb, hlb⟩ : ∃ lb, latB xs = lb := ⟨_, rfl⟩
      rw [hlb] at HL1
      have HL2 := Lib.hid hlb
      clear hlb
      go_wp2_with fail
      refine (iLatticeFlip_calls Aa ca xs n _ (Oa0.out).rds (Oa0.out).len_le (hT.below (B0.out) hT.lt).1).mono ?_
      rintro e w1_ ⟨v1_, he, o1_, b1_⟩
      rw [H.out] at he o1_
      (try dsimp only at he o1_)
      subst he
      obtain ⟨Ax, cx, rfl⟩ := o1_.slice
      have B1 := Lib.hid ((B0.out).trans (b1_.mono (B0.out).size))
      have Oa1 := Lib.hid ((Oa0.out).below b1_)
      have Ox1 := Lib.hid (o1_.weak (B0.out).size)
      go_wp2_with fail
      refine (sLatticeFlip_calls Aa ca xs n _ (Oa1.out).rds (Oa1.out).len_le).mono ?_
      rintro e w2_ ⟨v2_, he, o2_, b2_⟩
      rw [H.out] at he o2_
      (try dsimp only at he o2_)
      subst he
      obtain ⟨Ay, cy, rfl⟩ := o2_.slice
      have B2 := Lib.hid ((B1.out).trans (b2_.mono (B1.out).size))
      have Oa2 := Lib.hid ((Oa1.out).below b2_)
      have Ox2 := Lib.hid ((Ox1.out).below b2_)
      have Oy2 := Lib.hid (o2_.weak (B1.out).size)
      go_wp2_with fail
      refine (sameInts_calls _ _ _ _ ts ts _ (Ox2.out).rds (Oy2.out).rds (Ox2.out).len_le (Oy2.out).len_le).mono ?_
      rintro e w' ⟨he, k3_, rfl⟩
      rw [eqL_refl] at he
      subst he
      have B3 := Lib.hid (below_drewN (B2.out) k3_)
      have Oa3 := Lib.hid ((Oa2.out).drewN k3_)
      have Ox3 := Lib.hid ((Ox2.out).drewN k3_)
      have Oy3 := Lib.hid ((Oy2.out).drewN k3_)
      go_wp2_with fail
      refine (iLatticeFlip_calls Ax cx ts n _ (Ox3.out).rds (Ox3.out).len_le (hT.below (B3.out) hT.lt).1).mono ?_
      rintro e w4_ ⟨v4_, he, o4_, b4_⟩
      rw [H2.out] at he o4_
      (try dsimp only at he o4_)
      subst he
      obtain ⟨Az, cz, rfl⟩ := o4_.slice
      have B4 := Lib.hid ((B3.out).trans (b4_.mono (B3.out).size))
      have Oa4 := Lib.hid ((Oa3.out).below b4_)
      have Ox4 := Lib.hid ((Ox3.out).below b4_)
      have Oy4 := Lib.hid ((Oy3.out).below b4_)
      have Oz4 := Lib.hid (o4_.weak (B3.out).size)
      go_wp2_with fail
      refine (iLatticeInner_calls Ax Ax cx cx ts ts _ (Ox4.out).rds (Ox4.out).len_le (Ox4.out).rds (Ox4.out).len_le).mono ?_
      rintro e w5_ ⟨he, b5_⟩
      rw [HI1.out] at he
      dsimp only at he
      subst he
      have B5 := Lib.hid ((B4.out).trans (b5_.mono (B4.out).size))
      have Oa5 := Lib.hid ((Oa4.out).below b5_)
      have Ox5 := Lib.hid ((Ox4.out).below b5_)
      have Oy5 := Lib.hid ((Oy4.out).below b5_)
      have Oz5 := Lib.hid ((Oz4.out).below b5_)
      go_wp2_with fail
      refine (iLatticeInner_calls Aa Aa ca ca xs xs _ (Oa5.out).rds (Oa5.out).len_le (Oa5.out).rds (Oa5.out).len_le).mono ?_
      rintro e w6_ ⟨he, b6_⟩
      rw [HI2.out] at he
      dsimp only at he
      subst he
      have B6 := Lib.hid ((B5.out).trans (b6_.mono (B5.out).size))
      have Oa6 := Lib.hid ((Oa5.out).below b6_)
      have Ox6 := Lib.hid ((Ox5.out).below b6_)
      have Oy6 := Lib.hid ((Oy5.out).below b6_)
      have Oz6 := Lib.hid ((Oz5.out).below b6_)
      go_wp2_with fail
      refine (sameInts_calls _ _ _ _ xs xs _ (Oz6.out).rds (Oa6.out).rds (Oz6.out).len_le (Oa6.out).len_le).mono ?_
      rintro e w' ⟨he, k7_, rfl⟩
      rw [eqL_refl] at he
      subst he
      have B7 := Lib.hid (below_drewN (B6.out) k7_)
      have Oa7 := Lib.hid ((Oa6.out).drewN k7_)
      have Ox7 := Lib.hid ((Ox6.out).drewN k7_)
      have Oy7 := Lib.hid ((Oy6.out).drewN k7_)
      have Oz7 := Lib.hid ((Oz6.out).drewN k7_)
      go_wp2_with fail
      refine (iCodeIn_calls n _ (hT.below (B7.out) hT.lt)).mono ?_
      rintro e w8_ ⟨he, b8_⟩
      rw [HC.out] at he
      subst he
      have B8 := Lib.hid ((B7.out).trans (b8_.mono (B7.out).size))
      have Oa8 := Lib.hid ((Oa7.out).below b8_)
      have Ox8 := Lib.hid ((Ox7.out).below b8_)
      have Oy8 := Lib.hid ((Oy7.out).below b8_)
      have Oz8 := Lib.hid ((Oz7.out).below b8_)
      go_wp2_with fail
      refine (iLatticeIn_calls Ax cx ts _ (Ox8.out).rds (Ox8.out).len_le (hT.below (B8.out) hT.lt)).mono ?_
      rintro e w9_ ⟨he, b9_⟩
      rw [HL1.out] at he
      subst he
      have B9 := Lib.hid ((B8.out).trans (b9_.mono (B8.out).size))
      have Oa9 := Lib.hid ((Oa8.out).below b9_)
      have Ox9 := Lib.hid ((Ox8.out).below b9_)
      have Oy9 := Lib.hid ((Oy8.out).below b9_)
      have Oz9 := Lib.hid ((Oz8.out).below b9_)
      go_wp2_with fail
      refine (iLatticeIn_calls Aa ca xs _ (Oa9.out).rds (Oa9.out).len_le (hT.below (B9.out) hT.lt)).mono ?_
      rintro e w10_ ⟨he, b10_⟩
      rw [HL2.out] at he
      subst he
      have B10 := Lib.hid ((B9.out).trans (b10_.mono (B9.out).size))
      have Oa10 := Lib.hid ((Oa9.out).below b10_)
      have Ox10 := Lib.hid ((Ox9.out).below b10_)
      have Oy10 := Lib.hid ((Oy9.out).below b10_)
      have Oz10 := Lib.hid ((Oz9.out).below b10_)
      go_wp2_with fail
      go_ret
      first | exact ⟨rfl, B10.out⟩ | exact ⟨rfl, by have hB := B10.out; simp only [World.drewN_drewN] at hB; exact hB⟩
end Go.Proofs.YtmeejnkpaiinaabDoor
