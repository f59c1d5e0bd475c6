/- The walks of promises 70 to 77. -/
import Derived.Test.YtmeejnkpaiinaabDoorC170
import Derived.Test.YtmeejnkpaiinaabDoorC172
import Derived.Test.YtmeejnkpaiinaabDoorC174
import Derived.Test.YtmeejnkpaiinaabDoorC167
import Derived.Test.YtmeejnkpaiinaabDoorW8
namespace Go.Proofs.YtmeejnkpaiinaabDoor
open Go.RowKit
set_option linter.unusedVariables false
set_option linter.unusedSimpArgs false
attribute [local irreducible] cN syn octS octF

theorem sInner_b (A A2 : Option Addr) (c c2 : Nat) (xs ys : List Int) (w : World) (ha : Rds w w.heap.size .i64 A xs) (hx : xs.length ≤ maxLen) (ha2 : Rds w w.heap.size .i64 A2 ys) (hy : ys.length ≤ maxLen) :
    Calls Tryd.prog 13 #[.slice A xs.length c, .slice A2 ys.length c2] w fun e w' => e = .returned (.tuple #[.int .i64 (lvInner xs ys).1, .bool (lvInner xs ys).2]) ∧ Below w.heap.size w w' := iLatticeInner_calls A A2 c c2 xs ys w ha hx ha2 hy
theorem tmod_zero {n b : Int} (hb : b ≠ 0) (h : n % b = 0) : n.tmod b = 0 := by
  obtain ⟨k, rfl⟩ := Int.dvd_of_emod_eq_zero h
  exact Int.mul_tmod_right b k
theorem codeN_of {n : Int} (h : cIn n = true) : ∃ R : Nat, n = (R : Int) ∧ codeN R := by
  simp only [cIn, Bool.and_eq_true] at h
  have hn := (wordB_iff n).1 h.1
  obtain ⟨R, rfl⟩ := Int.eq_ofNat_of_zero_le hn.1
  exact ⟨R, rfl, by omega, h.2⟩
theorem lvAdd_no {xs ys : List Int} (h : (lvAdd xs ys).2 = false) : lvAdd xs ys = ([], false) := by
  unfold lvAdd at h ⊢
  by_cases c : (latB xs && latB ys && vecB (addL xs ys)) = true
  · rw [if_pos c] at h; cases h
  · rw [if_neg c]
theorem lvOct_no {n s : Int} (h : (lvOct n s).2 = false) : lvOct n s = ([], false) := by
  unfold lvOct at h ⊢
  by_cases c : ((cIn n && decide (wt n = 8)) && decide (0 ≤ s ∧ s ≤ 127)) = true
  · rw [if_pos c] at h; cases h
  · rw [if_neg c]
theorem lvOct_yes {n s : Int} (h : (lvOct n s).2 = true) : (cIn n = true ∧ wt n = 8) ∧ (0 ≤ s ∧ s ≤ 127) ∧ lvOct n s = (vL (octV n.toNat s.toNat), true) := by
  unfold lvOct at h ⊢
  by_cases c : ((cIn n && decide (wt n = 8)) && decide (0 ≤ s ∧ s ≤ 127)) = true
  · rw [if_pos c]
    simp only [Bool.and_eq_true, decide_eq_true_eq] at c
    exact ⟨c.1, c.2, rfl⟩
  · rw [if_neg c] at h; cases h
theorem lvAdd_yes {xs ys : List Int} (h : (lvAdd xs ys).2 = true) : latB xs = true ∧ latB ys = true ∧ vecB (addL xs ys) = true := by
  unfold lvAdd at h
  by_cases c : (latB xs && latB ys && vecB (addL xs ys)) = true
  · simp only [Bool.and_eq_true] at c; exact ⟨c.1.1, c.1.2, c.2⟩
  · rw [if_neg c] at h; cases h
theorem inn_rngA {xs ys : List Int} (hx : vecB xs = true) (hy : vecB ys = true) : ∀ a, innL xs ys = a → -240000000000 ≤ a ∧ a ≤ 240000000000 := fun a e => e ▸ innL_rng hx hy
set_option maxHeartbeats 4000000 in
theorem walk_FnFourVector (a0 : Option Addr) (len0 cap0 : Nat) (z0 : List Int) (w : World) (w0 : IsRow .u8 w a0 len0 cap0 z0) (hT : Tab3 w) :
    Calls Tryd.prog 9 #[.slice a0 len0 cap0] w fun e w' => e = .returned (.bool true) ∧ Below w.heap.size w w' := by
  obtain ⟨bs, rfl, hr, hc, hm, hv⟩ := w0.bytes
  have hm' := hm
  unfold maxLen at hm'
  by_cases hbig : 1048576 < bs.length
  · go_enter Tryd.func9, Tryd.ntmps9
    go_wp2_with fail
    go_ret
    exact ⟨rfl, Below.refl _ _⟩
  have hbig' : bs.length ≤ 1048576 := by omega
  clear hbig
  go_enter Tryd.func9, Tryd.ntmps9
  go_wp2_with fail
  refine (DrawLatticeFour_calls _ _ bs _ hr hc hm hv).mono ?_
  rintro e w1 ⟨p, q, f, g, rfl, b1⟩
  have B0 := Lib.hid (b1)
  rcases hb : (decide (0 ≤ p ∧ p ≤ 23) && decide (0 ≤ q ∧ q ≤ 23) && decide (p ≠ q)) with _ | _
  · have H := Lib.hid (show lvFour p q f g = ([], false) by unfold lvFour; rw [hb]; rfl)
    clear hb
    go_wp2_with fail
    refine (iLatticeFour_calls p q f g _ (hT.below (B0.out) hT.lt).1).mono ?_
    rintro e w1_ ⟨v1_, he, o1_, b1_⟩
    rw [H.out] at he o1_
    (try dsimp only at he o1_)
    subst he
    obtain ⟨Ax, cx, rfl⟩ := o1_.slice
    have B1 := Lib.hid ((B0.out).trans (b1_.mono (B0.out).size))
    have Ox1 := Lib.hid (o1_.weak (B0.out).size)
    go_wp2_with fail
    refine (sLatticeFour_calls p q f g _).mono ?_
    rintro e w2_ ⟨v2_, he, o2_, b2_⟩
    rw [H.out] at he o2_
    (try dsimp only at he o2_)
    subst he
    obtain ⟨Ay, cy, rfl⟩ := o2_.slice
    have B2 := Lib.hid ((B1.out).trans (b2_.mono (B1.out).size))
    have Ox2 := Lib.hid ((Ox1.out).below b2_)
    have Oy2 := Lib.hid (o2_.weak (B1.out).size)
    go_wp2_with fail
    refine (sameInts_calls _ _ _ _ [] [] _ (Ox2.out).rds (Oy2.out).rds (Ox2.out).len_le (Oy2.out).len_le).mono ?_
    rintro e w' ⟨he, k3_, rfl⟩
    rw [eqL_refl] at he
    subst he
    have B3 := Lib.hid (below_drewN (B2.out) k3_)
    have Ox3 := Lib.hid ((Ox2.out).drewN k3_)
    have Oy3 := Lib.hid ((Oy2.out).drewN k3_)
    go_wp2_with fail
    refine (sameInts_calls _ _ _ _ [] [] _ (Ox3.out).rds (Oy3.out).rds (Ox3.out).len_le (Oy3.out).len_le).mono ?_
    rintro e w' ⟨he, k4_, rfl⟩
    rw [eqL_refl] at he
    subst he
    have B4 := Lib.hid (below_drewN (B3.out) k4_)
    have Ox4 := Lib.hid ((Ox3.out).drewN k4_)
    have Oy4 := Lib.hid ((Oy3.out).drewN k4_)
    go_wp2_with fail
    go_ret
    first | exact ⟨rfl, B4.out⟩ | exact ⟨rfl, by have hB := B4.out; simp only [World.drewN_drewN] at hB; exact hB⟩
  · have hq : ∀ f g, lvFour p q f g = (vL (fourV p.toNat q.toNat f g), true) := fun f g => by unfold lvFour; rw [hb]; rfl
    simp only [Bool.and_eq_true, decide_eq_true_eq] at hb
    obtain ⟨a, rfl⟩ := Int.eq_ofNat_of_zero_le hb.1.1.1
    obtain ⟨b, rfl⟩ := Int.eq_ofNat_of_zero_le hb.1.2.1
    simp only [Int.toNat_natCast] at hq
    have hab : a ≠ b := fun e => hb.2 (by rw [e])
    have ha : a < 24 := by omega
    have hbb : b < 24 := by omega
    have hl1 := four_lat f g ha hbb hab
    have hl2 := four_lat (!f) (!g) ha hbb hab
    have H := Lib.hid (hq f g)
    have H2 := Lib.hid (hq (!f) (!g))
    have HI := Lib.hid (show lvInner (vL (fourV a b f g)) (vL (fourV a b f g)) = (32, true) by rw [← four_sq f g ha hbb hab]; simp [lvInner, latB_vec hl1])
    have HA := Lib.hid (show lvAdd (vL (fourV a b f g)) (vL (fourV a b (!f) (!g))) = (vL (fun _ => 0), true) by
      have := four_zero a b f g
      unfold lvAdd
      rw [hl1, hl2, this, zero_vec]
      rfl)
    have HZ := Lib.hid (show lvInner (vL fun _ => 0) (vL fun _ => 0) = (0, true) by simp [lvInner, zero_vec, zero_sq])
    have HIN := Lib.hid hl1
    generalize vL (fourV a b f g) = zs at *
    generalize vL (fourV a b (!f) (!g)) = ms at *
    generalize (vL fun _ => (0 : Int)) = os at *
    clear hb hq hab ha hbb hl1 hl2
    go_wp2_with fail
    refine (iLatticeFour_calls a b f g _ (hT.below (B0.out) hT.lt).1).mono ?_
    rintro e w1_ ⟨v1_, he, o1_, b1_⟩
    rw [H.out] at he o1_
    (try dsimp only at he o1_)
    subst he
    obtain ⟨Ax, cx, rfl⟩ := o1_.slice
    have B1 := Lib.hid ((B0.out).trans (b1_.mono (B0.out).size))
    have Ox1 := Lib.hid (o1_.weak (B0.out).size)
    go_wp2_with fail
    refine (sLatticeFour_calls a b f g _).mono ?_
    rintro e w2_ ⟨v2_, he, o2_, b2_⟩
    rw [H.out] at he o2_
    (try dsimp only at he o2_)
    subst he
    obtain ⟨Ay, cy, rfl⟩ := o2_.slice
    have B2 := Lib.hid ((B1.out).trans (b2_.mono (B1.out).size))
    have Ox2 := Lib.hid ((Ox1.out).below b2_)
    have Oy2 := Lib.hid (o2_.weak (B1.out).size)
    go_wp2_with fail
    refine (sameInts_calls _ _ _ _ zs zs _ (Ox2.out).rds (Oy2.out).rds (Ox2.out).len_le (Oy2.out).len_le).mono ?_
    rintro e w' ⟨he, k3_, rfl⟩
    rw [eqL_refl] at he
    subst he
    have B3 := Lib.hid (below_drewN (B2.out) k3_)
    have Ox3 := Lib.hid ((Ox2.out).drewN k3_)
    have Oy3 := Lib.hid ((Oy2.out).drewN k3_)
    go_wp2_with fail
    refine (iLatticeInner_calls Ax Ax cx cx zs zs _ (Ox3.out).rds (Ox3.out).len_le (Ox3.out).rds (Ox3.out).len_le).mono ?_
    rintro e w4_ ⟨he, b4_⟩
    rw [HI.out] at he
    dsimp only at he
    subst he
    have B4 := Lib.hid ((B3.out).trans (b4_.mono (B3.out).size))
    have Ox4 := Lib.hid ((Ox3.out).below b4_)
    have Oy4 := Lib.hid ((Oy3.out).below b4_)
    go_wp2_with fail
    refine (iLatticeFour_calls a b (!f) (!g) _ (hT.below (B4.out) hT.lt).1).mono ?_
    rintro e w5_ ⟨v5_, he, o5_, b5_⟩
    rw [H2.out] at he o5_
    (try dsimp only at he o5_)
    subst he
    obtain ⟨Az, cz, rfl⟩ := o5_.slice
    have B5 := Lib.hid ((B4.out).trans (b5_.mono (B4.out).size))
    have Ox5 := Lib.hid ((Ox4.out).below b5_)
    have Oy5 := Lib.hid ((Oy4.out).below b5_)
    have Oz5 := Lib.hid (o5_.weak (B4.out).size)
    go_wp2_with fail
    refine (iLatticeAdd_calls Ax Az cx cz zs ms _ (Ox5.out).rds (Ox5.out).len_le (Oz5.out).rds (Oz5.out).len_le (hT.below (B5.out) hT.lt)).mono ?_
    rintro e w6_ ⟨v6_, he, o6_, b6_⟩
    rw [HA.out] at he o6_
    (try dsimp only at he o6_)
    subst he
    obtain ⟨Ao, co, rfl⟩ := o6_.slice
    have B6 := Lib.hid ((B5.out).trans (b6_.mono (B5.out).size))
    have Ox6 := Lib.hid ((Ox5.out).below b6_)
    have Oy6 := Lib.hid ((Oy5.out).below b6_)
    have Oz6 := Lib.hid ((Oz5.out).below b6_)
    have Oo6 := Lib.hid (o6_.weak (B5.out).size)
    go_wp2_with fail
    refine (iLatticeInner_calls Ao Ao co co os os _ (Oo6.out).rds (Oo6.out).len_le (Oo6.out).rds (Oo6.out).len_le).mono ?_
    rintro e w7_ ⟨he, b7_⟩
    rw [HZ.out] at he
    dsimp only at he
    subst he
    have B7 := Lib.hid ((B6.out).trans (b7_.mono (B6.out).size))
    have Ox7 := Lib.hid ((Ox6.out).below b7_)
    have Oy7 := Lib.hid ((Oy6.out).below b7_)
    have Oz7 := Lib.hid ((Oz6.out).below b7_)
    have Oo7 := Lib.hid ((Oo6.out).below b7_)
    go_wp2_with fail
    refine (iLatticeIn_calls Ax cx zs _ (Ox7.out).rds (Ox7.out).len_le (hT.below (B7.out) hT.lt)).mono ?_
    rintro e w8_ ⟨he, b8_⟩
    rw [HIN.out] at he
    subst he
    have B8 := Lib.hid ((B7.out).trans (b8_.mono (B7.out).size))
    have Ox8 := Lib.hid ((Ox7.out).below b8_)
    have Oy8 := Lib.hid ((Oy7.out).below b8_)
    have Oz8 := Lib.hid ((Oz7.out).below b8_)
    have Oo8 := Lib.hid ((Oo7.out).below b8_)
    go_wp2_with fail
    go_ret
    first | exact ⟨rfl, B8.out⟩ | exact ⟨rfl, by have hB := B8.out; simp only [World.drewN_drewN] at hB; exact hB⟩
end Go.Proofs.YtmeejnkpaiinaabDoor
