/- The walk of promise 54. -/
import Derived.Test.YtakefnfhjiodnaaDoorC119
import Derived.Test.YtakefnfhjiodnaaDoorC109
import Derived.Test.YtakefnfhjiodnaaDoorC115
import Derived.Test.YtakefnfhjiodnaaDoorM33
import Derived.Test.YtakefnfhjiodnaaDoorQ3
import Derived.Test.YtakefnfhjiodnaaDoorW8
namespace Go.Proofs.YtakefnfhjiodnaaDoor
open Go.RowKit
set_option linter.unusedVariables false
attribute [local irreducible] cN syn

theorem turned_facts {xs : List Int} (h : permB xs = true) : ∃ ts cs, plTurned xs = (ts, true) ∧ plTurned ts = (xs, true) ∧ plCycles ts = (cs, true) ∧ plCycles xs = (cs, true) ∧ keepsB ts = keepsB xs := by
  obtain ⟨hP, e⟩ := permB_perm h
  have ht := turnN_perm hP
  have hb := permB_of ht
  refine ⟨intP (turnN (natP xs)), cycI xs, by simp [plTurned, h], ?_, ?_, by simp [plCycles, h], ?_⟩
  · unfold plTurned
    rw [hb, natP_intP, turn_turn hP, e]
    rfl
  · unfold plCycles
    rw [hb]
    have : cycI (intP (turnN (natP xs))) = cycI xs := by
      unfold cycI
      rw [natP_intP, rawC_turn hP]
    rw [this]
    rfl
  · rw [Bool.eq_iff_iff, keepsB_iff hb, keepsB_iff h, natP_intP]
    exact ⟨fun k => by have := KeepsN.turn ht k; rwa [turn_turn hP] at this, fun k => KeepsN.turn hP k⟩
set_option maxHeartbeats 4000000 in
theorem walk_FnTurned (a0 : Option Addr) (len0 cap0 : Nat) (z0 : List Int) (w : World) (w0 : IsRow .u8 w a0 len0 cap0 z0) (hT : Tab3 w) :
    Calls Tryd.prog 5 #[.slice a0 len0 cap0] w fun e w' => e = .returned (.bool true) ∧ Below w.heap.size w w' := by
  obtain ⟨bs, rfl, hr, hc, hm, hv⟩ := w0.bytes
  have hm' := hm
  unfold maxLen at hm'
  by_cases hbig : 1048576 < bs.length
  · go_enter Tryd.func5, Tryd.ntmps5
    go_wp2_with fail
    go_ret
    exact ⟨rfl, Below.refl _ _⟩
  have hbig' : bs.length ≤ 1048576 := by omega
  clear hbig
  go_enter Tryd.func5, Tryd.ntmps5
  go_wp2_with fail
  refine (DrawPermTurned_calls _ _ bs _ hr hc hm hv).mono ?_
  rintro e w1 ⟨v, xs, rfl, o1, hl, b1⟩
  obtain ⟨Aa, ca, rfl⟩ := o1.slice
  have B0 := Lib.hid (b1)
  have Oa0 := Lib.hid (o1)
  rcases hb : permB xs with _ | _
  · have H := Lib.hid (show plTurned xs = ([], false) by simp [plTurned, hb])
    clear hb
    go_wp2_with fail
    refine (iPermTurned_calls Aa ca xs _ (Oa0.out).rds (Oa0.out).len_le).mono ?_
    rintro e w1_ ⟨v1_, he, o1_, b1_⟩
    rw [H.out] at he o1_
    dsimp only at he o1_
    subst he
    obtain ⟨Ax, cx, rfl⟩ := o1_.slice
    have B1 := Lib.hid ((B0.out).trans (b1_.mono (B0.out).size))
    have Oa1 := Lib.hid ((Oa0.out).below b1_)
    have Ox1 := Lib.hid (o1_.weak (B0.out).size)
    go_wp2_with fail
    refine (sPermTurned_calls Aa ca xs _ (Oa1.out).rds (Oa1.out).len_le).mono ?_
    rintro e w2_ ⟨v2_, he, o2_, b2_⟩
    rw [H.out] at he o2_
    dsimp only at he o2_
    subst he
    obtain ⟨Ay, cy, rfl⟩ := o2_.slice
    have B2 := Lib.hid ((B1.out).trans (b2_.mono (B1.out).size))
    have Oa2 := Lib.hid ((Oa1.out).below b2_)
    have Ox2 := Lib.hid ((Ox1.out).below b2_)
    have Oy2 := Lib.hid (o2_.weak (B1.out).size)
    go_wp2_with fail
    refine (sameInts_calls _ _ _ _ [] [] _ (Ox2.out).rds (Oy2.out).rds (Ox2.out).len_le (Oy2.out).len_le).mono ?_
    rintro e w' ⟨he, k3_, rfl⟩
    rw [eqL_refl] at he
    subst he
    have B3 := Lib.hid (below_drewN (B2.out) k3_)
    have Oa3 := Lib.hid ((Oa2.out).drewN k3_)
    have Ox3 := Lib.hid ((Ox2.out).drewN k3_)
    have Oy3 := Lib.hid ((Oy2.out).drewN k3_)
    go_wp2_with fail
    refine (sameInts_calls _ _ _ _ [] [] _ (Ox3.out).rds (Oy3.out).rds (Ox3.out).len_le (Oy3.out).len_le).mono ?_
    rintro e w' ⟨he, k4_, rfl⟩
    rw [eqL_refl] at he
    subst he
    have B4 := Lib.hid (below_drewN (B3.out) k4_)
    have Oa4 := Lib.hid ((Oa3.out).drewN k4_)
    have Ox4 := Lib.hid ((Ox3.out).drewN k4_)
    have Oy4 := Lib.hid ((Oy3.out).drewN k4_)
    go_wp2_with fail
    go_ret
    first | exact ⟨rfl, B4.out⟩ | exact ⟨rfl, by have hB := B4.out; simp only [World.drewN_drewN] at hB; exact hB⟩
  · obtain ⟨ts, cs, f1, f2, f3, f4, f5⟩ := turned_facts hb
    have F1 := Lib.hid f1
    have F2 := Lib.hid f2
    have F3 := Lib.hid f3
    have F4 := Lib.hid f4
    obtain ⟨kb, hk⟩ : ∃ kb, keepsB xs = kb := ⟨_, rfl⟩
    rw [hk] at f5
    have HK := Lib.hid hk
    clear hb f1 f2 f3 f4 hk
    rcases kb with _ | _
    · have F5 := Lib.hid f5
      clear f5
      go_wp2_with fail
      refine (iPermTurned_calls Aa ca xs _ (Oa0.out).rds (Oa0.out).len_le).mono ?_
      rintro e w1_ ⟨v1_, he, o1_, b1_⟩
      rw [F1.out] at he o1_
      dsimp only at he o1_
      subst he
      obtain ⟨Ax, cx, rfl⟩ := o1_.slice
      have B1 := Lib.hid ((B0.out).trans (b1_.mono (B0.out).size))
      have Oa1 := Lib.hid ((Oa0.out).below b1_)
      have Ox1 := Lib.hid (o1_.weak (B0.out).size)
      go_wp2_with fail
      refine (sPermTurned_calls Aa ca xs _ (Oa1.out).rds (Oa1.out).len_le).mono ?_
      rintro e w2_ ⟨v2_, he, o2_, b2_⟩
      rw [F1.out] at he o2_
      dsimp only at he o2_
      subst he
      obtain ⟨Ay, cy, rfl⟩ := o2_.slice
      have B2 := Lib.hid ((B1.out).trans (b2_.mono (B1.out).size))
      have Oa2 := Lib.hid ((Oa1.out).below b2_)
      have Ox2 := Lib.hid ((Ox1.out).below b2_)
      have Oy2 := Lib.hid (o2_.weak (B1.out).size)
      go_wp2_with fail
      refine (sameInts_calls _ _ _ _ ts ts _ (Ox2.out).rds (Oy2.out).rds (Ox2.out).len_le (Oy2.out).len_le).mono ?_
      rintro e w' ⟨he, k3_, rfl⟩
      rw [eqL_refl] at he
      subst he
      have B3 := Lib.hid (below_drewN (B2.out) k3_)
      have Oa3 := Lib.hid ((Oa2.out).drewN k3_)
      have Ox3 := Lib.hid ((Ox2.out).drewN k3_)
      have Oy3 := Lib.hid ((Oy2.out).drewN k3_)
      go_wp2_with fail
      refine (iPermTurned_calls Ax cx ts _ (Ox3.out).rds (Ox3.out).len_le).mono ?_
      rintro e w4_ ⟨v4_, he, o4_, b4_⟩
      rw [F2.out] at he o4_
      dsimp only at he o4_
      subst he
      obtain ⟨Az, cz, rfl⟩ := o4_.slice
      have B4 := Lib.hid ((B3.out).trans (b4_.mono (B3.out).size))
      have Oa4 := Lib.hid ((Oa3.out).below b4_)
      have Ox4 := Lib.hid ((Ox3.out).below b4_)
      have Oy4 := Lib.hid ((Oy3.out).below b4_)
      have Oz4 := Lib.hid (o4_.weak (B3.out).size)
      go_wp2_with fail
      refine (iPermCycles_calls Ax cx ts _ (Ox4.out).rds (Ox4.out).len_le).mono ?_
      rintro e w5_ ⟨v5_, he, o5_, b5_⟩
      rw [F3.out] at he o5_
      dsimp only at he o5_
      subst he
      obtain ⟨Ap, cp, rfl⟩ := o5_.slice
      have B5 := Lib.hid ((B4.out).trans (b5_.mono (B4.out).size))
      have Oa5 := Lib.hid ((Oa4.out).below b5_)
      have Ox5 := Lib.hid ((Ox4.out).below b5_)
      have Oy5 := Lib.hid ((Oy4.out).below b5_)
      have Oz5 := Lib.hid ((Oz4.out).below b5_)
      have Op5 := Lib.hid (o5_.weak (B4.out).size)
      go_wp2_with fail
      refine (iPermCycles_calls Aa ca xs _ (Oa5.out).rds (Oa5.out).len_le).mono ?_
      rintro e w6_ ⟨v6_, he, o6_, b6_⟩
      rw [F4.out] at he o6_
      dsimp only at he o6_
      subst he
      obtain ⟨Aq, cq, rfl⟩ := o6_.slice
      have B6 := Lib.hid ((B5.out).trans (b6_.mono (B5.out).size))
      have Oa6 := Lib.hid ((Oa5.out).below b6_)
      have Ox6 := Lib.hid ((Ox5.out).below b6_)
      have Oy6 := Lib.hid ((Oy5.out).below b6_)
      have Oz6 := Lib.hid ((Oz5.out).below b6_)
      have Op6 := Lib.hid ((Op5.out).below b6_)
      have Oq6 := Lib.hid (o6_.weak (B5.out).size)
      go_wp2_with fail
      refine (sameInts_calls _ _ _ _ xs xs _ (Oz6.out).rds (Oa6.out).rds (Oz6.out).len_le (Oa6.out).len_le).mono ?_
      rintro e w' ⟨he, k7_, rfl⟩
      rw [eqL_refl] at he
      subst he
      have B7 := Lib.hid (below_drewN (B6.out) k7_)
      have Oa7 := Lib.hid ((Oa6.out).drewN k7_)
      have Ox7 := Lib.hid ((Ox6.out).drewN k7_)
      have Oy7 := Lib.hid ((Oy6.out).drewN k7_)
      have Oz7 := Lib.hid ((Oz6.out).drewN k7_)
      have Op7 := Lib.hid ((Op6.out).drewN k7_)
      have Oq7 := Lib.hid ((Oq6.out).drewN k7_)
      go_wp2_with fail
      refine (sameInts_calls _ _ _ _ cs cs _ (Op7.out).rds (Oq7.out).rds (Op7.out).len_le (Oq7.out).len_le).mono ?_
      rintro e w' ⟨he, k8_, rfl⟩
      rw [eqL_refl] at he
      subst he
      have B8 := Lib.hid (below_drewN (B7.out) k8_)
      have Oa8 := Lib.hid ((Oa7.out).drewN k8_)
      have Ox8 := Lib.hid ((Ox7.out).drewN k8_)
      have Oy8 := Lib.hid ((Oy7.out).drewN k8_)
      have Oz8 := Lib.hid ((Oz7.out).drewN k8_)
      have Op8 := Lib.hid ((Op7.out).drewN k8_)
      have Oq8 := Lib.hid ((Oq7.out).drewN k8_)
      have hZ := B8.out
      simp only [World.drewN_drewN] at hZ
      have B9 := Lib.hid hZ
      clear hZ
      have hZ := Oa8.out
      simp only [World.drewN_drewN] at hZ
      have Oa9 := Lib.hid hZ
      clear hZ
      have hZ := Ox8.out
      simp only [World.drewN_drewN] at hZ
      have Ox9 := Lib.hid hZ
      clear hZ
      have hZ := Oy8.out
      simp only [World.drewN_drewN] at hZ
      have Oy9 := Lib.hid hZ
      clear hZ
      have hZ := Oz8.out
      simp only [World.drewN_drewN] at hZ
      have Oz9 := Lib.hid hZ
      clear hZ
      have hZ := Op8.out
      simp only [World.drewN_drewN] at hZ
      have Op9 := Lib.hid hZ
      clear hZ
      have hZ := Oq8.out
      simp only [World.drewN_drewN] at hZ
      have Oq9 := Lib.hid hZ
      clear hZ
      go_wp2_with fail
      refine (iPermKeeps_calls Ax cx ts _ (Ox9.out).rds (Ox9.out).len_le (hT.below (B9.out) hT.lt)).mono ?_
      rintro e w9_ ⟨he, b9_⟩
      rw [F5.out] at he
      subst he
      have B10 := Lib.hid ((B9.out).trans (b9_.mono (B9.out).size))
      have Oa10 := Lib.hid ((Oa9.out).below b9_)
      have Ox10 := Lib.hid ((Ox9.out).below b9_)
      have Oy10 := Lib.hid ((Oy9.out).below b9_)
      have Oz10 := Lib.hid ((Oz9.out).below b9_)
      have Op10 := Lib.hid ((Op9.out).below b9_)
      have Oq10 := Lib.hid ((Oq9.out).below b9_)
      go_wp2_with fail
      refine (iPermKeeps_calls Aa ca xs _ (Oa10.out).rds (Oa10.out).len_le (hT.below (B10.out) hT.lt)).mono ?_
      rintro e w10_ ⟨he, b10_⟩
      rw [HK.out] at he
      subst he
      have B11 := Lib.hid ((B10.out).trans (b10_.mono (B10.out).size))
      have Oa11 := Lib.hid ((Oa10.out).below b10_)
      have Ox11 := Lib.hid ((Ox10.out).below b10_)
      have Oy11 := Lib.hid ((Oy10.out).below b10_)
      have Oz11 := Lib.hid ((Oz10.out).below b10_)
      have Op11 := Lib.hid ((Op10.out).below b10_)
      have Oq11 := Lib.hid ((Oq10.out).below b10_)
      go_wp2_with fail
      go_ret
      first | exact ⟨rfl, B11.out⟩ | exact ⟨rfl, by have hB := B11.out; simp only [World.drewN_drewN] at hB; exact hB⟩
    · have F5 := Lib.hid f5
      clear f5
      go_wp2_with fail
      refine (iPermTurned_calls Aa ca xs _ (Oa0.out).rds (Oa0.out).len_le).mono ?_
      rintro e w1_ ⟨v1_, he, o1_, b1_⟩
      rw [F1.out] at he o1_
      dsimp only at he o1_
      subst he
      obtain ⟨Ax, cx, rfl⟩ := o1_.slice
      have B1 := Lib.hid ((B0.out).trans (b1_.mono (B0.out).size))
      have Oa1 := Lib.hid ((Oa0.out).below b1_)
      have Ox1 := Lib.hid (o1_.weak (B0.out).size)
      go_wp2_with fail
      refine (sPermTurned_calls Aa ca xs _ (Oa1.out).rds (Oa1.out).len_le).mono ?_
      rintro e w2_ ⟨v2_, he, o2_, b2_⟩
      rw [F1.out] at he o2_
      dsimp only at he o2_
      subst he
      obtain ⟨Ay, cy, rfl⟩ := o2_.slice
      have B2 := Lib.hid ((B1.out).trans (b2_.mono (B1.out).size))
      have Oa2 := Lib.hid ((Oa1.out).below b2_)
      have Ox2 := Lib.hid ((Ox1.out).below b2_)
      have Oy2 := Lib.hid (o2_.weak (B1.out).size)
      go_wp2_with fail
      refine (sameInts_calls _ _ _ _ ts ts _ (Ox2.out).rds (Oy2.out).rds (Ox2.out).len_le (Oy2.out).len_le).mono ?_
      rintro e w' ⟨he, k3_, rfl⟩
      rw [eqL_refl] at he
      subst he
      have B3 := Lib.hid (below_drewN (B2.out) k3_)
      have Oa3 := Lib.hid ((Oa2.out).drewN k3_)
      have Ox3 := Lib.hid ((Ox2.out).drewN k3_)
      have Oy3 := Lib.hid ((Oy2.out).drewN k3_)
      go_wp2_with fail
      refine (iPermTurned_calls Ax cx ts _ (Ox3.out).rds (Ox3.out).len_le).mono ?_
      rintro e w4_ ⟨v4_, he, o4_, b4_⟩
      rw [F2.out] at he o4_
      dsimp only at he o4_
      subst he
      obtain ⟨Az, cz, rfl⟩ := o4_.slice
      have B4 := Lib.hid ((B3.out).trans (b4_.mono (B3.out).size))
      have Oa4 := Lib.hid ((Oa3.out).below b4_)
      have Ox4 := Lib.hid ((Ox3.out).below b4_)
      have Oy4 := Lib.hid ((Oy3.out).below b4_)
      have Oz4 := Lib.hid (o4_.weak (B3.out).size)
      go_wp2_with fail
      refine (iPermCycles_calls Ax cx ts _ (Ox4.out).rds (Ox4.out).len_le).mono ?_
      rintro e w5_ ⟨v5_, he, o5_, b5_⟩
      rw [F3.out] at he o5_
      dsimp only at he o5_
      subst he
      obtain ⟨Ap, cp, rfl⟩ := o5_.slice
      have B5 := Lib.hid ((B4.out).trans (b5_.mono (B4.out).size))
      have Oa5 := Lib.hid ((Oa4.out).below b5_)
      have Ox5 := Lib.hid ((Ox4.out).below b5_)
      have Oy5 := Lib.hid ((Oy4.out).below b5_)
      have Oz5 := Lib.hid ((Oz4.out).below b5_)
      have Op5 := Lib.hid (o5_.weak (B4.out).size)
      go_wp2_with fail
      refine (iPermCycles_calls Aa ca xs _ (Oa5.out).rds (Oa5.out).len_le).mono ?_
      rintro e w6_ ⟨v6_, he, o6_, b6_⟩
      rw [F4.out] at he o6_
      dsimp only at he o6_
      subst he
      obtain ⟨Aq, cq, rfl⟩ := o6_.slice
      have B6 := Lib.hid ((B5.out).trans (b6_.mono (B5.out).size))
      have Oa6 := Lib.hid ((Oa5.out).below b6_)
      have Ox6 := Lib.hid ((Ox5.out).below b6_)
      have Oy6 := Lib.hid ((Oy5.out).below b6_)
      have Oz6 := Lib.hid ((Oz5.out).below b6_)
      have Op6 := Lib.hid ((Op5.out).below b6_)
      have Oq6 := Lib.hid (o6_.weak (B5.out).size)
      go_wp2_with fail
      refine (sameInts_calls _ _ _ _ xs xs _ (Oz6.out).rds (Oa6.out).rds (Oz6.out).len_le (Oa6.out).len_le).mono ?_
      rintro e w' ⟨he, k7_, rfl⟩
      rw [eqL_refl] at he
      subst he
      have B7 := Lib.hid (below_drewN (B6.out) k7_)
      have Oa7 := Lib.hid ((Oa6.out).drewN k7_)
      have Ox7 := Lib.hid ((Ox6.out).drewN k7_)
      have Oy7 := Lib.hid ((Oy6.out).drewN k7_)
      have Oz7 := Lib.hid ((Oz6.out).drewN k7_)
      have Op7 := Lib.hid ((Op6.out).drewN k7_)
      have Oq7 := Lib.hid ((Oq6.out).drewN k7_)
      go_wp2_with fail
      refine (sameInts_calls _ _ _ _ cs cs _ (Op7.out).rds (Oq7.out).rds (Op7.out).len_le (Oq7.out).len_le).mono ?_
      rintro e w' ⟨he, k8_, rfl⟩
      rw [eqL_refl] at he
      subst he
      have B8 := Lib.hid (below_drewN (B7.out) k8_)
      have Oa8 := Lib.hid ((Oa7.out).drewN k8_)
      have Ox8 := Lib.hid ((Ox7.out).drewN k8_)
      have Oy8 := Lib.hid ((Oy7.out).drewN k8_)
      have Oz8 := Lib.hid ((Oz7.out).drewN k8_)
      have Op8 := Lib.hid ((Op7.out).drewN k8_)
      have Oq8 := Lib.hid ((Oq7.out).drewN k8_)
      have hZ := B8.out
      simp only [World.drewN_drewN] at hZ
      have B9 := Lib.hid hZ
      clear hZ
      have hZ := Oa8.out
      simp only [World.drewN_drewN] at hZ
      have Oa9 := Lib.hid hZ
      clear hZ
      have hZ := Ox8.out
      simp only [World.drewN_drewN] at hZ
      have Ox9 := Lib.hid hZ
      clear hZ
      have hZ := Oy8.out
      simp only [World.drewN_drewN] at hZ
      have Oy9 := Lib.hid hZ
      clear hZ
      have hZ := Oz8.out
      simp only [World.drewN_drewN] at hZ
      have Oz9 := Lib.hid hZ
      clear hZ
      have hZ := Op8.out
      simp only [World.drewN_drewN] at hZ
      have Op9 := Lib.hid hZ
      clear hZ
      have hZ := Oq8.out
      simp only [World.drewN_drewN] at hZ
      have Oq9 := Lib.hid hZ
      clear hZ
      go_wp2_with fail
      refine (iPermKeeps_calls Ax cx ts _ (Ox9.out).rds (Ox9.out).len_le (hT.below (B9.out) hT.lt)).mono ?_
      rintro e w9_ ⟨he, b9_⟩
      rw [F5.out] at he
      subst he
      have B10 := Lib.hid ((B9.out).trans (b9_.mono (B9.out).size))
      have Oa10 := Lib.hid ((Oa9.out).below b9_)
      have Ox10 := Lib.hid ((Ox9.out).below b9_)
      have Oy10 := Lib.hid ((Oy9.out).below b9_)
      have Oz10 := Lib.hid ((Oz9.out).below b9_)
      have Op10 := Lib.hid ((Op9.out).below b9_)
      have Oq10 := Lib.hid ((Oq9.out).below b9_)
      go_wp2_with fail
      refine (iPermKeeps_calls Aa ca xs _ (Oa10.out).rds (Oa10.out).len_le (hT.below (B10.out) hT.lt)).mono ?_
      rintro e w10_ ⟨he, b10_⟩
      rw [HK.out] at he
      subst he
      have B11 := Lib.hid ((B10.out).trans (b10_.mono (B10.out).size))
      have Oa11 := Lib.hid ((Oa10.out).below b10_)
      have Ox11 := Lib.hid ((Ox10.out).below b10_)
      have Oy11 := Lib.hid ((Oy10.out).below b10_)
      have Oz11 := Lib.hid ((Oz10.out).below b10_)
      have Op11 := Lib.hid ((Op10.out).below b10_)
      have Oq11 := Lib.hid ((Oq10.out).below b10_)
      go_wp2_with fail
      go_ret
      first | exact ⟨rfl, B11.out⟩ | exact ⟨rfl, by have hB := B11.out; simp only [World.drewN_drewN] at hB; exact hB⟩
end Go.Proofs.YtakefnfhjiodnaaDoor
