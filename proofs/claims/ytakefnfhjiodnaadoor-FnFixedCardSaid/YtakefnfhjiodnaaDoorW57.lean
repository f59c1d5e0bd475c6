/- The walk of promise 58. -/
import Derived.Test.YtakefnfhjiodnaaDoorC119
import Derived.Test.YtakefnfhjiodnaaDoorC109
import Derived.Test.YtakefnfhjiodnaaDoorC108
import Derived.Test.YtakefnfhjiodnaaDoorC120
import Derived.Test.YtakefnfhjiodnaaDoorQ8
import Derived.Test.YtakefnfhjiodnaaDoorC126
import Derived.Test.YtakefnfhjiodnaaDoorQ3
import Derived.Test.YtakefnfhjiodnaaDoorW8
namespace Go.Proofs.YtakefnfhjiodnaaDoor
open Go.RowKit
set_option linter.unusedVariables false
attribute [local irreducible] cN syn octS octF

theorem mov_fix {P : List Nat} (hP : PermN P) : movN P (fixTo P 24) = fixTo P 24 := by
  have h1 := movN_lt hP (fixTo P 24)
  have h2 := fixTo_lt P 24
  rw [show (2 : Nat) ^ 24 = 16777216 from rfl] at h2
  apply Nat.eq_of_testBit_eq
  intro i
  by_cases hi : i < 24
  · have hq := idx_lt hP i hi
    have hb := movN_bit hP (fixTo P 24) (P.idxOf i) hq
    rw [get_idx hP i hi] at hb
    rw [hb, fixTo_tb, fixTo_tb]
    by_cases e : P.getD (P.idxOf i) 0 = P.idxOf i
    · have e2 : P.idxOf i = i := e.symm.trans (get_idx hP i hi)
      rw [e2]
    · have e3 : ¬ P.getD i 0 = i := fun e3 => e (by
        have := hP.inj hi hq (e3.trans (get_idx hP i hi).symm)
        rw [← this]; exact e3)
      rw [decide_eq_false e, decide_eq_false e3, Bool.and_false, Bool.and_false]
  · have hpow : (2 : Nat) ^ 24 ≤ 2 ^ i := Nat.pow_le_pow_right (by decide) (by omega)
    rw [show (2 : Nat) ^ 24 = 16777216 from rfl] at hpow
    rw [Nat.testBit_lt_two_pow (by omega), Nat.testBit_lt_two_pow (by omega)]
theorem fixed_facts {xs : List Int} (h : permB xs = true) : ∃ f, plFixed xs = (f, true) ∧ IsW f ∧ plWord xs f = (f, true) ∧ (5 ≤ (plI f.toNat).length → keepsB xs = true → ((plI f.toNat).take 5).length = 5 ∧ ∃ v, oThrough ((plI f.toNat).take 5) = (v, true) ∧ plWord xs v = (v, true)) := by
  obtain ⟨hP, _⟩ := permB_perm h
  have hr := fixTo_rng (natP xs) 24 (by omega)
  have hw : ∀ R : Nat, R < 16777216 → plWord xs (R : Int) = (((movN (natP xs) R : Nat) : Int), true) := fun R hR => by
    have hwd : wdB (R : Int) = true := by simp [wdB]; omega
    simp [plWord, h, hwd]
  have hF : fixTo (natP xs) 24 < 16777216 := by omega
  refine ⟨((fixTo (natP xs) 24 : Nat) : Int), by simp [plFixed, h], ⟨hr.1, by omega⟩, by rw [hw _ hF, mov_fix hP], ?_⟩
  rw [Int.toNat_natCast]
  intro h5 hk
  have hK := (keepsB_iff h).1 hk
  have hfx := fix_Fixes (natP xs)
  generalize fixTo (natP xs) 24 = F at *
  have hT := firstW_lt F 5 hF
  have hsub := first_sub F 5 hF
  have hpl : plI (firstW F 5) = (plI F).take 5 := by unfold plI; rw [pl_firstW F 5 hF, List.map_take]
  have hlen : ((plI F).take 5).length = 5 := by rw [List.length_take]; omega
  rw [← hpl] at hlen ⊢
  have hwt := wt_plI ((firstW F 5 : Nat) : Int) (by omega)
  rw [Int.toNat_natCast, hlen] at hwt
  have hwo := wof_plI ((firstW F 5 : Nat) : Int) ⟨by omega, by omega⟩
  rw [Int.toNat_natCast] at hwo
  generalize firstW F 5 = T at *
  have h1 := oWith_five (t := (T : Int)) ⟨by omega, by omega⟩ (by omega)
  refine ⟨hlen, (oWith (T : Int)).getD 0 0, by simp [oThrough, hwo, hlen], ?_⟩
  have hm : (oWith (T : Int)).getD 0 0 ∈ oWith (T : Int) := by rw [← getD_at _ 0 (by omega)]; exact List.getElem_mem _
  generalize (oWith (T : Int)).getD 0 0 = o at *
  obtain ⟨ho1, ho2⟩ := oWith_mem.1 hm
  have hor := ho1.rng
  obtain ⟨O, rfl⟩ := Int.eq_ofNat_of_zero_le hor.1
  have hO : O < 16777216 := by omega
  rw [andI_natP] at ho2
  have hOT : O &&& T = T := by omega
  have hp8 : pop O = 8 := by have := ho1.w8; rw [wt_pop] at this; omega
  have hp5 : pop T = 5 := by rw [wt_pop] at hwt; omega
  have hsy : syn O = 0 := by
    obtain ⟨m, hm, e, _⟩ := ho1
    rw [codeOf_cN m hm] at e
    have : O = cN m := by omega
    rw [this]; exact syn_cN m
  have hoc : isOc O = true := by simp [isOc, hO, hsy, hp8]
  have hle : 5 ≤ pop (O &&& F) := by
    rw [← hp5]
    refine pop_le_of fun q hq hb => ?_
    have hb1 : (O &&& T).testBit q = true := by rw [hOT]; exact hb
    have hb2 : (F &&& T).testBit q = true := by rw [hsub]; exact hb
    rw [Nat.testBit_and, Bool.and_eq_true] at hb1 hb2 ⊢
    exact ⟨hb1.1, hb2.1⟩
  rw [hw O hO, hfx.octad hP hK O hoc hle]
set_option maxHeartbeats 4000000 in
theorem walk_FnFixed (a0 : Option Addr) (len0 cap0 : Nat) (z0 : List Int) (w : World) (w0 : IsRow .u8 w a0 len0 cap0 z0) (hT : Tab3 w) :
    Calls Tryd.prog 8 #[.slice a0 len0 cap0] w fun e w' => e = .returned (.bool true) ∧ Below w.heap.size w w' := by
  obtain ⟨bs, rfl, hr, hc, hm, hv⟩ := w0.bytes
  have hm' := hm
  unfold maxLen at hm'
  by_cases hbig : 1048576 < bs.length
  · go_enter Tryd.func8, Tryd.ntmps8
    go_wp2_with fail
    go_ret
    exact ⟨rfl, Below.refl _ _⟩
  have hbig' : bs.length ≤ 1048576 := by omega
  clear hbig
  go_enter Tryd.func8, Tryd.ntmps8
  go_wp2_with fail
  refine (DrawPermFixed_calls _ _ bs _ hr hc hm hv).mono ?_
  rintro e w1 ⟨v, xs, rfl, o1, hl, b1⟩
  obtain ⟨Aa, ca, rfl⟩ := o1.slice
  have B0 := Lib.hid (b1)
  have Oa0 := Lib.hid (o1)
  rcases hb : permB xs with _ | _
  · have H := Lib.hid (show plFixed xs = (0, false) by simp [plFixed, hb])
    clear hb
    go_wp2_with fail
    refine (iPermFixed_calls Aa ca xs _ (Oa0.out).rds (Oa0.out).len_le).mono ?_
    rintro e w1_ ⟨he, b1_⟩
    rw [H.out] at he
    dsimp only at he
    subst he
    have B1 := Lib.hid ((B0.out).trans (b1_.mono (B0.out).size))
    have Oa1 := Lib.hid ((Oa0.out).below b1_)
    go_wp2_with fail
    refine (sPermFixed_b Aa ca xs _ (Oa1.out).rds (Oa1.out).len_le).mono ?_
    rintro e w2_ ⟨he, b2_⟩
    rw [H.out] at he
    dsimp only at he
    subst he
    have B2 := Lib.hid ((B1.out).trans (b2_.mono (B1.out).size))
    have Oa2 := Lib.hid ((Oa1.out).below b2_)
    go_wp2_with fail
    go_ret
    first | exact ⟨rfl, B2.out⟩ | exact ⟨rfl, by have hB := B2.out; simp only [World.drewN_drewN] at hB; exact hB⟩
  · obtain ⟨f, f1, hf, f2, f3⟩ := fixed_facts hb
    have F1 := Lib.hid f1
    have F2 := Lib.hid f2
    have F3 := Lib.hid f3
    clear hb f1 f2 f3
    go_wp2_with fail
    refine (iPermFixed_calls Aa ca xs _ (Oa0.out).rds (Oa0.out).len_le).mono ?_
    rintro e w1_ ⟨he, b1_⟩
    rw [F1.out] at he
    dsimp only at he
    subst he
    have B1 := Lib.hid ((B0.out).trans (b1_.mono (B0.out).size))
    have Oa1 := Lib.hid ((Oa0.out).below b1_)
    go_wp2_with fail
    refine (sPermFixed_b Aa ca xs _ (Oa1.out).rds (Oa1.out).len_le).mono ?_
    rintro e w2_ ⟨he, b2_⟩
    rw [F1.out] at he
    dsimp only at he
    subst he
    have B2 := Lib.hid ((B1.out).trans (b2_.mono (B1.out).size))
    have Oa2 := Lib.hid ((Oa1.out).below b2_)
    go_wp2_with fail
    refine (iPermWord_calls Aa ca xs f _ (Oa2.out).rds (Oa2.out).len_le (hT.below (B2.out) hT.lt).1).mono ?_
    rintro e w3_ ⟨he, b3_⟩
    rw [F2.out] at he
    dsimp only at he
    subst he
    have B3 := Lib.hid ((B2.out).trans (b3_.mono (B2.out).size))
    have Oa3 := Lib.hid ((Oa2.out).below b3_)
    go_wp2_with fail
    refine (iWordPlaces_ok f _ hf (hT.below (B3.out) hT.lt).1).mono ?_
    rintro e w4_ ⟨v4_, he, o4_, b4_⟩
    try dsimp only at he o4_
    subst he
    obtain ⟨Ax, cx, rfl⟩ := o4_.slice
    have B4 := Lib.hid ((B3.out).trans (b4_.mono (B3.out).size))
    have Oa4 := Lib.hid ((Oa3.out).below b4_)
    have Ox4 := Lib.hid (o4_.weak (B3.out).size)
    generalize plI f.toNat = zs at *
    by_cases h5 : zs.length < 5
    · have h5i : (zs.length : Int) < 5 := by omega
      go_wp2_with fail
      go_ret
      first | exact ⟨rfl, B4.out⟩ | exact ⟨rfl, by have hB := B4.out; simp only [World.drewN_drewN] at hB; exact hB⟩
    · have h5i : ¬ (zs.length : Int) < 5 := by omega
      rcases hkb : keepsB xs with _ | _
      · have HK := Lib.hid hkb
        clear hkb
        go_wp2_with fail
        refine (iPermKeeps_calls Aa ca xs _ (Oa4.out).rds (Oa4.out).len_le (hT.below (B4.out) hT.lt)).mono ?_
        rintro e w5_ ⟨he, b5_⟩
        rw [HK.out] at he
        subst he
        have B5 := Lib.hid ((B4.out).trans (b5_.mono (B4.out).size))
        have Oa5 := Lib.hid ((Oa4.out).below b5_)
        have Ox5 := Lib.hid ((Ox4.out).below b5_)
        go_wp2_with fail
        go_ret
        first | exact ⟨rfl, B5.out⟩ | exact ⟨rfl, by have hB := B5.out; simp only [World.drewN_drewN] at hB; exact hB⟩
      · obtain ⟨g1, v, g2, g3⟩ := F3.out (by omega) hkb
        have HK := Lib.hid hkb
        have G1 := Lib.hid g1
        have G2 := Lib.hid g2
        have G3 := Lib.hid g3
        clear hkb g1 g2 g3
        go_wp2_with fail
        refine (iPermKeeps_calls Aa ca xs _ (Oa4.out).rds (Oa4.out).len_le (hT.below (B4.out) hT.lt)).mono ?_
        rintro e w5_ ⟨he, b5_⟩
        rw [HK.out] at he
        subst he
        have B5 := Lib.hid ((B4.out).trans (b5_.mono (B4.out).size))
        have Oa5 := Lib.hid ((Oa4.out).below b5_)
        have Ox5 := Lib.hid ((Ox4.out).below b5_)
        have hcx : (5 : Int) ≤ (cx : Int) := by
          have h6 := (own_caps (Ox5.out)).1
          omega
        have hTH := iOctadThrough_calls Ax cx (zs.take 5) _ ((Ox5.out).rds.take 5) (by rw [G1.out]; decide) (hT.below (B5.out) hT.lt).1 (hT.below (B5.out) hT.lt).2
        rw [G1.out, G2.out] at hTH
        have HTH := Lib.hid hTH
        have HB7 := Lib.hid (B5.out)
        have HA7 := Lib.hid (Oa5.out)
        clear hTH
        go_wp2_with fail
        refine HTH.out.mono ?_
        rintro e w7 ⟨he, b7⟩
        try dsimp only at he
        subst he
        have HB8 := Lib.hid (HB7.out.trans (b7.mono HB7.out.size))
        have HA8 := Lib.hid (HA7.out.below b7)
        clear b7
        go_wp2_with fail
        refine (iPermWord_calls Aa ca xs v _ (HA8.out).rds (HA8.out).len_le (hT.below (HB8.out) hT.lt).1).mono ?_
        rintro e w6_ ⟨he, b6_⟩
        rw [G3.out] at he
        dsimp only at he
        subst he
        have B6 := Lib.hid ((HB8.out).trans (b6_.mono (HB8.out).size))
        have Oa6 := Lib.hid ((HA8.out).below b6_)
        go_wp2_with fail
        go_ret
        first | exact ⟨rfl, B6.out⟩ | exact ⟨rfl, by have hB := B6.out; simp only [World.drewN_drewN] at hB; exact hB⟩
end Go.Proofs.YtakefnfhjiodnaaDoor
