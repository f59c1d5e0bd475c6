/- The walks of promises 70 to 77. -/
import Derived.Test.YtmeejnkpaiinaabDoorC170
import Derived.Test.YtmeejnkpaiinaabDoorC172
import Derived.Test.YtmeejnkpaiinaabDoorC174
import Derived.Test.YtmeejnkpaiinaabDoorC167
import Derived.Test.YtmeejnkpaiinaabDoorW8
namespace Go.Proofs.YtmeejnkpaiinaabDoor
open Go.RowKit
set_option linter.unusedVariables false
set_option linter.unusedSimpArgs false
attribute [local irreducible] cN syn octS octF

theorem sInner_b (A A2 : Option Addr) (c c2 : Nat) (xs ys : List Int) (w : World) (ha : Rds w w.heap.size .i64 A xs) (hx : xs.length ≤ maxLen) (ha2 : Rds w w.heap.size .i64 A2 ys) (hy : ys.length ≤ maxLen) :
    Calls Tryd.prog 13 #[.slice A xs.length c, .slice A2 ys.length c2] w fun e w' => e = .returned (.tuple #[.int .i64 (lvInner xs ys).1, .bool (lvInner xs ys).2]) ∧ Below w.heap.size w w' := iLatticeInner_calls A A2 c c2 xs ys w ha hx ha2 hy
theorem tmod_zero {n b : Int} (hb : b ≠ 0) (h : n % b = 0) : n.tmod b = 0 := by
  obtain ⟨k, rfl⟩ := Int.dvd_of_emod_eq_zero h
  exact Int.mul_tmod_right b k
theorem codeN_of {n : Int} (h : cIn n = true) : ∃ R : Nat, n = (R : Int) ∧ codeN R := by
  simp only [cIn, Bool.and_eq_true] at h
  have hn := (wordB_iff n).1 h.1
  obtain ⟨R, rfl⟩ := Int.eq_ofNat_of_zero_le hn.1
  exact ⟨R, rfl, by omega, h.2⟩
theorem lvAdd_no {xs ys : List Int} (h : (lvAdd xs ys).2 = false) : lvAdd xs ys = ([], false) := by
  unfold lvAdd at h ⊢
  by_cases c : (latB xs && latB ys && vecB (addL xs ys)) = true
  · rw [if_pos c] at h; cases h
  · rw [if_neg c]
theorem lvOct_no {n s : Int} (h : (lvOct n s).2 = false) : lvOct n s = ([], false) := by
  unfold lvOct at h ⊢
  by_cases c : ((cIn n && decide (wt n = 8)) && decide (0 ≤ s ∧ s ≤ 127)) = true
  · rw [if_pos c] at h; cases h
  · rw [if_neg c]
theorem lvOct_yes {n s : Int} (h : (lvOct n s).2 = true) : (cIn n = true ∧ wt n = 8) ∧ (0 ≤ s ∧ s ≤ 127) ∧ lvOct n s = (vL (octV n.toNat s.toNat), true) := by
  unfold lvOct at h ⊢
  by_cases c : ((cIn n && decide (wt n = 8)) && decide (0 ≤ s ∧ s ≤ 127)) = true
  · rw [if_pos c]
    simp only [Bool.and_eq_true, decide_eq_true_eq] at c
    exact ⟨c.1, c.2, rfl⟩
  · rw [if_neg c] at h; cases h
theorem lvAdd_yes {xs ys : List Int} (h : (lvAdd xs ys).2 = true) : latB xs = true ∧ latB ys = true ∧ vecB (addL xs ys) = true := by
  unfold lvAdd at h
  by_cases c : (latB xs && latB ys && vecB (addL xs ys)) = true
  · simp only [Bool.and_eq_true] at c; exact ⟨c.1.1, c.1.2, c.2⟩
  · rw [if_neg c] at h; cases h
theorem inn_rngA {xs ys : List Int} (hx : vecB xs = true) (hy : vecB ys = true) : ∀ a, innL xs ys = a → -240000000000 ≤ a ∧ a ≤ 240000000000 := fun a e => e ▸ innL_rng hx hy
set_option maxHeartbeats 4000000 in
theorem walk_FnInner (a0 : Option Addr) (len0 cap0 : Nat) (z0 : List Int) (w : World) (w0 : IsRow .u8 w a0 len0 cap0 z0) (hT : Tab3 w) :
    Calls Tryd.prog 5 #[.slice a0 len0 cap0] w fun e w' => e = .returned (.bool true) ∧ Below w.heap.size w w' := by
  obtain ⟨bs, rfl, hr, hc, hm, hv⟩ := w0.bytes
  have hm' := hm
  unfold maxLen at hm'
  by_cases hbig : 1048576 < bs.length
  · go_enter Tryd.func5, Tryd.ntmps5
    go_wp2_with fail
    go_ret
    exact ⟨rfl, Below.refl _ _⟩
  have hbig' : bs.length ≤ 1048576 := by omega
  clear hbig
  go_enter Tryd.func5, Tryd.ntmps5
  go_wp2_with fail
  refine (DrawLatticeInner_calls _ _ bs _ hr hc hm hv).mono ?_
  rintro e w1 ⟨v, v2, xs, ys, rfl, o1, hl, o2, hl2, b1⟩
  obtain ⟨Aa, ca, rfl⟩ := o1.slice
  obtain ⟨Ab, cb, rfl⟩ := o2.slice
  have B0 := Lib.hid (b1)
  have Oa0 := Lib.hid (o1)
  have Ob0 := Lib.hid (o2)
  rcases hb : (vecB xs && vecB ys) with _ | _
  · have H := Lib.hid (show lvInner xs ys = (0, false) by simp [lvInner, hb])
    clear hb
    go_wp2_with fail
    refine (iLatticeInner_calls Aa Ab ca cb xs ys _ (Oa0.out).rds (Oa0.out).len_le (Ob0.out).rds (Ob0.out).len_le).mono ?_
    rintro e w1_ ⟨he, b1_⟩
    rw [H.out] at he
    dsimp only at he
    subst he
    have B1 := Lib.hid ((B0.out).trans (b1_.mono (B0.out).size))
    have Oa1 := Lib.hid ((Oa0.out).below b1_)
    have Ob1 := Lib.hid ((Ob0.out).below b1_)
    go_wp2_with fail
    refine (sLatticeInner_calls Aa Ab ca cb xs ys _ (Oa1.out).rds (Oa1.out).len_le (Ob1.out).rds (Ob1.out).len_le).mono ?_
    rintro e w2_ ⟨he, b2_⟩
    rw [H.out] at he
    dsimp only at he
    subst he
    have B2 := Lib.hid ((B1.out).trans (b2_.mono (B1.out).size))
    have Oa2 := Lib.hid ((Oa1.out).below b2_)
    have Ob2 := Lib.hid ((Ob1.out).below b2_)
    go_wp2_with fail
    go_ret
    first | exact ⟨rfl, B2.out⟩ | exact ⟨rfl, by have hB := B2.out; simp only [World.drewN_drewN] at hB; exact hB⟩
  · have hb' := hb
    simp only [Bool.and_eq_true] at hb'
    obtain ⟨q1, q2⟩ := hb'
    have H := Lib.hid (show lvInner xs ys = (innL xs ys, true) by simp [lvInner, hb])
    have H2 := Lib.hid (show lvInner ys xs = (innL xs ys, true) by rw [innL_comm xs ys]; simp [lvInner, q1, q2])
    have HI1 := Lib.hid (show lvInner xs xs = (innL xs xs, true) by simp [lvInner, q1])
    have HI2 := Lib.hid (show lvInner ys ys = (innL ys ys, true) by simp [lvInner, q2])
    have HLT := Lib.hid (fun (h1 : latB xs = true) (h2 : latB ys = true) => show (innL xs ys).tmod 8 = 0 from tmod_zero (by omega) (inn_lat h1 h2))
    have HSM := Lib.hid (fun (h1 : innL xs xs ≤ 24000000) (h2 : innL ys ys ≤ 24000000) => show wrap64 (innL xs ys * innL xs ys) = innL xs ys * innL xs ys ∧ wrap64 (innL xs xs * innL ys ys) = innL xs xs * innL ys ys ∧ innL xs ys * innL xs ys ≤ innL xs xs * innL ys ys by
      have h3 := inn_cauchy xs ys
      have h4 := inn_small h1 h2
      exact ⟨wrap64_of _ (by omega) (by omega), wrap64_of _ (by omega) (by omega), h3⟩)
    generalize innL xs ys = o at *
    generalize innL xs xs = u at *
    generalize innL ys ys = v at *
    clear hb q1 q2
    rcases hla : latB xs with _ | _
    · have HLA := Lib.hid hla
      clear hla HLT
      by_cases hu : u ≤ 24000000
      · by_cases hv2 : v ≤ 24000000
        · have HU := Lib.hid (show decide (u ≤ 24000000) = true by simpa using hu)
          have HVV := Lib.hid (show decide (v ≤ 24000000) = true by simpa using hv2)
          have HSS := Lib.hid (HSM.out hu hv2)
          clear hu HSM
          clear hv2
          go_wp2_with fail
          refine (iLatticeInner_calls Aa Ab ca cb xs ys _ (Oa0.out).rds (Oa0.out).len_le (Ob0.out).rds (Ob0.out).len_le).mono ?_
          rintro e w1_ ⟨he, b1_⟩
          rw [H.out] at he
          dsimp only at he
          subst he
          have B1 := Lib.hid ((B0.out).trans (b1_.mono (B0.out).size))
          have Oa1 := Lib.hid ((Oa0.out).below b1_)
          have Ob1 := Lib.hid ((Ob0.out).below b1_)
          go_wp2_with fail
          refine (sLatticeInner_calls Aa Ab ca cb xs ys _ (Oa1.out).rds (Oa1.out).len_le (Ob1.out).rds (Ob1.out).len_le).mono ?_
          rintro e w2_ ⟨he, b2_⟩
          rw [H.out] at he
          dsimp only at he
          subst he
          have B2 := Lib.hid ((B1.out).trans (b2_.mono (B1.out).size))
          have Oa2 := Lib.hid ((Oa1.out).below b2_)
          have Ob2 := Lib.hid ((Ob1.out).below b2_)
          go_wp2_with fail
          refine (iLatticeInner_calls Ab Aa cb ca ys xs _ (Ob2.out).rds (Ob2.out).len_le (Oa2.out).rds (Oa2.out).len_le).mono ?_
          rintro e w3_ ⟨he, b3_⟩
          rw [H2.out] at he
          dsimp only at he
          subst he
          have B3 := Lib.hid ((B2.out).trans (b3_.mono (B2.out).size))
          have Oa3 := Lib.hid ((Oa2.out).below b3_)
          have Ob3 := Lib.hid ((Ob2.out).below b3_)
          go_wp2_with fail
          refine (iLatticeIn_calls Aa ca xs _ (Oa3.out).rds (Oa3.out).len_le (hT.below (B3.out) hT.lt)).mono ?_
          rintro e w4_ ⟨he, b4_⟩
          rw [HLA.out] at he
          subst he
          have B4 := Lib.hid ((B3.out).trans (b4_.mono (B3.out).size))
          have Oa4 := Lib.hid ((Oa3.out).below b4_)
          have Ob4 := Lib.hid ((Ob3.out).below b4_)
          go_wp2_with fail
          refine (iLatticeInner_calls Aa Aa ca ca xs xs _ (Oa4.out).rds (Oa4.out).len_le (Oa4.out).rds (Oa4.out).len_le).mono ?_
          rintro e w5_ ⟨he, b5_⟩
          rw [HI1.out] at he
          dsimp only at he
          subst he
          have B5 := Lib.hid ((B4.out).trans (b5_.mono (B4.out).size))
          have Oa5 := Lib.hid ((Oa4.out).below b5_)
          have Ob5 := Lib.hid ((Ob4.out).below b5_)
          go_wp2_with fail
          refine (iLatticeInner_calls Ab Ab cb cb ys ys _ (Ob5.out).rds (Ob5.out).len_le (Ob5.out).rds (Ob5.out).len_le).mono ?_
          rintro e w6_ ⟨he, b6_⟩
          rw [HI2.out] at he
          dsimp only at he
          subst he
          have B6 := Lib.hid ((B5.out).trans (b6_.mono (B5.out).size))
          have Oa6 := Lib.hid ((Oa5.out).below b6_)
          have Ob6 := Lib.hid ((Ob5.out).below b6_)
          have hu := HU.out
          have hv2 := HVV.out
          obtain ⟨s1, s2, s3⟩ := HSS.out
          have s4 : decide (o * o ≤ u * v) = true := by simpa using s3
          go_wp2_with fail
          go_ret
          first | exact ⟨rfl, B6.out⟩ | exact ⟨rfl, by have hB := B6.out; simp only [World.drewN_drewN] at hB; exact hB⟩
        · have HU := Lib.hid (show decide (u ≤ 24000000) = true by simpa using hu)
          have HVV := Lib.hid (show decide (v ≤ 24000000) = false by simpa using hv2)
          clear hu HSM
          clear hv2
          go_wp2_with fail
          refine (iLatticeInner_calls Aa Ab ca cb xs ys _ (Oa0.out).rds (Oa0.out).len_le (Ob0.out).rds (Ob0.out).len_le).mono ?_
          rintro e w1_ ⟨he, b1_⟩
          rw [H.out] at he
          dsimp only at he
          subst he
          have B1 := Lib.hid ((B0.out).trans (b1_.mono (B0.out).size))
          have Oa1 := Lib.hid ((Oa0.out).below b1_)
          have Ob1 := Lib.hid ((Ob0.out).below b1_)
          go_wp2_with fail
          refine (sLatticeInner_calls Aa Ab ca cb xs ys _ (Oa1.out).rds (Oa1.out).len_le (Ob1.out).rds (Ob1.out).len_le).mono ?_
          rintro e w2_ ⟨he, b2_⟩
          rw [H.out] at he
          dsimp only at he
          subst he
          have B2 := Lib.hid ((B1.out).trans (b2_.mono (B1.out).size))
          have Oa2 := Lib.hid ((Oa1.out).below b2_)
          have Ob2 := Lib.hid ((Ob1.out).below b2_)
          go_wp2_with fail
          refine (iLatticeInner_calls Ab Aa cb ca ys xs _ (Ob2.out).rds (Ob2.out).len_le (Oa2.out).rds (Oa2.out).len_le).mono ?_
          rintro e w3_ ⟨he, b3_⟩
          rw [H2.out] at he
          dsimp only at he
          subst he
          have B3 := Lib.hid ((B2.out).trans (b3_.mono (B2.out).size))
          have Oa3 := Lib.hid ((Oa2.out).below b3_)
          have Ob3 := Lib.hid ((Ob2.out).below b3_)
          go_wp2_with fail
          refine (iLatticeIn_calls Aa ca xs _ (Oa3.out).rds (Oa3.out).len_le (hT.below (B3.out) hT.lt)).mono ?_
          rintro e w4_ ⟨he, b4_⟩
          rw [HLA.out] at he
          subst he
          have B4 := Lib.hid ((B3.out).trans (b4_.mono (B3.out).size))
          have Oa4 := Lib.hid ((Oa3.out).below b4_)
          have Ob4 := Lib.hid ((Ob3.out).below b4_)
          go_wp2_with fail
          refine (iLatticeInner_calls Aa Aa ca ca xs xs _ (Oa4.out).rds (Oa4.out).len_le (Oa4.out).rds (Oa4.out).len_le).mono ?_
          rintro e w5_ ⟨he, b5_⟩
          rw [HI1.out] at he
          dsimp only at he
          subst he
          have B5 := Lib.hid ((B4.out).trans (b5_.mono (B4.out).size))
          have Oa5 := Lib.hid ((Oa4.out).below b5_)
          have Ob5 := Lib.hid ((Ob4.out).below b5_)
          go_wp2_with fail
          refine (iLatticeInner_calls Ab Ab cb cb ys ys _ (Ob5.out).rds (Ob5.out).len_le (Ob5.out).rds (Ob5.out).len_le).mono ?_
          rintro e w6_ ⟨he, b6_⟩
          rw [HI2.out] at he
          dsimp only at he
          subst he
          have B6 := Lib.hid ((B5.out).trans (b6_.mono (B5.out).size))
          have Oa6 := Lib.hid ((Oa5.out).below b6_)
          have Ob6 := Lib.hid ((Ob5.out).below b6_)
          have hu := HU.out
          have hv2 := HVV.out
          go_wp2_with fail
          go_ret
          first | exact ⟨rfl, B6.out⟩ | exact ⟨rfl, by have hB := B6.out; simp only [World.drewN_drewN] at hB; exact hB⟩
      · have HU := Lib.hid (show decide (u ≤ 24000000) = false by simpa using hu)
        clear hu HSM
        go_wp2_with fail
        refine (iLatticeInner_calls Aa Ab ca cb xs ys _ (Oa0.out).rds (Oa0.out).len_le (Ob0.out).rds (Ob0.out).len_le).mono ?_
        rintro e w1_ ⟨he, b1_⟩
        rw [H.out] at he
        dsimp only at he
        subst he
        have B1 := Lib.hid ((B0.out).trans (b1_.mono (B0.out).size))
        have Oa1 := Lib.hid ((Oa0.out).below b1_)
        have Ob1 := Lib.hid ((Ob0.out).below b1_)
        go_wp2_with fail
        refine (sLatticeInner_calls Aa Ab ca cb xs ys _ (Oa1.out).rds (Oa1.out).len_le (Ob1.out).rds (Ob1.out).len_le).mono ?_
        rintro e w2_ ⟨he, b2_⟩
        rw [H.out] at he
        dsimp only at he
        subst he
        have B2 := Lib.hid ((B1.out).trans (b2_.mono (B1.out).size))
        have Oa2 := Lib.hid ((Oa1.out).below b2_)
        have Ob2 := Lib.hid ((Ob1.out).below b2_)
        go_wp2_with fail
        refine (iLatticeInner_calls Ab Aa cb ca ys xs _ (Ob2.out).rds (Ob2.out).len_le (Oa2.out).rds (Oa2.out).len_le).mono ?_
        rintro e w3_ ⟨he, b3_⟩
        rw [H2.out] at he
        dsimp only at he
        subst he
        have B3 := Lib.hid ((B2.out).trans (b3_.mono (B2.out).size))
        have Oa3 := Lib.hid ((Oa2.out).below b3_)
        have Ob3 := Lib.hid ((Ob2.out).below b3_)
        go_wp2_with fail
        refine (iLatticeIn_calls Aa ca xs _ (Oa3.out).rds (Oa3.out).len_le (hT.below (B3.out) hT.lt)).mono ?_
        rintro e w4_ ⟨he, b4_⟩
        rw [HLA.out] at he
        subst he
        have B4 := Lib.hid ((B3.out).trans (b4_.mono (B3.out).size))
        have Oa4 := Lib.hid ((Oa3.out).below b4_)
        have Ob4 := Lib.hid ((Ob3.out).below b4_)
        go_wp2_with fail
        refine (iLatticeInner_calls Aa Aa ca ca xs xs _ (Oa4.out).rds (Oa4.out).len_le (Oa4.out).rds (Oa4.out).len_le).mono ?_
        rintro e w5_ ⟨he, b5_⟩
        rw [HI1.out] at he
        dsimp only at he
        subst he
        have B5 := Lib.hid ((B4.out).trans (b5_.mono (B4.out).size))
        have Oa5 := Lib.hid ((Oa4.out).below b5_)
        have Ob5 := Lib.hid ((Ob4.out).below b5_)
        go_wp2_with fail
        refine (iLatticeInner_calls Ab Ab cb cb ys ys _ (Ob5.out).rds (Ob5.out).len_le (Ob5.out).rds (Ob5.out).len_le).mono ?_
        rintro e w6_ ⟨he, b6_⟩
        rw [HI2.out] at he
        dsimp only at he
        subst he
        have B6 := Lib.hid ((B5.out).trans (b6_.mono (B5.out).size))
        have Oa6 := Lib.hid ((Oa5.out).below b6_)
        have Ob6 := Lib.hid ((Ob5.out).below b6_)
        have hu := HU.out
        go_wp2_with fail
        go_ret
        first | exact ⟨rfl, B6.out⟩ | exact ⟨rfl, by have hB := B6.out; simp only [World.drewN_drewN] at hB; exact hB⟩
    · rcases hlb : latB ys with _ | _
      · have HLA := Lib.hid hla
        have HLB := Lib.hid hlb
        clear hla HLT
        clear hlb
        by_cases hu : u ≤ 24000000
        · by_cases hv2 : v ≤ 24000000
          · have HU := Lib.hid (show decide (u ≤ 24000000) = true by simpa using hu)
            have HVV := Lib.hid (show decide (v ≤ 24000000) = true by simpa using hv2)
            have HSS := Lib.hid (HSM.out hu hv2)
            clear hu HSM
            clear hv2
            go_wp2_with fail
            refine (iLatticeInner_calls Aa Ab ca cb xs ys _ (Oa0.out).rds (Oa0.out).len_le (Ob0.out).rds (Ob0.out).len_le).mono ?_
            rintro e w1_ ⟨he, b1_⟩
            rw [H.out] at he
            dsimp only at he
            subst he
            have B1 := Lib.hid ((B0.out).trans (b1_.mono (B0.out).size))
            have Oa1 := Lib.hid ((Oa0.out).below b1_)
            have Ob1 := Lib.hid ((Ob0.out).below b1_)
            go_wp2_with fail
            refine (sLatticeInner_calls Aa Ab ca cb xs ys _ (Oa1.out).rds (Oa1.out).len_le (Ob1.out).rds (Ob1.out).len_le).mono ?_
            rintro e w2_ ⟨he, b2_⟩
            rw [H.out] at he
            dsimp only at he
            subst he
            have B2 := Lib.hid ((B1.out).trans (b2_.mono (B1.out).size))
            have Oa2 := Lib.hid ((Oa1.out).below b2_)
            have Ob2 := Lib.hid ((Ob1.out).below b2_)
            go_wp2_with fail
            refine (iLatticeInner_calls Ab Aa cb ca ys xs _ (Ob2.out).rds (Ob2.out).len_le (Oa2.out).rds (Oa2.out).len_le).mono ?_
            rintro e w3_ ⟨he, b3_⟩
            rw [H2.out] at he
            dsimp only at he
            subst he
            have B3 := Lib.hid ((B2.out).trans (b3_.mono (B2.out).size))
            have Oa3 := Lib.hid ((Oa2.out).below b3_)
            have Ob3 := Lib.hid ((Ob2.out).below b3_)
            go_wp2_with fail
            refine (iLatticeIn_calls Aa ca xs _ (Oa3.out).rds (Oa3.out).len_le (hT.below (B3.out) hT.lt)).mono ?_
            rintro e w4_ ⟨he, b4_⟩
            rw [HLA.out] at he
            subst he
            have B4 := Lib.hid ((B3.out).trans (b4_.mono (B3.out).size))
            have Oa4 := Lib.hid ((Oa3.out).below b4_)
            have Ob4 := Lib.hid ((Ob3.out).below b4_)
            go_wp2_with fail
            refine (iLatticeIn_calls Ab cb ys _ (Ob4.out).rds (Ob4.out).len_le (hT.below (B4.out) hT.lt)).mono ?_
            rintro e w5_ ⟨he, b5_⟩
            rw [HLB.out] at he
            subst he
            have B5 := Lib.hid ((B4.out).trans (b5_.mono (B4.out).size))
            have Oa5 := Lib.hid ((Oa4.out).below b5_)
            have Ob5 := Lib.hid ((Ob4.out).below b5_)
            go_wp2_with fail
            refine (iLatticeInner_calls Aa Aa ca ca xs xs _ (Oa5.out).rds (Oa5.out).len_le (Oa5.out).rds (Oa5.out).len_le).mono ?_
            rintro e w6_ ⟨he, b6_⟩
            rw [HI1.out] at he
            dsimp only at he
            subst he
            have B6 := Lib.hid ((B5.out).trans (b6_.mono (B5.out).size))
            have Oa6 := Lib.hid ((Oa5.out).below b6_)
            have Ob6 := Lib.hid ((Ob5.out).below b6_)
            go_wp2_with fail
            refine (iLatticeInner_calls Ab Ab cb cb ys ys _ (Ob6.out).rds (Ob6.out).len_le (Ob6.out).rds (Ob6.out).len_le).mono ?_
            rintro e w7_ ⟨he, b7_⟩
            rw [HI2.out] at he
            dsimp only at he
            subst he
            have B7 := Lib.hid ((B6.out).trans (b7_.mono (B6.out).size))
            have Oa7 := Lib.hid ((Oa6.out).below b7_)
            have Ob7 := Lib.hid ((Ob6.out).below b7_)
            have hu := HU.out
            have hv2 := HVV.out
            obtain ⟨s1, s2, s3⟩ := HSS.out
            have s4 : decide (o * o ≤ u * v) = true := by simpa using s3
            go_wp2_with fail
            go_ret
            first | exact ⟨rfl, B7.out⟩ | exact ⟨rfl, by have hB := B7.out; simp only [World.drewN_drewN] at hB; exact hB⟩
          · have HU := Lib.hid (show decide (u ≤ 24000000) = true by simpa using hu)
            have HVV := Lib.hid (show decide (v ≤ 24000000) = false by simpa using hv2)
            clear hu HSM
            clear hv2
            go_wp2_with fail
            refine (iLatticeInner_calls Aa Ab ca cb xs ys _ (Oa0.out).rds (Oa0.out).len_le (Ob0.out).rds (Ob0.out).len_le).mono ?_
            rintro e w1_ ⟨he, b1_⟩
            rw [H.out] at he
            dsimp only at he
            subst he
            have B1 := Lib.hid ((B0.out).trans (b1_.mono (B0.out).size))
            have Oa1 := Lib.hid ((Oa0.out).below b1_)
            have Ob1 := Lib.hid ((Ob0.out).below b1_)
            go_wp2_with fail
            refine (sLatticeInner_calls Aa Ab ca cb xs ys _ (Oa1.out).rds (Oa1.out).len_le (Ob1.out).rds (Ob1.out).len_le).mono ?_
            rintro e w2_ ⟨he, b2_⟩
            rw [H.out] at he
            dsimp only at he
            subst he
            have B2 := Lib.hid ((B1.out).trans (b2_.mono (B1.out).size))
            have Oa2 := Lib.hid ((Oa1.out).below b2_)
            have Ob2 := Lib.hid ((Ob1.out).below b2_)
            go_wp2_with fail
            refine (iLatticeInner_calls Ab Aa cb ca ys xs _ (Ob2.out).rds (Ob2.out).len_le (Oa2.out).rds (Oa2.out).len_le).mono ?_
            rintro e w3_ ⟨he, b3_⟩
            rw [H2.out] at he
            dsimp only at he
            subst he
            have B3 := Lib.hid ((B2.out).trans (b3_.mono (B2.out).size))
            have Oa3 := Lib.hid ((Oa2.out).below b3_)
            have Ob3 := Lib.hid ((Ob2.out).below b3_)
            go_wp2_with fail
            refine (iLatticeIn_calls Aa ca xs _ (Oa3.out).rds (Oa3.out).len_le (hT.below (B3.out) hT.lt)).mono ?_
            rintro e w4_ ⟨he, b4_⟩
            rw [HLA.out] at he
            subst he
            have B4 := Lib.hid ((B3.out).trans (b4_.mono (B3.out).size))
            have Oa4 := Lib.hid ((Oa3.out).below b4_)
            have Ob4 := Lib.hid ((Ob3.out).below b4_)
            go_wp2_with fail
            refine (iLatticeIn_calls Ab cb ys _ (Ob4.out).rds (Ob4.out).len_le (hT.below (B4.out) hT.lt)).mono ?_
            rintro e w5_ ⟨he, b5_⟩
            rw [HLB.out] at he
            subst he
            have B5 := Lib.hid ((B4.out).trans (b5_.mono (B4.out).size))
            have Oa5 := Lib.hid ((Oa4.out).below b5_)
            have Ob5 := Lib.hid ((Ob4.out).below b5_)
            go_wp2_with fail
            refine (iLatticeInner_calls Aa Aa ca ca xs xs _ (Oa5.out).rds (Oa5.out).len_le (Oa5.out).rds (Oa5.out).len_le).mono ?_
            rintro e w6_ ⟨he, b6_⟩
            rw [HI1.out] at he
            dsimp only at he
            subst he
            have B6 := Lib.hid ((B5.out).trans (b6_.mono (B5.out).size))
            have Oa6 := Lib.hid ((Oa5.out).below b6_)
            have Ob6 := Lib.hid ((Ob5.out).below b6_)
            go_wp2_with fail
            refine (iLatticeInner_calls Ab Ab cb cb ys ys _ (Ob6.out).rds (Ob6.out).len_le (Ob6.out).rds (Ob6.out).len_le).mono ?_
            rintro e w7_ ⟨he, b7_⟩
            rw [HI2.out] at he
            dsimp only at he
            subst he
            have B7 := Lib.hid ((B6.out).trans (b7_.mono (B6.out).size))
            have Oa7 := Lib.hid ((Oa6.out).below b7_)
            have Ob7 := Lib.hid ((Ob6.out).below b7_)
            have hu := HU.out
            have hv2 := HVV.out
            go_wp2_with fail
            go_ret
            first | exact ⟨rfl, B7.out⟩ | exact ⟨rfl, by have hB := B7.out; simp only [World.drewN_drewN] at hB; exact hB⟩
        · have HU := Lib.hid (show decide (u ≤ 24000000) = false by simpa using hu)
          clear hu HSM
          go_wp2_with fail
          refine (iLatticeInner_calls Aa Ab ca cb xs ys _ (Oa0.out).rds (Oa0.out).len_le (Ob0.out).rds (Ob0.out).len_le).mono ?_
          rintro e w1_ ⟨he, b1_⟩
          rw [H.out] at he
          dsimp only at he
          subst he
          have B1 := Lib.hid ((B0.out).trans (b1_.mono (B0.out).size))
          have Oa1 := Lib.hid ((Oa0.out).below b1_)
          have Ob1 := Lib.hid ((Ob0.out).below b1_)
          go_wp2_with fail
          refine (sLatticeInner_calls Aa Ab ca cb xs ys _ (Oa1.out).rds (Oa1.out).len_le (Ob1.out).rds (Ob1.out).len_le).mono ?_
          rintro e w2_ ⟨he, b2_⟩
          rw [H.out] at he
          dsimp only at he
          subst he
          have B2 := Lib.hid ((B1.out).trans (b2_.mono (B1.out).size))
          have Oa2 := Lib.hid ((Oa1.out).below b2_)
          have Ob2 := Lib.hid ((Ob1.out).below b2_)
          go_wp2_with fail
          refine (iLatticeInner_calls Ab Aa cb ca ys xs _ (Ob2.out).rds (Ob2.out).len_le (Oa2.out).rds (Oa2.out).len_le).mono ?_
          rintro e w3_ ⟨he, b3_⟩
          rw [H2.out] at he
          dsimp only at he
          subst he
          have B3 := Lib.hid ((B2.out).trans (b3_.mono (B2.out).size))
          have Oa3 := Lib.hid ((Oa2.out).below b3_)
          have Ob3 := Lib.hid ((Ob2.out).below b3_)
          go_wp2_with fail
          refine (iLatticeIn_calls Aa ca xs _ (Oa3.out).rds (Oa3.out).len_le (hT.below (B3.out) hT.lt)).mono ?_
          rintro e w4_ ⟨he, b4_⟩
          rw [HLA.out] at he
          subst he
          have B4 := Lib.hid ((B3.out).trans (b4_.mono (B3.out).size))
          have Oa4 := Lib.hid ((Oa3.out).below b4_)
          have Ob4 := Lib.hid ((Ob3.out).below b4_)
          go_wp2_with fail
          refine (iLatticeIn_calls Ab cb ys _ (Ob4.out).rds (Ob4.out).len_le (hT.below (B4.out) hT.lt)).mono ?_
          rintro e w5_ ⟨he, b5_⟩
          rw [HLB.out] at he
          subst he
          have B5 := Lib.hid ((B4.out).trans (b5_.mono (B4.out).size))
          have Oa5 := Lib.hid ((Oa4.out).below b5_)
          have Ob5 := Lib.hid ((Ob4.out).below b5_)
          go_wp2_with fail
          refine (iLatticeInner_calls Aa Aa ca ca xs xs _ (Oa5.out).rds (Oa5.out).len_le (Oa5.out).rds (Oa5.out).len_le).mono ?_
          rintro e w6_ ⟨he, b6_⟩
          rw [HI1.out] at he
          dsimp only at he
          subst he
          have B6 := Lib.hid ((B5.out).trans (b6_.mono (B5.out).size))
          have Oa6 := Lib.hid ((Oa5.out).below b6_)
          have Ob6 := Lib.hid ((Ob5.out).below b6_)
          go_wp2_with fail
          refine (iLatticeInner_calls Ab Ab cb cb ys ys _ (Ob6.out).rds (Ob6.out).len_le (Ob6.out).rds (Ob6.out).len_le).mono ?_
          rintro e w7_ ⟨he, b7_⟩
          rw [HI2.out] at he
          dsimp only at he
          subst he
          have B7 := Lib.hid ((B6.out).trans (b7_.mono (B6.out).size))
          have Oa7 := Lib.hid ((Oa6.out).below b7_)
          have Ob7 := Lib.hid ((Ob6.out).below b7_)
          have hu := HU.out
          go_wp2_with fail
          go_ret
          first | exact ⟨rfl, B7.out⟩ | exact ⟨rfl, by have hB := B7.out; simp only [World.drewN_drewN] at hB; exact hB⟩
      · have HLA := Lib.hid hla
        have HLB := Lib.hid hlb
        have HT8 := Lib.hid (HLT.out hla hlb)
        clear hla HLT
        clear hlb
        by_cases hu : u ≤ 24000000
        · by_cases hv2 : v ≤ 24000000
          · have HU := Lib.hid (show decide (u ≤ 24000000) = true by simpa using hu)
            have HVV := Lib.hid (show decide (v ≤ 24000000) = true by simpa using hv2)
            have HSS := Lib.hid (HSM.out hu hv2)
            clear hu HSM
            clear hv2
            go_wp2_with fail
            refine (iLatticeInner_calls Aa Ab ca cb xs ys _ (Oa0.out).rds (Oa0.out).len_le (Ob0.out).rds (Ob0.out).len_le).mono ?_
            rintro e w1_ ⟨he, b1_⟩
            rw [H.out] at he
            dsimp only at he
            subst he
            have B1 := Lib.hid ((B0.out).trans (b1_.mono (B0.out).size))
            have Oa1 := Lib.hid ((Oa0.out).below b1_)
            have Ob1 := Lib.hid ((Ob0.out).below b1_)
            go_wp2_with fail
            refine (sLatticeInner_calls Aa Ab ca cb xs ys _ (Oa1.out).rds (Oa1.out).len_le (Ob1.out).rds (Ob1.out).len_le).mono ?_
            rintro e w2_ ⟨he, b2_⟩
            rw [H.out] at he
            dsimp only at he
            subst he
            have B2 := Lib.hid ((B1.out).trans (b2_.mono (B1.out).size))
            have Oa2 := Lib.hid ((Oa1.out).below b2_)
            have Ob2 := Lib.hid ((Ob1.out).below b2_)
            go_wp2_with fail
            refine (iLatticeInner_calls Ab Aa cb ca ys xs _ (Ob2.out).rds (Ob2.out).len_le (Oa2.out).rds (Oa2.out).len_le).mono ?_
            rintro e w3_ ⟨he, b3_⟩
            rw [H2.out] at he
            dsimp only at he
            subst he
            have B3 := Lib.hid ((B2.out).trans (b3_.mono (B2.out).size))
            have Oa3 := Lib.hid ((Oa2.out).below b3_)
            have Ob3 := Lib.hid ((Ob2.out).below b3_)
            go_wp2_with fail
            refine (iLatticeIn_calls Aa ca xs _ (Oa3.out).rds (Oa3.out).len_le (hT.below (B3.out) hT.lt)).mono ?_
            rintro e w4_ ⟨he, b4_⟩
            rw [HLA.out] at he
            subst he
            have B4 := Lib.hid ((B3.out).trans (b4_.mono (B3.out).size))
            have Oa4 := Lib.hid ((Oa3.out).below b4_)
            have Ob4 := Lib.hid ((Ob3.out).below b4_)
            go_wp2_with fail
            refine (iLatticeIn_calls Ab cb ys _ (Ob4.out).rds (Ob4.out).len_le (hT.below (B4.out) hT.lt)).mono ?_
            rintro e w5_ ⟨he, b5_⟩
            rw [HLB.out] at he
            subst he
            have B5 := Lib.hid ((B4.out).trans (b5_.mono (B4.out).size))
            have Oa5 := Lib.hid ((Oa4.out).below b5_)
            have Ob5 := Lib.hid ((Ob4.out).below b5_)
            go_wp2_with fail
            refine (iLatticeInner_calls Aa Aa ca ca xs xs _ (Oa5.out).rds (Oa5.out).len_le (Oa5.out).rds (Oa5.out).len_le).mono ?_
            rintro e w6_ ⟨he, b6_⟩
            rw [HI1.out] at he
            dsimp only at he
            subst he
            have B6 := Lib.hid ((B5.out).trans (b6_.mono (B5.out).size))
            have Oa6 := Lib.hid ((Oa5.out).below b6_)
            have Ob6 := Lib.hid ((Ob5.out).below b6_)
            go_wp2_with fail
            refine (iLatticeInner_calls Ab Ab cb cb ys ys _ (Ob6.out).rds (Ob6.out).len_le (Ob6.out).rds (Ob6.out).len_le).mono ?_
            rintro e w7_ ⟨he, b7_⟩
            rw [HI2.out] at he
            dsimp only at he
            subst he
            have B7 := Lib.hid ((B6.out).trans (b7_.mono (B6.out).size))
            have Oa7 := Lib.hid ((Oa6.out).below b7_)
            have Ob7 := Lib.hid ((Ob6.out).below b7_)
            have hu := HU.out
            have hv2 := HVV.out
            obtain ⟨s1, s2, s3⟩ := HSS.out
            have s4 : decide (o * o ≤ u * v) = true := by simpa using s3
            have ht8 := HT8.out
            go_wp2_with fail
            go_ret
            first | exact ⟨rfl, B7.out⟩ | exact ⟨rfl, by have hB := B7.out; simp only [World.drewN_drewN] at hB; exact hB⟩
          · have HU := Lib.hid (show decide (u ≤ 24000000) = true by simpa using hu)
            have HVV := Lib.hid (show decide (v ≤ 24000000) = false by simpa using hv2)
            clear hu HSM
            clear hv2
            go_wp2_with fail
            refine (iLatticeInner_calls Aa Ab ca cb xs ys _ (Oa0.out).rds (Oa0.out).len_le (Ob0.out).rds (Ob0.out).len_le).mono ?_
            rintro e w1_ ⟨he, b1_⟩
            rw [H.out] at he
            dsimp only at he
            subst he
            have B1 := Lib.hid ((B0.out).trans (b1_.mono (B0.out).size))
            have Oa1 := Lib.hid ((Oa0.out).below b1_)
            have Ob1 := Lib.hid ((Ob0.out).below b1_)
            go_wp2_with fail
            refine (sLatticeInner_calls Aa Ab ca cb xs ys _ (Oa1.out).rds (Oa1.out).len_le (Ob1.out).rds (Ob1.out).len_le).mono ?_
            rintro e w2_ ⟨he, b2_⟩
            rw [H.out] at he
            dsimp only at he
            subst he
            have B2 := Lib.hid ((B1.out).trans (b2_.mono (B1.out).size))
            have Oa2 := Lib.hid ((Oa1.out).below b2_)
            have Ob2 := Lib.hid ((Ob1.out).below b2_)
            go_wp2_with fail
            refine (iLatticeInner_calls Ab Aa cb ca ys xs _ (Ob2.out).rds (Ob2.out).len_le (Oa2.out).rds (Oa2.out).len_le).mono ?_
            rintro e w3_ ⟨he, b3_⟩
            rw [H2.out] at he
            dsimp only at he
            subst he
            have B3 := Lib.hid ((B2.out).trans (b3_.mono (B2.out).size))
            have Oa3 := Lib.hid ((Oa2.out).below b3_)
            have Ob3 := Lib.hid ((Ob2.out).below b3_)
            go_wp2_with fail
            refine (iLatticeIn_calls Aa ca xs _ (Oa3.out).rds (Oa3.out).len_le (hT.below (B3.out) hT.lt)).mono ?_
            rintro e w4_ ⟨he, b4_⟩
            rw [HLA.out] at he
            subst he
            have B4 := Lib.hid ((B3.out).trans (b4_.mono (B3.out).size))
            have Oa4 := Lib.hid ((Oa3.out).below b4_)
            have Ob4 := Lib.hid ((Ob3.out).below b4_)
            go_wp2_with fail
            refine (iLatticeIn_calls Ab cb ys _ (Ob4.out).rds (Ob4.out).len_le (hT.below (B4.out) hT.lt)).mono ?_
            rintro e w5_ ⟨he, b5_⟩
            rw [HLB.out] at he
            subst he
            have B5 := Lib.hid ((B4.out).trans (b5_.mono (B4.out).size))
            have Oa5 := Lib.hid ((Oa4.out).below b5_)
            have Ob5 := Lib.hid ((Ob4.out).below b5_)
            go_wp2_with fail
            refine (iLatticeInner_calls Aa Aa ca ca xs xs _ (Oa5.out).rds (Oa5.out).len_le (Oa5.out).rds (Oa5.out).len_le).mono ?_
            rintro e w6_ ⟨he, b6_⟩
            rw [HI1.out] at he
            dsimp only at he
            subst he
            have B6 := Lib.hid ((B5.out).trans (b6_.mono (B5.out).size))
            have Oa6 := Lib.hid ((Oa5.out).below b6_)
            have Ob6 := Lib.hid ((Ob5.out).below b6_)
            go_wp2_with fail
            refine (iLatticeInner_calls Ab Ab cb cb ys ys _ (Ob6.out).rds (Ob6.out).len_le (Ob6.out).rds (Ob6.out).len_le).mono ?_
            rintro e w7_ ⟨he, b7_⟩
            rw [HI2.out] at he
            dsimp only at he
            subst he
            have B7 := Lib.hid ((B6.out).trans (b7_.mono (B6.out).size))
            have Oa7 := Lib.hid ((Oa6.out).below b7_)
            have Ob7 := Lib.hid ((Ob6.out).below b7_)
            have hu := HU.out
            have hv2 := HVV.out
            have ht8 := HT8.out
            go_wp2_with fail
            go_ret
            first | exact ⟨rfl, B7.out⟩ | exact ⟨rfl, by have hB := B7.out; simp only [World.drewN_drewN] at hB; exact hB⟩
        · have HU := Lib.hid (show decide (u ≤ 24000000) = false by simpa using hu)
          clear hu HSM
          go_wp2_with fail
          refine (iLatticeInner_calls Aa Ab ca cb xs ys _ (Oa0.out).rds (Oa0.out).len_le (Ob0.out).rds (Ob0.out).len_le).mono ?_
          rintro e w1_ ⟨he, b1_⟩
          rw [H.out] at he
          dsimp only at he
          subst he
          have B1 := Lib.hid ((B0.out).trans (b1_.mono (B0.out).size))
          have Oa1 := Lib.hid ((Oa0.out).below b1_)
          have Ob1 := Lib.hid ((Ob0.out).below b1_)
          go_wp2_with fail
          refine (sLatticeInner_calls Aa Ab ca cb xs ys _ (Oa1.out).rds (Oa1.out).len_le (Ob1.out).rds (Ob1.out).len_le).mono ?_
          rintro e w2_ ⟨he, b2_⟩
          rw [H.out] at he
          dsimp only at he
          subst he
          have B2 := Lib.hid ((B1.out).trans (b2_.mono (B1.out).size))
          have Oa2 := Lib.hid ((Oa1.out).below b2_)
          have Ob2 := Lib.hid ((Ob1.out).below b2_)
          go_wp2_with fail
          refine (iLatticeInner_calls Ab Aa cb ca ys xs _ (Ob2.out).rds (Ob2.out).len_le (Oa2.out).rds (Oa2.out).len_le).mono ?_
          rintro e w3_ ⟨he, b3_⟩
          rw [H2.out] at he
          dsimp only at he
          subst he
          have B3 := Lib.hid ((B2.out).trans (b3_.mono (B2.out).size))
          have Oa3 := Lib.hid ((Oa2.out).below b3_)
          have Ob3 := Lib.hid ((Ob2.out).below b3_)
          go_wp2_with fail
          refine (iLatticeIn_calls Aa ca xs _ (Oa3.out).rds (Oa3.out).len_le (hT.below (B3.out) hT.lt)).mono ?_
          rintro e w4_ ⟨he, b4_⟩
          rw [HLA.out] at he
          subst he
          have B4 := Lib.hid ((B3.out).trans (b4_.mono (B3.out).size))
          have Oa4 := Lib.hid ((Oa3.out).below b4_)
          have Ob4 := Lib.hid ((Ob3.out).below b4_)
          go_wp2_with fail
          refine (iLatticeIn_calls Ab cb ys _ (Ob4.out).rds (Ob4.out).len_le (hT.below (B4.out) hT.lt)).mono ?_
          rintro e w5_ ⟨he, b5_⟩
          rw [HLB.out] at he
          subst he
          have B5 := Lib.hid ((B4.out).trans (b5_.mono (B4.out).size))
          have Oa5 := Lib.hid ((Oa4.out).below b5_)
          have Ob5 := Lib.hid ((Ob4.out).below b5_)
          go_wp2_with fail
          refine (iLatticeInner_calls Aa Aa ca ca xs xs _ (Oa5.out).rds (Oa5.out).len_le (Oa5.out).rds (Oa5.out).len_le).mono ?_
          rintro e w6_ ⟨he, b6_⟩
          rw [HI1.out] at he
          dsimp only at he
          subst he
          have B6 := Lib.hid ((B5.out).trans (b6_.mono (B5.out).size))
          have Oa6 := Lib.hid ((Oa5.out).below b6_)
          have Ob6 := Lib.hid ((Ob5.out).below b6_)
          go_wp2_with fail
          refine (iLatticeInner_calls Ab Ab cb cb ys ys _ (Ob6.out).rds (Ob6.out).len_le (Ob6.out).rds (Ob6.out).len_le).mono ?_
          rintro e w7_ ⟨he, b7_⟩
          rw [HI2.out] at he
          dsimp only at he
          subst he
          have B7 := Lib.hid ((B6.out).trans (b7_.mono (B6.out).size))
          have Oa7 := Lib.hid ((Oa6.out).below b7_)
          have Ob7 := Lib.hid ((Ob6.out).below b7_)
          have hu := HU.out
          have ht8 := HT8.out
          go_wp2_with fail
          go_ret
          first | exact ⟨rfl, B7.out⟩ | exact ⟨rfl, by have hB := B7.out; simp only [World.drewN_drewN] at hB; exact hB⟩
end Go.Proofs.YtmeejnkpaiinaabDoor
