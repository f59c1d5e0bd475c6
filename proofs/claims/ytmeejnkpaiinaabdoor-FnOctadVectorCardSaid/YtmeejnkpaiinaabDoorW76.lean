/- The walks of promises 70 to 77. -/
import Derived.Test.YtmeejnkpaiinaabDoorC170
import Derived.Test.YtmeejnkpaiinaabDoorC172
import Derived.Test.YtmeejnkpaiinaabDoorC174
import Derived.Test.YtmeejnkpaiinaabDoorC167
import Derived.Test.YtmeejnkpaiinaabDoorW8
namespace Go.Proofs.YtmeejnkpaiinaabDoor
open Go.RowKit
set_option linter.unusedVariables false
set_option linter.unusedSimpArgs false
attribute [local irreducible] cN syn octS octF

theorem sInner_b (A A2 : Option Addr) (c c2 : Nat) (xs ys : List Int) (w : World) (ha : Rds w w.heap.size .i64 A xs) (hx : xs.length ≤ maxLen) (ha2 : Rds w w.heap.size .i64 A2 ys) (hy : ys.length ≤ maxLen) :
    Calls Tryd.prog 13 #[.slice A xs.length c, .slice A2 ys.length c2] w fun e w' => e = .returned (.tuple #[.int .i64 (lvInner xs ys).1, .bool (lvInner xs ys).2]) ∧ Below w.heap.size w w' := iLatticeInner_calls A A2 c c2 xs ys w ha hx ha2 hy
theorem tmod_zero {n b : Int} (hb : b ≠ 0) (h : n % b = 0) : n.tmod b = 0 := by
  obtain ⟨k, rfl⟩ := Int.dvd_of_emod_eq_zero h
  exact Int.mul_tmod_right b k
theorem codeN_of {n : Int} (h : cIn n = true) : ∃ R : Nat, n = (R : Int) ∧ codeN R := by
  simp only [cIn, Bool.and_eq_true] at h
  have hn := (wordB_iff n).1 h.1
  obtain ⟨R, rfl⟩ := Int.eq_ofNat_of_zero_le hn.1
  exact ⟨R, rfl, by omega, h.2⟩
theorem lvAdd_no {xs ys : List Int} (h : (lvAdd xs ys).2 = false) : lvAdd xs ys = ([], false) := by
  unfold lvAdd at h ⊢
  by_cases c : (latB xs && latB ys && vecB (addL xs ys)) = true
  · rw [if_pos c] at h; cases h
  · rw [if_neg c]
theorem lvOct_no {n s : Int} (h : (lvOct n s).2 = false) : lvOct n s = ([], false) := by
  unfold lvOct at h ⊢
  by_cases c : ((cIn n && decide (wt n = 8)) && decide (0 ≤ s ∧ s ≤ 127)) = true
  · rw [if_pos c] at h; cases h
  · rw [if_neg c]
theorem lvOct_yes {n s : Int} (h : (lvOct n s).2 = true) : (cIn n = true ∧ wt n = 8) ∧ (0 ≤ s ∧ s ≤ 127) ∧ lvOct n s = (vL (octV n.toNat s.toNat), true) := by
  unfold lvOct at h ⊢
  by_cases c : ((cIn n && decide (wt n = 8)) && decide (0 ≤ s ∧ s ≤ 127)) = true
  · rw [if_pos c]
    simp only [Bool.and_eq_true, decide_eq_true_eq] at c
    exact ⟨c.1, c.2, rfl⟩
  · rw [if_neg c] at h; cases h
theorem lvAdd_yes {xs ys : List Int} (h : (lvAdd xs ys).2 = true) : latB xs = true ∧ latB ys = true ∧ vecB (addL xs ys) = true := by
  unfold lvAdd at h
  by_cases c : (latB xs && latB ys && vecB (addL xs ys)) = true
  · simp only [Bool.and_eq_true] at c; exact ⟨c.1.1, c.1.2, c.2⟩
  · rw [if_neg c] at h; cases h
theorem inn_rngA {xs ys : List Int} (hx : vecB xs = true) (hy : vecB ys = true) : ∀ a, innL xs ys = a → -240000000000 ≤ a ∧ a ≤ 240000000000 := fun a e => e ▸ innL_rng hx hy
set_option maxHeartbeats 4000000 in
theorem walk_FnOctadVector (a0 : Option Addr) (len0 cap0 : Nat) (z0 : List Int) (w : World) (w0 : IsRow .u8 w a0 len0 cap0 z0) (hT : Tab3 w) :
    Calls Tryd.prog 7 #[.slice a0 len0 cap0] w fun e w' => e = .returned (.bool true) ∧ Below w.heap.size w w' := by
  obtain ⟨bs, rfl, hr, hc, hm, hv⟩ := w0.bytes
  have hm' := hm
  unfold maxLen at hm'
  by_cases hbig : 1048576 < bs.length
  · go_enter Tryd.func7, Tryd.ntmps7
    go_wp2_with fail
    go_ret
    exact ⟨rfl, Below.refl _ _⟩
  have hbig' : bs.length ≤ 1048576 := by omega
  clear hbig
  go_enter Tryd.func7, Tryd.ntmps7
  go_wp2_with fail
  refine (DrawLatticeOctad_calls _ _ bs _ hr hc hm hv).mono ?_
  rintro e w1 ⟨n, s, rfl, b1⟩
  have B0 := Lib.hid (b1)
  rcases hb : (lvOct n s).2 with _ | _
  · have H := Lib.hid (lvOct_no hb)
    clear hb
    go_wp2_with fail
    refine (iLatticeOctad_calls n s _ (hT.below (B0.out) hT.lt)).mono ?_
    rintro e w1_ ⟨v1_, he, o1_, b1_⟩
    rw [H.out] at he o1_
    (try dsimp only at he o1_)
    subst he
    obtain ⟨Ax, cx, rfl⟩ := o1_.slice
    have B1 := Lib.hid ((B0.out).trans (b1_.mono (B0.out).size))
    have Ox1 := Lib.hid (o1_.weak (B0.out).size)
    go_wp2_with fail
    refine (sLatticeOctad_calls n s _).mono ?_
    rintro e w2_ ⟨v2_, he, o2_, b2_⟩
    rw [H.out] at he o2_
    (try dsimp only at he o2_)
    subst he
    obtain ⟨Ay, cy, rfl⟩ := o2_.slice
    have B2 := Lib.hid ((B1.out).trans (b2_.mono (B1.out).size))
    have Ox2 := Lib.hid ((Ox1.out).below b2_)
    have Oy2 := Lib.hid (o2_.weak (B1.out).size)
    go_wp2_with fail
    refine (sameInts_calls _ _ _ _ [] [] _ (Ox2.out).rds (Oy2.out).rds (Ox2.out).len_le (Oy2.out).len_le).mono ?_
    rintro e w' ⟨he, k3_, rfl⟩
    rw [eqL_refl] at he
    subst he
    have B3 := Lib.hid (below_drewN (B2.out) k3_)
    have Ox3 := Lib.hid ((Ox2.out).drewN k3_)
    have Oy3 := Lib.hid ((Oy2.out).drewN k3_)
    go_wp2_with fail
    refine (sameInts_calls _ _ _ _ [] [] _ (Ox3.out).rds (Oy3.out).rds (Ox3.out).len_le (Oy3.out).len_le).mono ?_
    rintro e w' ⟨he, k4_, rfl⟩
    rw [eqL_refl] at he
    subst he
    have B4 := Lib.hid (below_drewN (B3.out) k4_)
    have Ox4 := Lib.hid ((Ox3.out).drewN k4_)
    have Oy4 := Lib.hid ((Oy3.out).drewN k4_)
    go_wp2_with fail
    go_ret
    first | exact ⟨rfl, B4.out⟩ | exact ⟨rfl, by have hB := B4.out; simp only [World.drewN_drewN] at hB; exact hB⟩
  · obtain ⟨⟨q1, q2⟩, q3, hq⟩ := lvOct_yes hb
    obtain ⟨R, rfl, hR⟩ := codeN_of q1
    obtain ⟨S, rfl⟩ := Int.eq_ofNat_of_zero_le q3.1
    rw [Int.toNat_natCast, Int.toNat_natCast] at hq
    have h8 : pop R = 8 := by rw [wt_pop] at q2; omega
    have hlat := oct_lat (s := S) hR h8 (by omega)
    have HI := Lib.hid (show lvInner (vL (octV R S)) (vL (octV R S)) = (32, true) by rw [← oct_sq (w := R) (s := S) h8]; simp [lvInner, latB_vec hlat])
    have HIN := Lib.hid hlat
    have HL := Lib.hid (show (vL (octV R S)).length = 24 from vL_len _)
    have HZ := Lib.hid (show nzTo (vL (octV R S)) 24 = R by rw [octV_places R S 24 (Nat.le_refl _)]; exact Nat.mod_eq_of_lt hR.1)
    have HZS := Lib.hid (fun k => show nzTo (vL (octV R S)) (k + 1) = nzTo (vL (octV R S)) k + if atL (vL (octV R S)) k = 0 then 0 else 2 ^ k from rfl)
    have HZL := Lib.hid (nzTo_lt (vL (octV R S)))
    have H := Lib.hid hq
    generalize vL (octV R S) = zs at *
    obtain ⟨Z, hZe⟩ : ∃ Z : Nat → Nat, nzTo zs = Z := ⟨_, rfl⟩
    have HZ0 := Lib.hid (show Z 0 = 0 by rw [← hZe]; rfl)
    rw [hZe] at HZ HZS HZL
    clear hb q1 q2 hq h8 hlat hR hZe
    go_wp2_with fail
    refine (iLatticeOctad_calls R S _ (hT.below (B0.out) hT.lt)).mono ?_
    rintro e w1_ ⟨v1_, he, o1_, b1_⟩
    rw [H.out] at he o1_
    (try dsimp only at he o1_)
    subst he
    obtain ⟨Ax, cx, rfl⟩ := o1_.slice
    have B1 := Lib.hid ((B0.out).trans (b1_.mono (B0.out).size))
    have Ox1 := Lib.hid (o1_.weak (B0.out).size)
    go_wp2_with fail
    refine (sLatticeOctad_calls R S _).mono ?_
    rintro e w2_ ⟨v2_, he, o2_, b2_⟩
    rw [H.out] at he o2_
    (try dsimp only at he o2_)
    subst he
    obtain ⟨Ay, cy, rfl⟩ := o2_.slice
    have B2 := Lib.hid ((B1.out).trans (b2_.mono (B1.out).size))
    have Ox2 := Lib.hid ((Ox1.out).below b2_)
    have Oy2 := Lib.hid (o2_.weak (B1.out).size)
    go_wp2_with fail
    refine (sameInts_calls _ _ _ _ zs zs _ (Ox2.out).rds (Oy2.out).rds (Ox2.out).len_le (Oy2.out).len_le).mono ?_
    rintro e w' ⟨he, k3_, rfl⟩
    rw [eqL_refl] at he
    subst he
    have B3 := Lib.hid (below_drewN (B2.out) k3_)
    have Ox3 := Lib.hid ((Ox2.out).drewN k3_)
    have Oy3 := Lib.hid ((Oy2.out).drewN k3_)
    go_wp2_with fail
    refine (iLatticeInner_calls Ax Ax cx cx zs zs _ (Ox3.out).rds (Ox3.out).len_le (Ox3.out).rds (Ox3.out).len_le).mono ?_
    rintro e w4_ ⟨he, b4_⟩
    rw [HI.out] at he
    dsimp only at he
    subst he
    have B4 := Lib.hid ((B3.out).trans (b4_.mono (B3.out).size))
    have Ox4 := Lib.hid ((Ox3.out).below b4_)
    have Oy4 := Lib.hid ((Oy3.out).below b4_)
    rw [HL.out]
    have OX := Lib.hid (Ox4.out)
    rw [HL.out] at OX
    obtain ⟨gx, rfl, hgx1, hgx2⟩ := own_atV OX.out (by decide)
    go_wp2_with fail
    go_loopw [11, 12] (fun z i wr => ∃ k : Nat, k ≤ 24 ∧ i = .int .i64 k ∧ z = .int .i64 ((Z k : Nat) : Int) ∧ w4_ = wr) (fun _ i _ => 24 - (intOf i).toNat)
    case atStart => exact ⟨0, by omega, rfl, by rw [HZ0.out]; rfl, rfl⟩
    case round =>
      obtain ⟨k, hk, rfl, rfl, hww⟩ := hrel
      subst hww
      by_cases hlt : k < 24
      · have c9 : w4_.cell? ⟨gx, k, none⟩ = some (.int .i64 (atL zs k)) := OX.out.cell (j := k) (by rw [HL.out]; exact hlt)
        have HS := Lib.hid (HZS.out k)
        have hzl := HZL.out k
        have hp24 : 2 ^ k < 16777216 := by have : 2 ^ k < 2 ^ 24 := Nat.pow_lt_pow_right (by decide) hlt; rw [show (2 : Nat) ^ 24 = 16777216 by decide] at this; exact this
        have hk1 : (k : Int) < 24 := by omega
        have hk2 : (0 : Int) ≤ (k : Int) := by omega
        have hk3 : (k : Int) < 64 := by omega
        have h2c : (2 : Int) ^ k = ((2 ^ k : Nat) : Int) := by push_cast; rfl
        generalize atL zs k = x at *
        have hsh : wrap64 ((2 : Int) ^ k) = ((2 ^ k : Nat) : Int) := by rw [h2c]; exact wrap64_of _ (by omega) (by omega)
        have hsa : wrap64 (((Z k : Nat) : Int) + ((2 ^ k : Nat) : Int)) = ((Z k + 2 ^ k : Nat) : Int) := by
          generalize (2 : Nat) ^ k = pw at hzl hp24 ⊢
          rw [Int.natCast_add]
          exact wrap64_of _ (by omega) (by omega)
        clear h2c
        generalize (2 : Nat) ^ k = pw at *
        by_cases hx0 : x = 0
        · subst hx0
          go_wp2_with fail
          go_roundw
          case rel => exact ⟨k + 1, by omega, by go_num, by rw [HS.out]; simp, by first | exact rfl | trivial⟩
          case measure => simp [intOf]; omega
        · have hx1 : (x != 0) = true := by simpa using hx0
          rw [if_neg hx0] at HS
          clear hx0
          go_wp2_with fail
          go_roundw
          case rel => exact ⟨k + 1, by omega, by go_num, by rw [HS.out, hsa], by first | exact rfl | trivial⟩
          case measure => simp [intOf]; omega
      · obtain rfl : k = 24 := by omega
        rw [HZ.out]
        go_wp2_with fail
        rw [← HL.out]
        refine (iLatticeIn_calls _ cx zs _ (Ox4.out).rds (Ox4.out).len_le ((hT.below (B4.out) hT.lt))).mono ?_
        rintro e w9 ⟨he, b9⟩
        rw [HIN.out] at he
        subst he
        have BZ := Lib.hid ((B4.out).trans (b9.mono (B4.out).size))
        go_wp2_with fail
        go_ret
        exact ⟨rfl, BZ.out⟩
end Go.Proofs.YtmeejnkpaiinaabDoor
