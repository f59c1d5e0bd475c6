/- The walks of promises 69 and 78. -/
import Derived.Test.YtmeejnkpaiinaabC170
import Derived.Test.YtmeejnkpaiinaabC166
import Derived.Test.YtmeejnkpaiinaabW8
import Derived.BigQuiet
namespace Go.Proofs.Ytmeejnkpaiinaab
open Go.RowKit
set_option linter.unusedVariables false
set_option linter.unusedSimpArgs false
attribute [local irreducible] cN syn octS octF

theorem sVectorValid_b (A : Option Addr) (c : Nat) (xs : List Int) (w : World) (ha : Rds w w.heap.size .i64 A xs) (hx : xs.length ≤ maxLen) :
    Calls Try.prog 7 #[.slice A xs.length c] w fun e w' => e = .returned (.bool (vecB xs)) ∧ Below w.heap.size w w' :=
  (sVectorValid_calls A c xs w ha hx).mono fun e w' h => ⟨h.1, h.2 ▸ Below.refl _ _⟩
set_option maxHeartbeats 4000000 in
theorem walk_FnVector (a0 : Option Addr) (len0 cap0 : Nat) (z0 : List Int) (w : World) (w0 : IsRow .u8 w a0 len0 cap0 z0) :
    Calls Try.prog 3 #[.slice a0 len0 cap0] w fun e w' => e = .returned (.bool true) ∧ Below w.heap.size w w' := by
  obtain ⟨bs, rfl, hr, hc, hm, hv⟩ := w0.bytes
  have hm' := hm
  unfold maxLen at hm'
  by_cases hbig : 1048576 < bs.length
  · go_enter Try.func3, Try.ntmps3
    go_wp2_with fail
    go_ret
    exact ⟨rfl, Below.refl _ _⟩
  have hbig' : bs.length ≤ 1048576 := by omega
  clear hbig
  go_enter Try.func3, Try.ntmps3
  go_wp2_with fail
  refine (DrawVectorValid_calls _ _ bs _ hr hc hm hv).mono ?_
  rintro e w1 ⟨v, xs, rfl, o1, hl, b1⟩
  obtain ⟨Aa, ca, rfl⟩ := o1.slice
  have B0 := Lib.hid (b1)
  have Oa0 := Lib.hid (o1)
  rcases hb : vecB xs with _ | _
  · have H := Lib.hid hb
    clear hb
    go_wp2_with fail
    refine (iVectorValid_calls Aa ca xs _ (Oa0.out).rds (Oa0.out).len_le).mono ?_
    rintro e w1_ ⟨he, b1_⟩
    rw [H.out] at he
    subst he
    have B1 := Lib.hid ((B0.out).trans (b1_.mono (B0.out).size))
    have Oa1 := Lib.hid ((Oa0.out).below b1_)
    go_wp2_with fail
    refine (sVectorValid_b Aa ca xs _ (Oa1.out).rds (Oa1.out).len_le).mono ?_
    rintro e w2_ ⟨he, b2_⟩
    rw [H.out] at he
    subst he
    have B2 := Lib.hid ((B1.out).trans (b2_.mono (B1.out).size))
    have Oa2 := Lib.hid ((Oa1.out).below b2_)
    go_wp2_with fail
    go_ret
    first | exact ⟨rfl, B2.out⟩ | exact ⟨rfl, by have hB := B2.out; simp only [World.drewN_drewN] at hB; exact hB⟩
  · have H := Lib.hid hb
    have HI := Lib.hid (show lvInner xs xs = (innL xs xs, true) by simp [lvInner, hb])
    have HL := Lib.hid (vecB_len hb)
    have hn0 := inn_self xs
    have hz := inn_zero xs
    have HZS := Lib.hid (fun k => show zeroTo xs (k + 1) = (zeroTo xs k && decide (atL xs k = 0)) from rfl)
    generalize innL xs xs = n at *
    generalize hZ : zeroTo xs = Z at *
    have HZ0 := Lib.hid (show Z 0 = true by rw [← hZ]; rfl)
    have HN := Lib.hid hn0
    have HZN := Lib.hid hz
    clear hb hn0 hz hZ
    go_wp2_with fail
    refine (iVectorValid_calls Aa ca xs _ (Oa0.out).rds (Oa0.out).len_le).mono ?_
    rintro e w1_ ⟨he, b1_⟩
    rw [H.out] at he
    subst he
    have B1 := Lib.hid ((B0.out).trans (b1_.mono (B0.out).size))
    have Oa1 := Lib.hid ((Oa0.out).below b1_)
    go_wp2_with fail
    refine (sVectorValid_b Aa ca xs _ (Oa1.out).rds (Oa1.out).len_le).mono ?_
    rintro e w2_ ⟨he, b2_⟩
    rw [H.out] at he
    subst he
    have B2 := Lib.hid ((B1.out).trans (b2_.mono (B1.out).size))
    have Oa2 := Lib.hid ((Oa1.out).below b2_)
    go_wp2_with fail
    refine (iLatticeInner_calls Aa Aa ca ca xs xs _ (Oa2.out).rds (Oa2.out).len_le (Oa2.out).rds (Oa2.out).len_le).mono ?_
    rintro e w3_ ⟨he, b3_⟩
    rw [HI.out] at he
    dsimp only at he
    subst he
    have B3 := Lib.hid ((B2.out).trans (b3_.mono (B2.out).size))
    have Oa3 := Lib.hid ((Oa2.out).below b3_)
    go_wp2_with fail
    rw [HL.out]
    go_loopw [8, 9] (fun z i wr => ∃ k : Nat, k ≤ 24 ∧ i = .int .i64 k ∧ z = .bool (Z k) ∧ w3_ = wr) (fun _ i _ => 24 - (intOf i).toNat)
    case atStart => exact ⟨0, by omega, rfl, by rw [HZ0.out], rfl⟩
    case round =>
      obtain ⟨k, hk, rfl, rfl, hww⟩ := hrel
      subst hww
      by_cases hlt : k < 24
      · obtain ⟨b9, o9, rfl, _, c9⟩ := (Oa3.out).rds.at_ (j := k) (by rw [HL.out]; exact hlt)
        replace c9 : w3_.cell? ⟨b9, o9 + k, none⟩ = some (.int .i64 (atL xs k)) := c9
        have HS := Lib.hid (HZS.out k)
        have hk1 : (k : Int) < 24 := by omega
        have hk2 : (0 : Int) ≤ (k : Int) := by omega
        generalize atL xs k = x at *
        cases hzk : Z k
        · rw [hzk] at HS
          go_wp2_with fail
          go_roundw
          case rel => exact ⟨k + 1, by omega, by go_num, by rw [HS.out]; rfl, by first | exact rfl | trivial⟩
          case measure => simp [intOf]; omega
        · rw [hzk] at HS
          go_wp2_with fail
          go_roundw
          case rel => exact ⟨k + 1, by omega, by go_num, by rw [HS.out]; first | rfl | simp, by first | exact rfl | trivial⟩
          case measure => simp [intOf]; omega
      · obtain rfl : k = 24 := by omega
        have hn0 := HN.out
        have hz := HZN.out
        cases hzk : Z 24
        · rw [hzk] at hz
          go_wp2_with fail
          go_ret
          exact ⟨rfl, B3.out⟩
        · rw [hzk] at hz
          go_wp2_with fail
          go_ret
          exact ⟨rfl, B3.out⟩
set_option maxHeartbeats 4000000 in
theorem walk_FnShape (a0 : Option Addr) (len0 cap0 : Nat) (z0 : List Int) (w : World) (w0 : IsRow .u8 w a0 len0 cap0 z0) :
    Calls Try.prog 4 #[.slice a0 len0 cap0] w fun e w' => e = .returned (.bool true) ∧ Below w.heap.size w w' := by
  obtain ⟨bs, rfl, hr, hc, hm, hv⟩ := w0.bytes
  have hm' := hm
  unfold maxLen at hm'
  by_cases hbig : 1048576 < bs.length
  · go_enter Try.func4, Try.ntmps4
    go_wp2_with fail
    go_ret
    exact ⟨rfl, Below.refl _ _⟩
  have hbig' : bs.length ≤ 1048576 := by omega
  clear hbig
  go_enter Try.func4, Try.ntmps4
  go_wp2_with fail
  refine (DrawLatticeShape_calls _ _ bs _ hr hc hm hv).mono ?_
  rintro e w1 ⟨v, xs, rfl, o1, hl, b1⟩
  obtain ⟨Aa, ca, rfl⟩ := o1.slice
  have B0 := Lib.hid (b1)
  have Oa0 := Lib.hid (o1)
  rcases hb : vecB xs with _ | _
  · have H := Lib.hid (show lvShape xs = ([], false) by simp [lvShape, hb])
    clear hb
    go_wp2_with fail
    refine (iLatticeShape_calls Aa ca xs _ (Oa0.out).rds (Oa0.out).len_le).mono ?_
    rintro e w1_ ⟨v1_, he, o1_, b1_⟩
    rw [H.out] at he o1_
    (try dsimp only at he o1_)
    subst he
    obtain ⟨Ax, cx, rfl⟩ := o1_.slice
    have B1 := Lib.hid ((B0.out).trans (b1_.mono (B0.out).size))
    have Oa1 := Lib.hid ((Oa0.out).below b1_)
    have Ox1 := Lib.hid (o1_.weak (B0.out).size)
    go_wp2_with fail
    refine (sLatticeShape_calls Aa ca xs _ (Oa1.out).rds (Oa1.out).len_le).mono ?_
    rintro e w2_ ⟨v2_, he, o2_, b2_⟩
    rw [H.out] at he o2_
    (try dsimp only at he o2_)
    subst he
    obtain ⟨Ay, cy, rfl⟩ := o2_.slice
    have B2 := Lib.hid ((B1.out).trans (b2_.mono (B1.out).size))
    have Oa2 := Lib.hid ((Oa1.out).below b2_)
    have Ox2 := Lib.hid ((Ox1.out).below b2_)
    have Oy2 := Lib.hid (o2_.weak (B1.out).size)
    go_wp2_with fail
    refine (sameInts_calls _ _ _ _ [] [] _ (Ox2.out).rds (Oy2.out).rds (Ox2.out).len_le (Oy2.out).len_le).mono ?_
    rintro e w' ⟨he, k3_, rfl⟩
    rw [eqL_refl] at he
    subst he
    have B3 := Lib.hid (below_drewN (B2.out) k3_)
    have Oa3 := Lib.hid ((Oa2.out).drewN k3_)
    have Ox3 := Lib.hid ((Ox2.out).drewN k3_)
    have Oy3 := Lib.hid ((Oy2.out).drewN k3_)
    go_wp2_with fail
    refine (sameInts_calls _ _ _ _ [] [] _ (Ox3.out).rds (Oy3.out).rds (Ox3.out).len_le (Oy3.out).len_le).mono ?_
    rintro e w' ⟨he, k4_, rfl⟩
    rw [eqL_refl] at he
    subst he
    have B4 := Lib.hid (below_drewN (B3.out) k4_)
    have Oa4 := Lib.hid ((Oa3.out).drewN k4_)
    have Ox4 := Lib.hid ((Ox3.out).drewN k4_)
    have Oy4 := Lib.hid ((Oy3.out).drewN k4_)
    go_wp2_with fail
    go_ret
    first | exact ⟨rfl, B4.out⟩ | exact ⟨rfl, by have hB := B4.out; simp only [World.drewN_drewN] at hB; exact hB⟩
  · have H := Lib.hid (show lvShape xs = (shapeL xs, true) by simp [lvShape, hb])
    have HI := Lib.hid (show lvInner xs xs = (innL xs xs, true) by simp [lvInner, hb])
    have HL := Lib.hid (shape_len xs)
    have HRG := Lib.hid (fun p hp => shape_rng hb p hp)
    have HAS := Lib.hid (shape_asc xs)
    have hvs : vecB (shapeL xs) = true := vecB_of (shape_len xs) fun p hp => by have := shape_rng hb p hp; omega
    have HSR := Lib.hid (fun k hk => inn_rng hvs hvs k hk)
    have HSQ := Lib.hid (shape_sq xs)
    generalize innL xs xs = n at *
    generalize shapeL xs = ss at *
    obtain ⟨S, hS⟩ : ∃ S : Nat → Int, (fun k => sumZ k (fun p => atL ss p * atL ss p)) = S := ⟨_, rfl⟩
    have hSk : ∀ k, sumZ k (fun p => atL ss p * atL ss p) = S k := fun k => by rw [← hS]
    have HSS := Lib.hid (fun k => show S k + atL ss k * atL ss k = S (k + 1) by rw [← hSk, ← hSk]; rfl)
    have HS0 := Lib.hid (show S 0 = 0 by rw [← hSk]; rfl)
    simp only [hSk] at HSR HSQ
    clear hb hvs hS hSk
    go_wp2_with fail
    refine (iLatticeShape_calls Aa ca xs _ (Oa0.out).rds (Oa0.out).len_le).mono ?_
    rintro e w1_ ⟨v1_, he, o1_, b1_⟩
    rw [H.out] at he o1_
    (try dsimp only at he o1_)
    subst he
    obtain ⟨Ax, cx, rfl⟩ := o1_.slice
    have B1 := Lib.hid ((B0.out).trans (b1_.mono (B0.out).size))
    have Oa1 := Lib.hid ((Oa0.out).below b1_)
    have Ox1 := Lib.hid (o1_.weak (B0.out).size)
    go_wp2_with fail
    refine (sLatticeShape_calls Aa ca xs _ (Oa1.out).rds (Oa1.out).len_le).mono ?_
    rintro e w2_ ⟨v2_, he, o2_, b2_⟩
    rw [H.out] at he o2_
    (try dsimp only at he o2_)
    subst he
    obtain ⟨Ay, cy, rfl⟩ := o2_.slice
    have B2 := Lib.hid ((B1.out).trans (b2_.mono (B1.out).size))
    have Oa2 := Lib.hid ((Oa1.out).below b2_)
    have Ox2 := Lib.hid ((Ox1.out).below b2_)
    have Oy2 := Lib.hid (o2_.weak (B1.out).size)
    go_wp2_with fail
    refine (sameInts_calls _ _ _ _ ss ss _ (Ox2.out).rds (Oy2.out).rds (Ox2.out).len_le (Oy2.out).len_le).mono ?_
    rintro e w' ⟨he, k3_, rfl⟩
    rw [eqL_refl] at he
    subst he
    have B3 := Lib.hid (below_drewN (B2.out) k3_)
    have Oa3 := Lib.hid ((Oa2.out).drewN k3_)
    have Ox3 := Lib.hid ((Ox2.out).drewN k3_)
    have Oy3 := Lib.hid ((Oy2.out).drewN k3_)
    go_wp2_with fail
    refine (iLatticeInner_calls Aa Aa ca ca xs xs _ (Oa3.out).rds (Oa3.out).len_le (Oa3.out).rds (Oa3.out).len_le).mono ?_
    rintro e w4_ ⟨he, b4_⟩
    rw [HI.out] at he
    dsimp only at he
    subst he
    have B4 := Lib.hid ((B3.out).trans (b4_.mono (B3.out).size))
    have Oa4 := Lib.hid ((Oa3.out).below b4_)
    have Ox4 := Lib.hid ((Ox3.out).below b4_)
    have Oy4 := Lib.hid ((Oy3.out).below b4_)
    rw [HL.out]
    have OX := Lib.hid (Ox4.out)
    have BX := Lib.hid (B4.out)
    rw [HL.out] at OX
    obtain ⟨gx, rfl, hgx1, hgx2⟩ := own_atV OX.out (by decide)
    go_wp2_with fail
    go_loopw [10, 11] (fun s i wr => ∃ k : Nat, k ≤ 24 ∧ i = .int .i64 k ∧ s = .int .i64 (S k) ∧ Hid (OwnV wr w.heap.size (.slice (some ⟨gx, 0, none⟩) 24 cx) ss) ∧ Hid (Below w.heap.size w wr)) (fun _ i _ => 24 - (intOf i).toNat)
    case atStart => exact ⟨0, by omega, rfl, by rw [HS0.out], OX, BX⟩
    case round =>
      obtain ⟨k, hk, rfl, rfl, ho, hbl⟩ := hrel
      clear OX BX
      by_cases hlt : k < 24
      · have c9 : wr.cell? ⟨gx, k, none⟩ = some (.int .i64 (atL ss k)) := ho.out.cell (j := k) (by rw [HL.out]; exact hlt)
        have hrg := HRG.out k hlt
        have hk1 : (k : Int) < 24 := by omega
        have hk2 : (0 : Int) ≤ (k : Int) := by omega
        have h1 := HSR.out k (by omega)
        have h2 := HSR.out (k + 1) (by omega)
        have hpr := prod_rng (x := atL ss k) (y := atL ss k) (by omega) (by omega)
        have HS := Lib.hid (HSS.out k)
        obtain ⟨T, hT⟩ : ∃ T, S (k + 1) = T := ⟨_, rfl⟩
        rw [hT] at HS h2
        have HT := Lib.hid hT
        clear hT
        by_cases hk0 : k = 0
        · subst hk0
          generalize atL ss 0 = x at *
          generalize S 0 = s at *
          have hw1 : wrap64 (x * x) = x * x := wrap64_of _ (by omega) (by omega)
          have hw2 : wrap64 (s + x * x) = s + x * x := wrap64_of _ (by have := HS.out; omega) (by have := HS.out; omega)
          have hd : decide (x < 0) = false := by simp; omega
          go_wp2_with fail
          go_quiet (fail)
          go_wp2_with fail
          go_quiet (fail)
          go_wp2_with fail
          go_roundw
          case rel => exact ⟨1, by omega, by go_num, by rw [HT.out, ← HS.out], Lib.hid (by exact ho.out), Lib.hid (by first | exact below_drewN (below_drewN hbl.out _) _ | exact below_drewN hbl.out _)⟩
          case measure => simp [intOf]
        · have c8 : wr.cell? ⟨gx, k - 1, none⟩ = some (.int .i64 (atL ss (k - 1))) := ho.out.cell (j := k - 1) (by rw [HL.out]; omega)
          have has := HAS.out (k - 1) (by omega)
          rw [show k - 1 + 1 = k by omega] at has
          have hkp : (0 : Int) < (k : Int) := by omega
          obtain ⟨j, rfl⟩ : ∃ j, k = j + 1 := ⟨k - 1, by omega⟩
          rw [show j + 1 - 1 = j by omega] at c8 has
          have hj : ((j + 1 : Nat) : Int) - 1 = (j : Int) := by omega
          generalize atL ss (j + 1) = x at *
          generalize atL ss j = y at *
          generalize S (j + 1) = s at *
          have hw1 : wrap64 (x * x) = x * x := wrap64_of _ (by omega) (by omega)
          have hw2 : wrap64 (s + x * x) = s + x * x := wrap64_of _ (by have := HS.out; omega) (by have := HS.out; omega)
          have hd : decide (x < 0) = false := by simp; omega
          have hd2 : decide (x < y) = false := by simp; omega
          go_wp2_with fail
          go_quiet (fail)
          go_wp2_with fail
          go_quiet (fail)
          go_wp2_with fail
          go_roundw
          case rel => exact ⟨j + 1 + 1, by omega, by go_num, by rw [HT.out, ← HS.out], Lib.hid (by exact ho.out), Lib.hid (by first | exact below_drewN (below_drewN hbl.out _) _ | exact below_drewN hbl.out _)⟩
          case measure => simp [intOf]; omega
      · obtain rfl : k = 24 := by omega
        rw [HSQ.out]
        go_wp2_with fail
        go_ret
        exact ⟨rfl, hbl.out⟩
end Go.Proofs.Ytmeejnkpaiinaab
