/- The walk of promise 28. -/
import Derived.Test.YtnbefojdejgccaaDoorW15
namespace Go.Proofs.YtnbefojdejgccaaDoor
open Go.RowKit
set_option linter.unusedVariables false

theorem sumTo_rng (ms : List Nat) (k : Nat) (hk : k ≤ 25) : 0 ≤ sumTo (cntF ms) k ∧ sumTo (cntF ms) k ≤ 25 * ms.length := by
  have : 0 ≤ sumTo (cntF ms) k ∧ sumTo (cntF ms) k ≤ k * ms.length := by
    induction k with
    | zero => simp [sumTo]
    | succ k ih =>
      have h1 := ih (by omega)
      have h2 := cntF_rng ms k (by omega)
      simp only [sumTo]
      have e : ((k + 1 : Nat) : Int) * ms.length = k * ms.length + ms.length := by push_cast; rw [Int.add_mul]; omega
      rw [e]; omega
  refine ⟨this.1, Int.le_trans this.2 ?_⟩
  have : (k : Int) ≤ 25 := by omega
  exact Int.mul_le_mul_of_nonneg_right this (by omega)
set_option maxHeartbeats 4000000 in
theorem walk_FnWeights (a0 : Option Addr) (len0 cap0 : Nat) (z0 : List Int) (w : World) (w0 : IsRow .u8 w a0 len0 cap0 z0) (hT : Tab2 w) :
    Calls Tryd.prog 7 #[.slice a0 len0 cap0] w fun e w' => e = .returned (.bool true) ∧ Below w.heap.size w w' := by
  obtain ⟨bs, rfl, hr, hc, hm, hv⟩ := w0.bytes
  have hm' := hm
  unfold maxLen at hm'
  by_cases hbig : 1048576 < bs.length
  · go_enter Tryd.func7, Tryd.ntmps7
    go_wp2_with fail
    go_ret
    exact ⟨rfl, Below.refl _ _⟩
  have hbig' : bs.length ≤ 1048576 := by omega
  clear hbig
  go_enter Tryd.func7, Tryd.ntmps7
  go_wp2_with fail
  refine (DrawCodeWeights_calls _ _ bs _ hr hc hm hv).mono ?_
  rintro e w1 ⟨a, b, rfl, a0, a1, b0, b1', bb⟩
  have B0 := Lib.hid (bb)
  rcases hb : wgtB a b with _ | _
  · have H := Lib.hid (show cWeights a b = ([], false) by simp [cWeights, hb])
    clear hb
    go_wp2_with fail
    refine (iCodeWeights_calls a b _ (hT.below (B0.out) hT.lt)).mono ?_
    rintro e w1_ ⟨v1_, he, o1_, b1_⟩
    rw [H.out] at he o1_
    dsimp only at he o1_
    subst he
    obtain ⟨Ax, cx, rfl⟩ := o1_.slice
    have B1 := Lib.hid ((B0.out).trans (b1_.mono (B0.out).size))
    have Ox1 := Lib.hid (o1_.weak (B0.out).size)
    go_wp2_with fail
    refine (sCodeWeights_calls a b _).mono ?_
    rintro e w2_ ⟨v2_, he, o2_, b2_⟩
    rw [H.out] at he o2_
    dsimp only at he o2_
    subst he
    obtain ⟨Ay, cy, rfl⟩ := o2_.slice
    have B2 := Lib.hid ((B1.out).trans (b2_.mono (B1.out).size))
    have Ox2 := Lib.hid ((Ox1.out).below b2_)
    have Oy2 := Lib.hid (o2_.weak (B1.out).size)
    go_wp2_with fail
    refine (sameInts_calls _ _ _ _ [] [] _ (Ox2.out).rds (Oy2.out).rds (Ox2.out).len_le (Oy2.out).len_le).mono ?_
    rintro e w' ⟨he, k3_, rfl⟩
    rw [eqL_refl] at he
    subst he
    have B3 := Lib.hid (below_drewN (B2.out) k3_)
    have Ox3 := Lib.hid ((Ox2.out).drewN k3_)
    have Oy3 := Lib.hid ((Oy2.out).drewN k3_)
    go_wp2_with fail
    refine (sameInts_calls _ _ _ _ [] [] _ (Ox3.out).rds (Oy3.out).rds (Ox3.out).len_le (Oy3.out).len_le).mono ?_
    rintro e w' ⟨he, k4_, rfl⟩
    rw [eqL_refl] at he
    subst he
    have B4 := Lib.hid (below_drewN (B3.out) k4_)
    have Ox4 := Lib.hid ((Ox3.out).drewN k4_)
    have Oy4 := Lib.hid ((Oy3.out).drewN k4_)
    go_wp2_with fail
    go_ret
    first | exact ⟨rfl, B4.out⟩ | exact ⟨rfl, by have hB := B4.out; simp only [World.drewN_drewN] at hB; exact hB⟩
  · have H := Lib.hid (show cWeights a b = (cntF (msgs a.toNat b.toNat), true) by simp [cWeights, hb])
    obtain ⟨h0, h1, h2⟩ := (wgtB_iff a b).1 hb
    have hl := cntF_len (msgs a.toNat b.toNat)
    have hsum := cnt_sum (msgs a.toNat b.toNat)
    have hml := msgs_len a.toNat b.toNat
    have hz := fun k hk => cnt_zero (msgs a.toNat b.toNat) (msgs_lt a.toNat b.toNat (by omega)) k hk
    have hsr := fun k hk => sumTo_rng (msgs a.toNat b.toNat) k hk
    have hcr := fun k hk => cntF_rng (msgs a.toNat b.toNat) k hk
    have hall : a = 0 → b = 4095 → (cntF (msgs a.toNat b.toNat)).getD 0 0 = 1 ∧ (cntF (msgs a.toNat b.toNat)).getD 8 0 = 759 ∧ (cntF (msgs a.toNat b.toNat)).getD 12 0 = 2576 ∧ (cntF (msgs a.toNat b.toNat)).getD 16 0 = 759 ∧ (cntF (msgs a.toNat b.toNat)).getD 24 0 = 1 := by
      rintro rfl rfl
      have e : msgs (0 : Int).toNat (4095 : Int).toNat = List.range 4096 := msgs_all
      rw [e]; exact cnt_all
    rw [hml] at hsum hsr hcr
    have hlen : ((b.toNat + 1 - a.toNat : Nat) : Int) = b - a + 1 := by omega
    have hle : b.toNat + 1 - a.toNat ≤ 4096 := by omega
    rw [hlen] at hsum
    have HZ := Lib.hid hz
    have HSR := Lib.hid hsr
    have HCR := Lib.hid hcr
    have HALL := Lib.hid hall
    have HSUM := Lib.hid hsum
    have HL := Lib.hid hl
    clear hl hb hml hz hsr hcr hall hsum
    generalize cntF (msgs a.toNat b.toNat) = cs at *
    go_wp2_with fail
    refine (iCodeWeights_calls a b _ (hT.below (B0.out) hT.lt)).mono ?_
    rintro e w1_ ⟨v1_, he, o1_, b1_⟩
    rw [H.out] at he o1_
    dsimp only at he o1_
    subst he
    obtain ⟨Ax, cx, rfl⟩ := o1_.slice
    have B1 := Lib.hid ((B0.out).trans (b1_.mono (B0.out).size))
    have Ox1 := Lib.hid (o1_.weak (B0.out).size)
    go_wp2_with fail
    refine (sCodeWeights_calls a b _).mono ?_
    rintro e w2_ ⟨v2_, he, o2_, b2_⟩
    rw [H.out] at he o2_
    dsimp only at he o2_
    subst he
    obtain ⟨Ay, cy, rfl⟩ := o2_.slice
    have B2 := Lib.hid ((B1.out).trans (b2_.mono (B1.out).size))
    have Ox2 := Lib.hid ((Ox1.out).below b2_)
    have Oy2 := Lib.hid (o2_.weak (B1.out).size)
    go_wp2_with fail
    refine (sameInts_calls _ _ _ _ cs cs _ (Ox2.out).rds (Oy2.out).rds (Ox2.out).len_le (Oy2.out).len_le).mono ?_
    rintro e w' ⟨he, k3_, rfl⟩
    rw [eqL_refl] at he
    subst he
    have B3 := Lib.hid (below_drewN (B2.out) k3_)
    have Ox3 := Lib.hid ((Ox2.out).drewN k3_)
    have Oy3 := Lib.hid ((Oy2.out).drewN k3_)
    have hl := HL.out
    obtain ⟨g, rfl, _, _⟩ := own_at (Ox3.out) (by rw [hl]; omega)
    have HX := Lib.hid (Ox3.out)
    have HBZ := Lib.hid (B3.out)
    go_wp2_with fail
    go_loop [9, 10] (fun n i => ∃ k : Nat, k ≤ 25 ∧ i = .int .i64 k ∧ n = .int .i64 (sumTo cs k)) (fun _ i => 25 - (intOf i).toNat)
    case atStart => exact ⟨0, by omega, rfl, rfl⟩
    case round =>
      obtain ⟨k, hk, rfl, rfl⟩ := hrel
      by_cases hlt : k < 25
      · have hc := HX.out.cell (j := k) (by omega)
        have hs := HSR.out k hk
        have hy := HCR.out k hlt
        have HS := Lib.hid (show sumTo cs (k + 1) = sumTo cs k + cs.getD k 0 from rfl)
        have hZ := HZ.out k hlt
        by_cases hy0 : cs.getD k 0 = 0
        · have hy1 : (cs.getD k 0 != 0) = false := by simpa using hy0
          clear hy0 hZ
          generalize cs.getD k 0 = y at *
          generalize sumTo cs k = s at *
          go_wp2
          go_round
          case rel => exact ⟨k + 1, by omega, by go_num, by rw [HS.out]⟩
          case measure => simp [intOf]; omega
        · have hy1 : (cs.getD k 0 != 0) = true := by simpa using hy0
          have hk5 : k = 0 ∨ k = 8 ∨ k = 12 ∨ k = 16 ∨ k = 24 := by
            apply Classical.byContradiction
            intro hn
            exact hy0 (hZ (by omega) (by omega) (by omega) (by omega) (by omega))
          clear hy0 hZ
          generalize cs.getD k 0 = y at *
          generalize sumTo cs k = s at *
          obtain rfl | rfl | rfl | rfl | rfl := hk5
          all_goals
            go_wp2
            go_round
            case rel => first | exact ⟨0 + 1, by omega, by go_num, by rw [HS.out]⟩ | exact ⟨8 + 1, by omega, by go_num, by rw [HS.out]⟩ | exact ⟨12 + 1, by omega, by go_num, by rw [HS.out]⟩ | exact ⟨16 + 1, by omega, by go_num, by rw [HS.out]⟩ | exact ⟨24 + 1, by omega, by go_num, by rw [HS.out]⟩
            case measure => simp [intOf]
      · obtain rfl : k = 25 := by omega
        have c0 := HX.out.cell (j := 0) (by omega)
        have c8 := HX.out.cell (j := 8) (by omega)
        have c12 := HX.out.cell (j := 12) (by omega)
        have c16 := HX.out.cell (j := 16) (by omega)
        have c24 := HX.out.cell (j := 24) (by omega)
        have hsum := HSUM.out
        have hl25 : (cs.length : Int) = 25 := by omega
        by_cases ha : a = 0 ∧ b = 4095
        · obtain ⟨rfl, rfl⟩ := ha
          obtain ⟨e0, e8, e12, e16, e24⟩ := HALL.out rfl rfl
          rw [e0] at c0
          rw [e8] at c8
          rw [e12] at c12
          rw [e16] at c16
          rw [e24] at c24
          have hs25 : sumTo cs 25 = 4096 := by omega
          rw [hs25]
          go_wp2
          go_ret
          exact ⟨rfl, HBZ.out⟩
        · by_cases ha0 : a = 0
          · have hb0 : (b == 4095) = false := by simp; omega
            have hs25 : (sumTo cs 25 == b - a + 1) = true := by simpa using hsum
            clear ha
            subst ha0
            go_wp2
            go_ret
            exact ⟨rfl, HBZ.out⟩
          · have ha1 : (a == 0) = false := by simpa using ha0
            have hs25 : (sumTo cs 25 == b - a + 1) = true := by simpa using hsum
            clear ha ha0
            go_wp2
            go_ret
            exact ⟨rfl, HBZ.out⟩
end Go.Proofs.YtnbefojdejgccaaDoor
