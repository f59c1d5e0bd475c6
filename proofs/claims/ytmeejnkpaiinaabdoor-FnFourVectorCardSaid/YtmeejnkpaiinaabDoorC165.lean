/- Vectors of the model: LatticeFlip, LatticeThree, LatticeFour, LatticeOctad. -/
import Derived.Test.YtmeejnkpaiinaabDoorC164
import Derived.Test.YtmeejnkpaiinaabDoorC28
import Derived.Test.YtmeejnkpaiinaabDoorQ7
import Derived.Test.YtmeejnkpaiinaabDoorC12
import Derived.Test.YtmeejnkpaiinaabDoorM44
namespace Go.Proofs.YtmeejnkpaiinaabDoor
open Go.RowKit
set_option linter.unusedVariables false
set_option linter.unusedSimpArgs false
attribute [local irreducible] cN syn

theorem bit_of (W : Nat) (k : Nat) : (bitI (W : Int) (k : Int) == 1) = W.testBit k := by
  rw [bitI_nat]
  cases W.testBit k <;> rfl
theorem atL_get {w : World} {b o : Nat} {xs : List Int} {k : Nat} (h : w.cell? ⟨b, o + k, none⟩ = some (.int .i64 (xs.getD k 0))) : w.cell? ⟨b, o + k, none⟩ = some (.int .i64 (atL xs k)) := h
theorem vL_take (f : Nat → Int) (k : Nat) (hk : k < 24) : (vL f).take k ++ [f k] = (vL f).take (k + 1) := by
  rw [take_succ_getD _ k (by rw [vL_len]; exact hk), vL_get f k hk]
set_option maxHeartbeats 1000000 in
theorem l9Flip_calls (A : Option Addr) (c : Nat) (xs : List Int) (W : Nat) (w : World) (ha : Rds w w.heap.size .i64 A xs) (hl : xs.length = 24) (hr : ∀ k, -100000 ≤ atL xs k ∧ atL xs k ≤ 100000) :
    Calls Tryd.prog 52 #[.slice A xs.length c, .int .i64 W] w fun e w' => ∃ v, e = .returned v ∧ Own w' w.heap.size v (vL (flipF W (atL xs))) ∧ Below w.heap.size w w' := by
  have HE := Lib.hid (own_empty2 w w.heap.size (Nat.le_refl _))
  have HST := Lib.hid (fun k hk => vL_take (flipF W (atL xs)) k hk)
  have HF1 := Lib.hid (show ∀ k, W.testBit k = true → flipF W (atL xs) k = -atL xs k by intro k h; simp [flipF, h])
  have HF0 := Lib.hid (show ∀ k, W.testBit k = false → flipF W (atL xs) k = atL xs k by intro k h; simp [flipF, h])
  have HZL := Lib.hid (vL_len (flipF W (atL xs)))
  generalize vL (flipF W (atL xs)) = zs at *
  generalize flipF W (atL xs) = F at *
  have HL := Lib.hid hl
  have HRG := Lib.hid hr
  clear hl hr
  go_enter Tryd.func52, Tryd.ntmps52
  go_wp2_with fail
  go_loopw [5, 6] (fun v i wr => ∃ k : Nat, k ≤ 24 ∧ i = .int .i64 k ∧ Hid (Own wr w.heap.size v (zs.take k)) ∧ Hid (Below w.heap.size w wr)) (fun _ i _ => 24 - (intOf i).toNat)
  case atStart => exact ⟨0, by omega, rfl, HE, Lib.hid ((Below.refl _ _).alloc (Nat.le_refl _) _)⟩
  case round =>
    obtain ⟨k, hk, rfl, ho, hb⟩ := hrel
    clear HE
    by_cases hlt : k < 24
    · obtain ⟨B1, o1, rfl, hB1, c1⟩ := (ha.below hb.out).at_ (j := k) (by have := HL.out; omega)
      replace c1 := atL_get c1
      have k1 : (k : Int) < xs.length := by have := HL.out; omega
      have hlen : (zs.take k).length ≤ 24 := by rw [List.length_take]; omega
      have hrg := HRG.out k
      have hsz := hb.out.size
      have l1 : B1 < wr.heap.size := by omega
      have hbb := bit_of W k
      have HS := Lib.hid (HST.out k hlt)
      cases hB : W.testBit k
      · rw [HF0.out k hB] at HS
        rw [hB] at hbb
        clear hB
        generalize atL xs k = x at *
        go_wp2_with (first
          | (go_at_call 62; refine (l1Bit_calls _ _ _ (by omega) (by omega)).mono ?_; rintro e w' ⟨rfl, rfl⟩)
          | (at_builtin; refine wpList_push rfl _ _ rfl wr w.heap.size u5 (zs.take k) x 1 rfl rfl ho.out (by omega) hsz ?_; intro v2 w2 ho2 hb2 hg2))
        rw [HS.out] at ho2
        go_roundw
        case rel => exact ⟨k + 1, by omega, by go_num, Lib.hid ho2, Lib.hid (hb.out.trans hb2)⟩
        case measure => simp [intOf]; omega
      · rw [HF1.out k hB] at HS
        rw [hB] at hbb
        clear hB
        generalize atL xs k = x at *
        have hwn : wrap64 (-x) = -x := wrap64_of _ (by omega) (by omega)
        go_wp2_with (first
          | (go_at_call 62; refine (l1Bit_calls _ _ _ (by omega) (by omega)).mono ?_; rintro e w' ⟨rfl, rfl⟩)
          | (at_builtin; refine wpList_push rfl _ _ rfl wr w.heap.size u5 (zs.take k) (-x) 1 rfl rfl ho.out (by omega) hsz ?_; intro v2 w2 ho2 hb2 hg2))
        rw [HS.out] at ho2
        go_roundw
        case rel => exact ⟨k + 1, by omega, by go_num, Lib.hid ho2, Lib.hid (hb.out.trans hb2)⟩
        case measure => simp [intOf]; omega
    · obtain rfl : k = 24 := by omega
      have ho2 := ho.out
      rw [List.take_of_length_le (by rw [HZL.out]; omega)] at ho2
      go_wp2
      go_ret
      exact ⟨_, rfl, ho2, hb.out⟩
set_option maxHeartbeats 1000000 in
theorem sLatticeFlip_calls (A : Option Addr) (c : Nat) (xs : List Int) (n : Int) (w : World) (ha : Rds w w.heap.size .i64 A xs) (hx : xs.length ≤ maxLen) :
    Calls Tryd.prog 22 #[.slice A xs.length c, .int .i64 n] w (GotL w (lvFlip xs n).1 (lvFlip xs n).2) := by
  have HV := Lib.hid (sVectorValid_calls A c xs w ha hx)
  have HE := Lib.hid (own_empty2 w w.heap.size (Nat.le_refl _))
  rcases hb : vecB xs with _ | _
  · rw [show lvFlip xs n = ([], false) by simp [lvFlip, hb]]
    rw [hb] at HV
    clear ha hx hb
    generalize xs.length = m at *
    go_enter Tryd.func22, Tryd.ntmps22
    go_wp2_with fail
    refine HV.out.mono ?_
    rintro e w' ⟨rfl, rfl⟩
    go_wp2_with fail
    go_ret2
    exact ⟨_, rfl, HE.out, (Below.refl _ _).alloc (Nat.le_refl _) _⟩
  rcases hw : wordB n with _ | _
  · rw [show lvFlip xs n = ([], false) by simp [lvFlip, hw]]
    rw [hb] at HV
    have hn := (wordB_no n).1 hw
    clear ha hx hb hw
    generalize xs.length = m at *
    go_enter Tryd.func22, Tryd.ntmps22
    go_wp2_with fail
    refine HV.out.mono ?_
    rintro e w' ⟨rfl, rfl⟩
    go_wp2_with (go_at_call 51; refine (sWordValid_no _ _ hn).mono ?_; rintro e w' ⟨rfl, rfl⟩)
    go_ret2
    exact ⟨_, rfl, HE.out, (Below.refl _ _).alloc (Nat.le_refl _) _⟩
  · rw [show lvFlip xs n = (vL (flipF n.toNat (atL xs)), true) by simp [lvFlip, hb, hw, flipL]]
    rw [hb] at HV
    have hn := (wordB_iff n).1 hw
    obtain ⟨W, rfl⟩ := Int.eq_ofNat_of_zero_le hn.1
    rw [Int.toNat_natCast]
    have HF := Lib.hid (l9Flip_calls A c xs W w ha (vecB_len hb) (vecB_rng hb))
    clear ha hx hb hw
    generalize xs.length = m at *
    go_enter Tryd.func22, Tryd.ntmps22
    go_wp2_with fail
    refine HV.out.mono ?_
    rintro e w' ⟨rfl, rfl⟩
    go_wp2_with (go_at_call 51; refine (sWordValid_ok _ _ hn.1 hn.2).mono ?_; rintro e w' ⟨rfl, rfl⟩)
    refine HF.out.mono ?_
    rintro e w2 ⟨v, rfl, o2, b2⟩
    go_wp2_with fail
    go_ret2
    exact ⟨_, rfl, o2, b2⟩
theorem ones_set (q : Nat) (hq : q < 24) : (List.replicate 24 (1 : Int)).set q (-3) = vL (threeV q) := by
  rw [show List.replicate 24 (1 : Int) = vL (fun _ => 1) from rfl, vL_set _ q (-3) hq]
  rfl
theorem three_at (q k : Nat) : -100000 ≤ atL (vL (threeV q)) k ∧ atL (vL (threeV q)) k ≤ 100000 := by
  by_cases h : k < 24
  · rw [atL_vL _ k h]; unfold threeV; split <;> omega
  · have : atL (vL (threeV q)) k = 0 := by simp [atL, List.getD, List.getElem?_eq_none (show (vL (threeV q)).length ≤ k by rw [vL_len]; omega)]
    omega
set_option maxHeartbeats 1000000 in
theorem sLatticeThree_calls (n q : Int) (w : World) :
    Calls Tryd.prog 29 #[.int .i64 n, .int .i64 q] w (GotL w (lvThree n q).1 (lvThree n q).2) := by
  have HC := Lib.hid (sCodeIn_calls n w)
  rcases hc : cIn n with _ | _
  · rw [show lvThree n q = ([], false) by simp [lvThree, hc]]
    rw [hc] at HC
    clear hc
    go_enter Tryd.func29, Tryd.ntmps29
    go_wp2_with fail
    refine HC.out.mono ?_
    rintro e w1 ⟨rfl, b1⟩
    have HE := Lib.hid (own_empty2 w1 w.heap.size b1.size)
    go_wp2_with fail
    go_ret2
    exact ⟨_, rfl, HE.out, b1.alloc b1.size _⟩
  by_cases hq : 0 ≤ q ∧ q ≤ 23
  · obtain ⟨hq0, hq1⟩ := hq
    rw [show lvThree n q = (vL (flipF n.toNat (threeV q.toNat)), true) by simp [lvThree, hc, hq0, hq1]]
    have hn : IsW n := by simp only [cIn, Bool.and_eq_true] at hc; exact (wordB_iff n).1 hc.1
    rw [hc] at HC
    obtain ⟨W, rfl⟩ := Int.eq_ofNat_of_zero_le hn.1
    obtain ⟨Q, rfl⟩ := Int.eq_ofNat_of_zero_le hq0
    rw [Int.toNat_natCast, Int.toNat_natCast]
    have HFL := Lib.hid (fun A c V h => l9Flip_calls A c (vL (threeV Q)) W V h (vL_len _) (three_at Q))
    rw [vL_len] at HFL
    have HVF := Lib.hid (show vL (flipF W (atL (vL (threeV Q)))) = vL (flipF W (threeV Q)) from vL_ext _ _ fun p hp => by unfold flipF; rw [atL_vL _ p hp])
    rw [HVF.out] at HFL
    have HSET := Lib.hid (ones_set Q (by omega))
    clear hc hn
    go_enter Tryd.func29, Tryd.ntmps29
    go_wp2_with fail
    refine HC.out.mono ?_
    rintro e w1 ⟨rfl, b1⟩
    have HE := Lib.hid (own_empty2 w1 w.heap.size b1.size)
    have HB := Lib.hid (b1.alloc b1.size (.cells #[] 3))
    go_wp2_with (go_at_call 59; refine (l6In_ok _ _ _ _ (by omega) (by omega)).mono ?_; rintro e w' ⟨rfl, rfl⟩)
    go_loopw [6, 7] (fun v i wr => ∃ k : Nat, k ≤ 24 ∧ i = .int .i64 k ∧ Hid (Own wr w.heap.size v (List.replicate k 1)) ∧ Hid (Below w.heap.size w wr)) (fun _ i _ => 24 - (intOf i).toNat)
    case atStart => exact ⟨0, by omega, rfl, HE, HB⟩
    case round =>
      obtain ⟨k, hk, rfl, ho, hb⟩ := hrel
      clear HE HB
      by_cases hlt : k < 24
      · have hsz := hb.out.size
        have hlen : (List.replicate k (1 : Int)).length ≤ 24 := by simp; omega
        have HS := Lib.hid (show List.replicate k (1 : Int) ++ [1] = List.replicate (k + 1) 1 from (List.replicate_succ' ..).symm)
        generalize List.replicate k (1 : Int) = L at *
        go_wp2_with (at_builtin; refine wpList_push rfl _ _ rfl wr w.heap.size u6 L 1 1 rfl rfl ho.out (by omega) hsz ?_; intro v2 w2 ho2 hb2 hg2)
        rw [HS.out] at ho2
        go_roundw
        case rel => exact ⟨k + 1, by omega, by go_num, Lib.hid ho2, Lib.hid (hb.out.trans hb2)⟩
        case measure => simp [intOf]; omega
      · obtain rfl : k = 24 := by omega
        have ho2 := ho.out
        obtain ⟨A5, c5, rfl⟩ := ho2.slice
        rw [List.length_replicate] at ho2 ⊢
        obtain ⟨g, rfl, hg1, hg2⟩ := own_at ho2 (by omega)
        have hcx := ho2.cell (j := Q) (by simp; omega)
        have hfx := ho2.free Q
        have ho3 := ho2.set Q (-3)
        rw [HSET.out] at ho3
        have HO := Lib.hid ho3
        have HB2 := Lib.hid (hb.out.setCell (p := ⟨g, Q, none⟩) hg1 (.int .i64 (-3)))
        have HR := Lib.hid (HFL.out _ c5 _ HO.out.rds)
        clear ho3 ho ho2
        generalize (List.replicate 24 (1 : Int)).getD Q 0 = z at *
        go_wp2_with fail
        refine HR.out.mono ?_
        rintro e w5 ⟨v5, rfl, o5, b5⟩
        go_wp2_with fail
        go_ret2
        exact ⟨_, rfl, o5.weak HB2.out.size, HB2.out.trans (b5.mono HB2.out.size)⟩
  · rw [show lvThree n q = ([], false) by simp [lvThree, hc]; omega]
    rw [hc] at HC
    have hq' : q < 0 ∨ 23 < q := by omega
    clear hc hq
    go_enter Tryd.func29, Tryd.ntmps29
    go_wp2_with fail
    refine HC.out.mono ?_
    rintro e w1 ⟨rfl, b1⟩
    have HE := Lib.hid (own_empty2 w1 w.heap.size b1.size)
    go_wp2_with (go_at_call 59; refine (l6In_no _ _ _ _ hq').mono ?_; rintro e w' ⟨rfl, rfl⟩)
    go_ret2
    exact ⟨_, rfl, HE.out, b1.alloc b1.size _⟩
end Go.Proofs.YtmeejnkpaiinaabDoor
