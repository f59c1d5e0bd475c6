/- PermHex and PermScale of the model. -/
import Derived.Test.YtakefnfhjiodnaaDoorC110
import Derived.Test.YtakefnfhjiodnaaDoorC22
namespace Go.Proofs.YtakefnfhjiodnaaDoor
open Go.RowKit
set_option linter.unusedVariables false
attribute [local irreducible] cN syn

set_option maxRecDepth 100000 in
set_option maxHeartbeats 2000000 in
theorem sPermHex_calls (A : Option Addr) (c : Nat) (xs : List Int) (w : World) (ha : Rds w w.heap.size .i64 A xs) (hx : xs.length ≤ maxLen) :
    Calls Tryd.prog 43 #[.slice A xs.length c] w (GotL w (plHex xs).1 (plHex xs).2) := by
  have HE := Lib.hid (own_empty2 w w.heap.size (Nat.le_refl _))
  have HB0 := Lib.hid ((Below.refl w.heap.size w).alloc (Nat.le_refl _) (.cells #[] 3))
  have HA := Lib.hid (fun (W : World) (h : Below w.heap.size w W) => sHexIn_calls A c xs W ((ha.below h).more h.size) hx)
  rcases hb : hIn xs with _ | _
  · rw [show plHex xs = ([], false) by simp [plHex, hb]]
    simp only [hb] at HA
    clear ha hx hb
    generalize xs.length = n at *
    go_enter Tryd.func43, Tryd.ntmps43
    go_wp2_with fail
    refine (HA.out _ HB0.out).mono ?_
    rintro e w' ⟨rfl, b1⟩
    have HE1 := Lib.hid (HE.out.below b1)
    have HB1 := Lib.hid (HB0.out.trans (b1.mono HB0.out.size))
    clear b1
    go_wp2_with fail
    go_ret2
    exact ⟨_, rfl, HE1.out, HB1.out⟩
  · rw [show plHex xs = (hexP xs, true) by simp [plHex, hb]]
    have hrow : IsRow6 xs := by
      simp only [hIn, Bool.and_eq_true] at hb
      exact (rowB_iff xs).1 hb.1
    simp only [hb] at HA
    have HL := Lib.hid hrow.1
    have HG := Lib.hid (fun k => hrow.get k)
    have HAT := Lib.hid (fun k hk => hexP_at xs k hk)
    have hzl := hexP_len xs
    have HLX := Lib.hid hzl
    have HST := Lib.hid (fun k (hk : k < 24) => show (hexP xs).take k ++ [(hexP xs).getD k 0] = (hexP xs).take (k + 1) from (take_succ_getD (hexP xs) k (by omega)).symm)
    generalize hexP xs = zs at *
    clear hzl hb hx hrow
    go_enter Tryd.func43, Tryd.ntmps43
    go_wp2_with fail
    refine (HA.out _ HB0.out).mono ?_
    rintro e w' ⟨rfl, b1⟩
    have HE1 := Lib.hid (HE.out.below b1)
    have HB1 := Lib.hid (HB0.out.trans (b1.mono HB0.out.size))
    clear b1
    go_wp2_with fail
    go_loopw [4, 5] (fun v i wr => ∃ k : Nat, k ≤ 24 ∧ i = .int .i64 k ∧ Hid (Own wr w.heap.size v (zs.take k)) ∧ Hid (Below w.heap.size w wr)) (fun _ i _ => 24 - (intOf i).toNat)
    case atStart => exact ⟨0, by omega, rfl, HE1, HB1⟩
    case round =>
      obtain ⟨k, hk, rfl, ho, hbw⟩ := hrel
      clear HE HE1 HA HB0 HB1
      by_cases hlt : k < 24
      · have hk1 : (0 : Int) ≤ (k : Int) := by omega
        have hk2 : (k : Int) < 24 := by omega
        obtain ⟨B1, o1, rfl, hB1, c1⟩ := (ha.below hbw.out).at_ (j := k / 4) (by have := HL.out; omega)
        have HS := Lib.hid (HST.out k hlt)
        have hat := HAT.out k hlt
        have hg := HG.out (k / 4)
        have hlen : (zs.take k).length ≤ 24 := by rw [List.length_take]; omega
        have kl : ((k / 4 : Nat) : Int) < xs.length := by have := HL.out; omega
        generalize xs.getD (k / 4) 0 = d at *
        obtain ⟨d0, d1⟩ := hg
        have hq : wrap64 ((k : Int).tdiv 4) = ((k / 4 : Nat) : Int) := by
          rw [show (k : Int).tdiv 4 = ((k / 4 : Nat) : Int) by rw [Int.tdiv_eq_ediv_of_nonneg hk1]; omega]
          exact IntWalk.wrap64_in _ (by omega)
        have hxy : bits .xor .i64 ((k : Int) % 4) d = xorI ((k % 4 : Nat) : Int) d := by
          rw [show (k : Int) % 4 = ((k % 4 : Nat) : Int) by omega]
          exact xor_i64 _ _ (by omega) (by omega) d0 (by omega)
        have hx3 := xorI_lt4 ((k % 4 : Nat) : Int) d (by omega) d1
        have hx0 := xorI_nonneg ((k % 4 : Nat) : Int) d
        generalize zs.getD k 0 = y at *
        have HV := Lib.hid (show wrap64 ((k : Int) / 4 * 4 + bits .xor .i64 ((k : Int) % 4) d) = y by
          rw [hxy, hat, show ((k / 4 * 4 : Nat) : Int) = (k : Int) / 4 * 4 by omega]
          exact IntWalk.wrap64_in _ (by omega))
        have hsz := hbw.out.size
        clear hxy hat hx3 hx0 hq
        go_wp2_with (at_builtin; refine wpList_push rfl _ _ rfl wr w.heap.size _ _ _ _ rfl rfl (by exact ho.out) (by omega) hsz ?_; intro v2 w2 ho2 hb2 hg2; rw [HV.out] at ho2)
        rw [HS.out] at ho2
        go_roundw
        case rel => exact ⟨k + 1, by omega, by go_num, Lib.hid ho2, Lib.hid (hbw.out.trans hb2)⟩
        case measure => simp [intOf]; omega
      · obtain rfl : k = 24 := by omega
        have ho2 := ho.out
        rw [List.take_of_length_le (by rw [HLX.out]; omega)] at ho2
        have HO := Lib.hid ho2
        clear ho2 ho
        go_wp2
        go_ret2
        exact ⟨_, rfl, HO.out, hbw.out⟩
set_option maxRecDepth 100000 in
set_option maxHeartbeats 2000000 in
theorem sPermScale_calls (n : Int) (w : World) :
    Calls Tryd.prog 47 #[.int .i64 n] w (GotL w (plScale n).1 (plScale n).2) := by
  have HE := Lib.hid (own_empty2 w w.heap.size (Nat.le_refl _))
  have HB0 := Lib.hid ((Below.refl w.heap.size w).alloc (Nat.le_refl _) (.cells #[] 3))
  by_cases hn : 1 ≤ n ∧ n ≤ 3
  · rw [show plScale n = (scP n, true) by simp [plScale, hn]]
    have HD : Hid (IsD n) := Lib.hid ⟨by omega, by omega⟩
    have HAT := Lib.hid (fun k hk => scP_at n k hk)
    have hzl := scP_len n
    have HLX := Lib.hid hzl
    have HST := Lib.hid (fun k (hk : k < 24) => show (scP n).take k ++ [(scP n).getD k 0] = (scP n).take (k + 1) from (take_succ_getD (scP n) k (by omega)).symm)
    generalize scP n = zs at *
    clear hzl
    go_enter Tryd.func47, Tryd.ntmps47
    go_wp2_with (go_at_call 52; refine (l6In_ok _ _ _ _ hn.1 hn.2).mono ?_; rintro e w' ⟨rfl, rfl⟩)
    go_loopw [4, 5] (fun v i wr => ∃ k : Nat, k ≤ 24 ∧ i = .int .i64 k ∧ Hid (Own wr w.heap.size v (zs.take k)) ∧ Hid (Below w.heap.size w wr)) (fun _ i _ => 24 - (intOf i).toNat)
    case atStart => exact ⟨0, by omega, rfl, HE, HB0⟩
    case round =>
      obtain ⟨k, hk, rfl, ho, hbw⟩ := hrel
      clear HE HB0
      by_cases hlt : k < 24
      · have hk1 : (0 : Int) ≤ (k : Int) := by omega
        have hk2 : (k : Int) < 24 := by omega
        have HS := Lib.hid (HST.out k hlt)
        have hat := HAT.out k hlt
        have hlen : (zs.take k).length ≤ 24 := by rw [List.length_take]; omega
        have HK : Hid (IsD ((k : Int) % 4)) := Lib.hid ⟨by omega, by omega⟩
        have hm := mulD_d HK.out HD.out
        rw [show ((k % 4 : Nat) : Int) = (k : Int) % 4 by omega] at hat
        generalize zs.getD k 0 = y at *
        obtain ⟨m, hme⟩ : ∃ m, mulD ((k : Int) % 4) n = m := ⟨_, rfl⟩
        rw [hme] at hm hat
        obtain ⟨m0, m1⟩ := hm
        have HME := Lib.hid hme
        have HV := Lib.hid (show (k : Int) / 4 * 4 + m = y by omega)
        have hsz := hbw.out.size
        clear hat hme
        go_wp2_with (first
          | (go_at_call 93; refine (l2Times_d _ _ _ HK.out HD.out).mono ?_; rintro e w' ⟨he, rfl⟩; rw [HME.out] at he; subst he)
          | (at_builtin; refine wpList_push rfl _ _ rfl wr w.heap.size _ _ _ _ rfl rfl (by exact ho.out) (by omega) hsz ?_; intro v2 w2 ho2 hb2 hg2; rw [HV.out] at ho2))
        rw [HS.out] at ho2
        go_roundw
        case rel => exact ⟨k + 1, by omega, by go_num, Lib.hid ho2, Lib.hid (hbw.out.trans hb2)⟩
        case measure => simp [intOf]; omega
      · obtain rfl : k = 24 := by omega
        have ho2 := ho.out
        rw [List.take_of_length_le (by rw [HLX.out]; omega)] at ho2
        have HO := Lib.hid ho2
        clear ho2 ho
        go_wp2
        go_ret2
        exact ⟨_, rfl, HO.out, hbw.out⟩
  · rw [show plScale n = ([], false) by simp [plScale, hn]]
    go_enter Tryd.func47, Tryd.ntmps47
    go_wp2_with (go_at_call 52; refine (l6In_no _ _ _ _ (by omega)).mono ?_; rintro e w' ⟨rfl, rfl⟩)
    go_ret2
    exact ⟨_, rfl, HE.out, HB0.out⟩
end Go.Proofs.YtakefnfhjiodnaaDoor
