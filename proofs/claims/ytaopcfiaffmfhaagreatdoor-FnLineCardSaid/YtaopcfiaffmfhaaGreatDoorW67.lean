/- The walk of the promise of the line through two points. -/
import Derived.Test.YtaopcfiaffmfhaaGreatDoorR1
import Derived.Test.YtaopcfiaffmfhaaGreatDoorQ9
import Derived.Test.YtaopcfiaffmfhaaGreatDoorC148
namespace Go.Proofs.YtaopcfiaffmfhaaGreatDoor
open Go.RowKit
set_option linter.unusedVariables false
attribute [local irreducible] octS cN octF syn

set_option maxHeartbeats 4000000 in
theorem walk_FnLine (a0 : Option Addr) (len0 cap0 : Nat) (z0 : List Int) (w : World) (w0 : IsRow .u8 w a0 len0 cap0 z0) (hT : Tab2E w) :
    Calls Tryz.prog 3 #[.slice a0 len0 cap0] w fun e w' => e = .returned (.bool true) ∧ Below w.heap.size w w' := by
  obtain ⟨bs, rfl, hr, hc, hm, hv⟩ := w0.bytes
  have hm' := hm
  unfold maxLen at hm'
  by_cases hbig : 1048576 < bs.length
  · go_enter Tryz.func3, Tryz.ntmps3
    go_wp2_with fail
    go_ret
    exact ⟨rfl, Below.refl _ _⟩
  have hbig' : bs.length ≤ 1048576 := by omega
  clear hbig
  go_enter Tryz.func3, Tryz.ntmps3
  go_wp2_with fail
  refine (DrawPlaneLine_calls _ _ bs _ hr hc hm hv).mono ?_
  rintro e w1 ⟨b, x, y, rfl, b1⟩
  have B0 := Lib.hid (b1)
  rcases plLine_cases b x y with H0 | ⟨B, P, Q, l, rfl, hB, rfl, rfl, hP, hQ, H0, H1, H2, hmem, hl, l1, l2⟩
  · have H := Lib.hid H0
    clear H0
    go_wp2_with fail
    refine (iPlaneLine_calls b x y _ (hT.below (B0.out) hT.lt).two (hT.below (B0.out) hT.lt).hand).mono ?_
    rintro e w1_ ⟨he, b1_⟩
    rw [H.out] at he
    dsimp only at he
    subst he
    have B1 := Lib.hid ((B0.out).trans (b1_.mono (B0.out).size))
    go_wp2_with fail
    refine (sPlaneLine_calls b x y _).mono ?_
    rintro e w2_ ⟨he, b2_⟩
    rw [H.out] at he
    dsimp only at he
    subst he
    have B2 := Lib.hid ((B1.out).trans (b2_.mono (B1.out).size))
    go_wp2_with fail
    go_ret
    first | exact ⟨rfl, B2.out⟩ | exact ⟨rfl, by have hB := B2.out; simp only [World.drewN_drewN] at hB; exact hB⟩
  · have H := Lib.hid H0
    have HR := Lib.hid H1
    have HL := Lib.hid H2
    have hp0 : (0 : Int) ≤ (l : Int) / 2 ^ P := Int.ediv_nonneg (by omega) (Int.le_of_lt (Int.pow_pos (by decide)))
    have hq0 : (0 : Int) ≤ (l : Int) / 2 ^ Q := Int.ediv_nonneg (by omega) (Int.le_of_lt (Int.pow_pos (by decide)))
    have hpt : ((l : Int) / 2 ^ P).tmod 2 = 1 := by rw [Int.tmod_eq_emod_of_nonneg hp0]; exact bit_in l P l1
    have hqt : ((l : Int) / 2 ^ Q).tmod 2 = 1 := by rw [Int.tmod_eq_emod_of_nonneg hq0]; exact bit_in l Q l2
    have hP0 : (0 : Int) ≤ (P : Int) := by omega
    have hP1 : (P : Int) < 64 := by omega
    have hQ0 : (0 : Int) ≤ (Q : Int) := by omega
    have hQ1 : (Q : Int) < 64 := by omega
    have HLEN := Lib.hid (lns_len hB)
    have HC := Lib.hid (fun k (hk : k < 21) => show ((lns (B : Int)).take (k + 1)).contains (l : Int) = (((lns (B : Int)).take k).contains (l : Int) || ((lns (B : Int)).getD k 0 == (l : Int))) by
      rw [tk_succ _ k (by rw [lns_len hB]; exact hk), List.contains_append]
      congr 1
      rw [List.contains_cons, List.contains_nil, Bool.or_false, Bool.eq_iff_iff, beq_iff_eq, beq_iff_eq]
      exact eq_comm)
    have HA := Lib.hid (show ((lns (B : Int)).take 21).contains (l : Int) = true by rw [List.take_of_length_le (by rw [lns_len hB]; exact Nat.le_refl _)]; simpa using hmem)
    have HZ := Lib.hid (show ((lns (B : Int)).take 0).contains (l : Int) = false from rfl)
    clear H0 H1 H2 hmem l1 l2 hp0 hq0
    generalize lns (B : Int) = zs at *
    generalize (B : Int) = b at *
    generalize (l : Int) = l at *
    go_wp2_with fail
    refine (iPlaneLine_calls b (P : Int) (Q : Int) _ (hT.below (B0.out) hT.lt).two (hT.below (B0.out) hT.lt).hand).mono ?_
    rintro e w1_ ⟨he, b1_⟩
    rw [H.out] at he
    dsimp only at he
    subst he
    have B1 := Lib.hid ((B0.out).trans (b1_.mono (B0.out).size))
    go_wp2_with fail
    refine (sPlaneLine_calls b (P : Int) (Q : Int) _).mono ?_
    rintro e w2_ ⟨he, b2_⟩
    rw [H.out] at he
    dsimp only at he
    subst he
    have B2 := Lib.hid ((B1.out).trans (b2_.mono (B1.out).size))
    go_wp2_with fail
    refine (iPlaneLine_calls b (Q : Int) (P : Int) _ (hT.below (B2.out) hT.lt).two (hT.below (B2.out) hT.lt).hand).mono ?_
    rintro e w3_ ⟨he, b3_⟩
    rw [HR.out] at he
    dsimp only at he
    subst he
    have B3 := Lib.hid ((B2.out).trans (b3_.mono (B2.out).size))
    go_wp2_with fail
    refine (iPlaneLines_calls b _ (hT.below (B3.out) hT.lt).two).mono ?_
    rintro e w4_ ⟨v4_, he, o4_, b4_⟩
    rw [HL.out] at he o4_
    dsimp only at he o4_
    subst he
    obtain ⟨Ax, cx, rfl⟩ := o4_.slice
    have B4 := Lib.hid ((B3.out).trans (b4_.mono (B3.out).size))
    have HX := Lib.hid o4_.rds
    have hl21 : ((zs.length : Nat) : Int) = 21 := by rw [HLEN.out]; rfl
    rw [HLEN.out]
    clear o4_ b4_ b3_ b2_ b1_
    go_wp2_with fail
    go_loopw [14, 15] (fun fd v wq => ∃ k : Nat, v = .int .i64 (k : Nat) ∧ k ≤ 21 ∧ fd = .bool ((zs.take k).contains l) ∧ Hid (wq = w4_)) (fun _ v _ => 21 - (intOf v).toNat)
    case atStart => exact ⟨0, rfl, by omega, by rw [HZ.out], Lib.hid rfl⟩
    case round =>
      obtain ⟨k, rfl, hk, rfl, HW⟩ := hrel
      have hW := HW.out
      subst hW
      by_cases hlt : k < 21
      · obtain ⟨bb, o, rfl, hb1, hc⟩ := HX.out.at_ (j := k) (by rw [HLEN.out]; exact hlt)
        have HS := Lib.hid (HC.out k hlt)
        have hk1 : (0 : Int) ≤ (k : Int) := by omega
        have hk2 : (k : Int) < 21 := by omega
        generalize (zs.take k).contains l = fd at *
        generalize zs.getD k 0 = z at *
        rcases fd with _ | _
        · rcases hz : (z == l) with _ | _
          · have HS2 := Lib.hid (show (zs.take (k + 1)).contains l = false by rw [HS.out, hz]; rfl)
            clear HS
            go_wp2_with fail
            go_roundw
            case rel => exact ⟨k + 1, by go_num, by omega, by rw [HS2.out], Lib.hid (by first | exact rfl | trivial)⟩
            case measure => simp [intOf]; omega
          · have HS2 := Lib.hid (show (zs.take (k + 1)).contains l = true by rw [HS.out, hz]; rfl)
            clear HS
            go_wp2_with fail
            go_roundw
            case rel => exact ⟨k + 1, by go_num, by omega, by rw [HS2.out], Lib.hid (by first | exact rfl | trivial)⟩
            case measure => simp [intOf]; omega
        · have HS2 := Lib.hid (show (zs.take (k + 1)).contains l = true by rw [HS.out]; rfl)
          clear HS
          go_wp2_with fail
          go_roundw
          case rel => exact ⟨k + 1, by go_num, by omega, by rw [HS2.out], Lib.hid (by first | exact rfl | trivial)⟩
          case measure => simp [intOf]; omega
      · obtain rfl : k = 21 := by omega
        rw [HA.out]
        go_wp2_with fail
        go_ret
        first | exact ⟨rfl, B4.out⟩ | exact B4.out
end Go.Proofs.YtaopcfiaffmfhaaGreatDoor
