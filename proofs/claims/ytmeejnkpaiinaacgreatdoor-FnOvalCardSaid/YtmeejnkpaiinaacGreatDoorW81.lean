/- The walk of the promise of an oval. -/
import Derived.Test.YtmeejnkpaiinaacGreatDoorR2
import Derived.Test.YtmeejnkpaiinaacGreatDoorR1
import Derived.Test.YtmeejnkpaiinaacGreatDoorQ9
import Derived.Test.YtmeejnkpaiinaacGreatDoorC148
namespace Go.Proofs.YtmeejnkpaiinaacGreatDoor
open Go.RowKit
set_option linter.unusedVariables false
set_option linter.unusedSimpArgs false
attribute [local irreducible] octS cN octF syn

set_option maxHeartbeats 4000000 in
theorem walk_FnOval (a0 : Option Addr) (len0 cap0 : Nat) (z0 : List Int) (w : World) (w0 : IsRow .u8 w a0 len0 cap0 z0) (hT : Tab3E w) :
    Calls Tryz.prog 5 #[.slice a0 len0 cap0] w fun e w' => e = .returned (.bool true) ∧ Below w.heap.size w w' := by
  obtain ⟨bs, rfl, hr, hc, hm, hv⟩ := w0.bytes
  have hm' := hm
  unfold maxLen at hm'
  by_cases hbig : 1048576 < bs.length
  · go_enter Tryz.func5, Tryz.ntmps5
    go_wp2_with fail
    go_ret
    exact ⟨rfl, Below.refl _ _⟩
  have hbig' : bs.length ≤ 1048576 := by omega
  clear hbig
  go_enter Tryz.func5, Tryz.ntmps5
  go_wp2_with fail
  refine (DrawPlaneOval_calls _ _ bs _ hr hc hm hv).mono ?_
  rintro e w1 ⟨b, x, rfl, b1⟩
  have B0 := Lib.hid (b1)
  rcases oval_cases b x with H0 | ⟨H0, HL0, hlen, hx, h7, hall⟩
  · have H := Lib.hid H0
    clear H0
    go_wp2_with fail
    refine (iPlaneOval_calls b x _ (hT.below (B0.out) hT.lt)).mono ?_
    rintro e w1_ ⟨he, b1_⟩
    rw [H.out] at he
    (try dsimp only at he)
    subst he
    have B1 := Lib.hid ((B0.out).trans (b1_.mono (B0.out).size))
    clear b1_
    go_wp2_with fail
    refine (sPlaneOval_calls b x _).mono ?_
    rintro e w2_ ⟨he, b2_⟩
    rw [H.out] at he
    (try dsimp only at he)
    subst he
    have B2 := Lib.hid ((B1.out).trans (b2_.mono (B1.out).size))
    clear b2_
    go_wp2_with fail
    go_ret
    exact ⟨rfl, B2.out⟩
  · have H := Lib.hid H0
    have HL := Lib.hid HL0
    have HLEN := Lib.hid hlen
    have HALL := Lib.hid hall
    have HWT := Lib.hid h7
    clear H0 HL0 hlen hall h7
    generalize lns b = zs at *
    go_wp2_with fail
    refine (iPlaneOval_calls b x _ (hT.below (B0.out) hT.lt)).mono ?_
    rintro e w1_ ⟨he, b1_⟩
    rw [H.out] at he
    (try dsimp only at he)
    subst he
    have B1 := Lib.hid ((B0.out).trans (b1_.mono (B0.out).size))
    clear b1_
    go_wp2_with fail
    refine (sPlaneOval_calls b x _).mono ?_
    rintro e w2_ ⟨he, b2_⟩
    rw [H.out] at he
    (try dsimp only at he)
    subst he
    have B2 := Lib.hid ((B1.out).trans (b2_.mono (B1.out).size))
    clear b2_
    go_wp2_with fail
    refine (iPlaneLines_calls b _ (hT.below (B2.out) hT.lt).two).mono ?_
    rintro e w9_ ⟨v9_, he, o9_, b9_⟩
    rw [HL.out] at he o9_
    dsimp only at he o9_
    subst he
    obtain ⟨Ax, cx, rfl⟩ := o9_.slice
    have B9 := Lib.hid ((B2.out).trans (b9_.mono (B2.out).size))
    clear b9_
    have hl21 : ((zs.length : Nat) : Int) = 21 := by rw [HLEN.out]; rfl
    have hl0 : 0 < zs.length := by rw [HLEN.out]; decide
    obtain ⟨g, rfl, hgb, hgl⟩ := own_at o9_ hl0
    have HX := Lib.hid o9_
    clear o9_
    go_wp2_with fail
    go_loopw [9] (fun v wq => ∃ k m : Nat, v = .int .i64 (k : Nat) ∧ k ≤ 21 ∧ Hid (wq = w9_.drewN m)) (fun v _ => 21 - (intOf v).toNat)
    case atStart => exact ⟨0, 0, rfl, by omega, Lib.hid rfl⟩
    case round =>
      obtain ⟨k, m, rfl, hk, HW⟩ := hrel
      have hW := HW.out
      subst hW
      by_cases hlt : k < 21
      · have hcl : (w9_.drewN m).cell? ⟨g, k, none⟩ = some (.int .i64 (zs.getD k 0)) := (HX.out.drewN m).cell (by rw [HLEN.out]; exact hlt)
        obtain ⟨⟨z0, z1⟩, hA, hn⟩ := HALL.out k hlt
        have hk1 : (0 : Int) ≤ (k : Int) := by omega
        have hk2 : (k : Int) < 21 := by omega
        generalize zs.getD k 0 = z at *
        have hand : bits .and .i64 z x = andI z x := and_i64 z x z0 (by omega) (by omega) (by omega)
        generalize andI z x = zw at *
        go_wp2_with fail
        refine (iWordWeight_ok zw _ hA).mono ?_
        rintro e w5 ⟨he, kq, rfl⟩
        rcases hn with hn | hn
        all_goals
          rw [hn] at he
          subst he
          go_wp2_with fail
          go_roundw
          case rel => exact ⟨k + 1, m + kq, by go_num, by omega, Lib.hid (by first | exact World.drewN_drewN .. | (simp [World.drewN_drewN]; done) | rfl)⟩
          case measure => simp [intOf]; omega
      · obtain rfl : k = 21 := by omega
        clear hlt
        go_wp2_with fail
        refine (iWordWeight_ok x _ hx).mono ?_
        rintro e w5 ⟨he, kq, rfl⟩
        rw [HWT.out] at he
        subst he
        go_wp2_with fail
        go_ret
        exact ⟨rfl, below_drewN B9.out (m + kq)⟩
end Go.Proofs.YtmeejnkpaiinaacGreatDoor
