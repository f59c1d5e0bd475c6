/- Contracts of drawing words. -/
import Derived.Test.YtiinekoepoonfabDoorC7
import Derived.Test.YtiinekoepoonfabDoorC8
namespace Go.Proofs.YtiinekoepoonfabDoor
open Go.RowKit
set_option linter.unusedVariables false

theorem l91Code_calls (g q : Nat) (w : World) (h : Rd w g q) (hq : q ≤ 1000000) :
    Calls Tryd.prog 81 #[.pointer (some ⟨g, 0, none⟩)] w fun e w' => ∃ v : Int, e = .returned (.int .i64 v) ∧ 0 ≤ v ∧ v ≤ 16777215 ∧ Rd w' g (q + 2) ∧ w.grownBy w' (some g) := by
  go_enter Tryd.func81, Tryd.ntmps81
  go_wp2_with fail
  refine (pick_calls g q 64 _ h (by omega) (by omega) (by omega)).mono ?_
  rintro e w1 ⟨a, rfl, a0, a1, r1, g1⟩
  go_wp2_with fail
  refine (pick_calls g (q + 1) 64 _ r1 (by omega) (by omega) (by omega)).mono ?_
  rintro e w2 ⟨b, rfl, b0, b1, r2, g2⟩
  go_wp2_with fail
  refine (l3Of_calls _ _ (by omega) (by omega)).mono ?_
  rintro e w3 ⟨rfl, hb⟩
  go_wp2_with fail
  go_ret
  have := codeOf_range (a + 64 * b)
  exact ⟨_, rfl, this.1, this.2, r2.below hb, grown_trans g1 (grown_trans g2 (below_grown hb _))⟩
set_option maxHeartbeats 2000000 in
theorem l91Word_calls (g q : Nat) (w : World) (h : Rd w g q) (hq : q ≤ 900000) :
    Calls Tryd.prog 62 #[.pointer (some ⟨g, 0, none⟩)] w fun e w' => ∃ (v : Int) (q' : Nat), e = .returned (.int .i64 v) ∧ -1 ≤ v ∧ v ≤ 16777216 ∧ q' ≤ q + 20 ∧ Rd w' g q' ∧ w.grownBy w' (some g) := by
  go_enter Tryd.func62, Tryd.ntmps62
  go_wp2_with fail
  refine (pick_calls g q 20 _ h (by omega) (by omega) (by omega)).mono ?_
  rintro e w1 ⟨a, rfl, a0, a1, r1, g1⟩
  by_cases h0 : a = 0
  · subst h0
    go_wp2_with fail
    go_ret
    exact ⟨_, _, rfl, by omega, by omega, by omega, r1, g1⟩
  · have e0 : (a == 0) = false := by simpa using h0
    by_cases h1 : a = 1
    · subst h1
      go_wp2_with fail
      go_ret
      exact ⟨_, _, rfl, by omega, by omega, by omega, r1, g1⟩
    · have e1 : (a == 1) = false := by simpa using h1
      by_cases h2 : a = 2
      · subst h2
        go_wp2_with fail
        refine (pick_calls g _ 256 _ r1 (by omega) (by omega) (by omega)).mono ?_
        rintro e w2 ⟨b, rfl, b0, b1, r2, g2⟩
        go_wp2_with fail
        refine (pick_calls g _ 256 _ r2 (by omega) (by omega) (by omega)).mono ?_
        rintro e w3 ⟨c, rfl, c0, c1, r3, g3⟩
        go_wp2_with fail
        refine (pick_calls g _ 256 _ r3 (by omega) (by omega) (by omega)).mono ?_
        rintro e w4 ⟨d, rfl, d0, d1, r4, g4⟩
        go_wp2_with fail
        go_ret
        exact ⟨_, _, rfl, by omega, by omega, by omega, r4, grown_trans g1 (grown_trans g2 (grown_trans g3 g4))⟩
      · have e2 : (a == 2) = false := by simpa using h2
        clear h0 h1 h2
        go_wp2_with fail
        refine (l91Code_calls g _ _ r1 (by omega)).mono ?_
        rintro e w2 ⟨b, rfl, b0, b1, r2, g2⟩
        go_wp2_with fail
        refine (pick_calls g _ 6 _ r2 (by omega) (by omega) (by omega)).mono ?_
        rintro e w3 ⟨n, rfl, n0, n1, r3, g3⟩
        have HR := Lib.hid r3
        have HG := Lib.hid (grown_trans g1 (grown_trans g2 g3))
        clear r1 r2 r3 g1 g2 g3 h
        go_wp2_with fail
        go_loopw [3, 5] (fun t i wr => ∃ (k : Nat) (T : Int), (k : Int) ≤ n ∧ i = .int .i64 k ∧ t = .int .i64 T ∧ 0 ≤ T ∧ T ≤ 16777215 ∧ Hid (Rd wr g (q + 1 + 2 + 1 + k)) ∧ Hid (w.grownBy wr (some g))) (fun _ i _ => 6 - (intOf i).toNat)
        case atStart => exact ⟨0, b, by omega, rfl, rfl, b0, b1, HR, HG⟩
        case round =>
          obtain ⟨k, T, hk, rfl, rfl, hT0, hT1, hr, hg⟩ := hrel
          clear HR HG
          by_cases hlt : (k : Int) < n
          · go_wp2_with fail
            refine (pick_calls g _ 24 _ hr.out (by omega) (by omega) (by omega)).mono ?_
            rintro e w4 ⟨d, rfl, d0, d1, r4, g4⟩
            have p0 := powI_pos d
            have p1 := powI_le d d0 (by omega)
            have hx : bits .xor .i64 T (wrap64 (2 ^ d.toNat)) = xorI T (powI d) := by
              have : wrap64 (powI d) = powI d := IntWalk.wrap64_in _ (by omega)
              show bits .xor .i64 T (wrap64 (powI d)) = _
              rw [this]; exact xor_i64 _ _ hT0 (by omega) (by omega) (by omega)
            go_wp2_with fail
            go_roundw
            case rel => exact ⟨k + 1, xorI T (powI d), by omega, by go_num, by first | rfl | rw [hx], xorI_nonneg _ _, xorI_le _ _ hT1 (by omega), Lib.hid r4, Lib.hid (grown_trans hg.out g4)⟩
            case measure => simp [intOf]; omega
          · go_wp2_with fail
            go_ret
            exact ⟨T, rfl, by omega, by omega, q + 1 + 2 + 1 + k, by omega, hr.out, hg.out⟩
end Go.Proofs.YtiinekoepoonfabDoor
