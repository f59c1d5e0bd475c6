import Derived.Test.YtmeejnkpaiinaacGreatDoorM29
import Derived.Test.YtmeejnkpaiinaacGreatDoorQ3
import Derived.Test.YtmeejnkpaiinaacGreatDoorQ1
import Derived.Test.YtmeejnkpaiinaacGreatDoorP1
import Derived.Test.YtmeejnkpaiinaacGreatDoorC97
/- The line through two points, what the promise of the lines through points asks. -/
namespace Go.Proofs.YtmeejnkpaiinaacGreatDoor
open Go.RowKit
set_option linter.unusedVariables false
attribute [local irreducible] octS cN octF syn

theorem bit_in (l t : Nat) (h : l.testBit t = true) : (l : Int) / 2 ^ t % 2 = 1 := by
  have h2 : l / 2 ^ t % 2 = 1 := by rw [Nat.testBit_eq_decide_div_mod_eq, decide_eq_true_eq] at h; exact h
  rw [show ((l : Int) / 2 ^ t % 2) = ((l / 2 ^ t % 2 : Nat) : Int) by simp, h2]
  rfl
theorem plLine_cases (b p q : Int) : plLine b p q = (0, false) ∨ ∃ (B P Q l : Nat), b = (B : Int) ∧ IsBase B ∧ p = (P : Int) ∧ q = (Q : Int) ∧ P < 24 ∧ Q < 24 ∧ plLine b p q = ((l : Int), true) ∧ plLine b q p = ((l : Int), true) ∧ plLines b = (lns b, true) ∧ (l : Int) ∈ lns b ∧ l < 16777216 ∧ l.testBit P = true ∧ l.testBit Q = true := by
  rcases hb : baseB b with _ | _
  · left; simp [plLine, hb]
  rcases h1 : ptB b p with _ | _
  · left; simp [plLine, h1]
  rcases h2 : ptB b q with _ | _
  · left; simp [plLine, h2]
  by_cases h3 : p = q
  · left; simp [plLine, h3]
  right
  obtain ⟨B, rfl, hB⟩ := baseB_nat hb
  obtain ⟨P, rfl, hp, bp⟩ := ptB_nat h1
  obtain ⟨Q, rfl, hq, bq⟩ := ptB_nat h2
  have hPQ : P ≠ Q := by omega
  obtain ⟨l, hl, l1, l2⟩ := line_ex hB hp hq hPQ bp bq
  have t1 := thruI_is hB hl hPQ l1 l2
  have t2 := thruI_is hB hl (Ne.symm hPQ) l2 l1
  refine ⟨B, P, Q, l, rfl, hB, rfl, rfl, hp, hq, ?_, ?_, ?_, (lns_mem hB _).2 ⟨l, hl, rfl⟩, (hl.facts hB).1, l1, l2⟩
  · unfold plLine
    rw [hb, h1, h2, decide_eq_true h3, t1]; rfl
  · unfold plLine
    rw [hb, h1, h2, decide_eq_true (show (Q : Int) ≠ (P : Int) from fun e => h3 e.symm), t2]; rfl
  · simp [plLines, hb]
end Go.Proofs.YtmeejnkpaiinaacGreatDoor
/- Drawing points of a plane: l92Point, DrawPlaneLine, DrawPlaneOn, l92Four. -/
namespace Go.Proofs.YtmeejnkpaiinaacGreatDoor
open Go.RowKit
set_option linter.unusedVariables false


theorem free_pt {b : Int} (h0 : 0 ≤ b) (h1 : b ≤ 16777216) (h2 : b ≠ 16777215) : ∃ f : Nat, f < 24 ∧ bitI b (f : Int) = 0 := by
  obtain ⟨n, rfl⟩ := Int.eq_ofNat_of_zero_le h0
  refine Classical.byContradiction fun h => ?_
  have hall : ∀ f, f < 24 → n.testBit f = true := fun f hf => by
    cases e : n.testBit f
    · exact absurd ⟨f, hf, by rw [bitI_nat, e]; rfl⟩ h
    · rfl
  have : n % 2 ^ 24 = 2 ^ 24 - 1 := Nat.eq_of_testBit_eq fun i => by
    rw [Nat.testBit_mod_two_pow, Nat.testBit_two_pow_sub_one]
    by_cases hi : i < 24
    · rw [hall i hi]; simp [hi]
    · simp [hi]
  omega
set_option maxHeartbeats 4000000 in
theorem l92Point_calls (g q : Nat) (b : Int) (w : World) (h : Rd w g q) (hq : q ≤ 700000) (h0 : -1 ≤ b) (h1 : b ≤ 16777216) :
    Calls Tryz.prog 52 #[.pointer (some ⟨g, 0, none⟩), .int .i64 b] w fun e w' => ∃ p : Int, e = .returned (.int .i64 p) ∧ 0 ≤ p ∧ p < 24 ∧ ∃ q' : Nat, q' ≤ q + 60 ∧ Rd w' g q' ∧ w.grownBy w' (some g) := by
  go_enter Tryz.func52, Tryz.ntmps52
  go_wp2_with fail
  refine (pick_calls g _ 24 _ h (by omega) (by omega) (by omega)).mono ?_
  rintro e w2 ⟨a, rfl, a0, a1, r2, g2⟩
  obtain ⟨a, rfl⟩ := Int.eq_ofNat_of_zero_le a0
  go_wp2_with fail
  obtain ⟨f, hf, hfree⟩ : ∃ f : Nat, f < 24 ∧ (b < 0 ∨ b = 16777215 ∨ (0 ≤ b ∧ b ≠ 16777215 ∧ bitI b (f : Int) = 0)) := by
    by_cases c0 : 0 ≤ b
    · by_cases c1 : b = 16777215
      · exact ⟨0, by omega, .inr (.inl c1)⟩
      · obtain ⟨f, h2, h3⟩ := free_pt c0 h1 c1
        exact ⟨f, h2, .inr (.inr ⟨c0, c1, h3⟩)⟩
    · exact ⟨0, by omega, .inl (by omega)⟩
  have HFREE := Lib.hid hfree
  clear hfree h
  go_loopw [5] (fun i wr => ∃ n q' : Nat, i = .int .i64 (n : Int) ∧ n < 24 ∧ q' + (f + 24 - n) % 24 ≤ q + 25 ∧ Rd wr g q' ∧ w.grownBy wr (some g)) (fun i _ => (f + 24 - (intOf i).toNat) % 24)
  case atStart => exact ⟨a, q + 1, rfl, by omega, by omega, r2, g2⟩
  case round =>
    obtain ⟨n, q', rfl, hn, hqq, hr, hg⟩ := hrel
    have hn0 : (0 : Int) ≤ (n : Int) := by omega
    have hn1 : (n : Int) < 24 := by omega
    rcases HFREE.out with hc | hc | ⟨c0, c1, c2⟩
    · have hc2 : ¬ (0 : Int) ≤ b := by omega
      go_wp2_with fail
      go_ret
      exact ⟨_, rfl, by omega, by omega, q', by omega, hr, hg⟩
    · subst hc
      go_wp2_with fail
      go_ret
      exact ⟨_, rfl, by omega, by omega, q', by omega, hr, hg⟩
    · have HL := Lib.hid (fun W => l1Bit_calls b (n : Int) W (by omega) (by omega))
      have c1b : (b != 16777215) = true := by simpa using c1
      rcases bitI_01 b (n : Int) with hbit | hbit
      · rw [hbit] at HL
        clear hbit c2
        go_wp2_with fail
        refine (HL.out _).mono ?_
        rintro e w' ⟨rfl, rfl⟩
        go_wp2_with fail
        go_ret
        exact ⟨_, rfl, by omega, by omega, q', by omega, hr, hg⟩
      · have hne : n ≠ f := fun e => by rw [e, c2] at hbit; omega
        rw [hbit] at HL
        clear hbit c2
        go_wp2_with fail
        refine (HL.out _).mono ?_
        rintro e w' ⟨rfl, rfl⟩
        go_wp2_with fail
        refine (pick_calls g _ 30 _ hr (by omega) (by omega) (by omega)).mono ?_
        rintro e w3 ⟨v, rfl, v0, v1, r3, g3⟩
        by_cases hv : v = 0
        · subst hv
          go_wp2_with fail
          go_ret
          exact ⟨_, rfl, by omega, by omega, q' + 1, by omega, r3, grown_trans hg g3⟩
        · have hv2 : 0 < v := by omega
          have hnx : ((n : Int) + 1).tmod 24 = (((n + 1) % 24 : Nat) : Int) := by
            rw [Int.tmod_eq_emod_of_nonneg (by omega)]; omega
          clear hv
          go_wp2_with fail
          go_roundw
          case rel => exact ⟨(n + 1) % 24, q' + 1, by first | rfl | (simp [hnx]; done) | go_num, by omega, by omega, r3, grown_trans hg g3⟩
          case measure => simp [intOf]; omega
end Go.Proofs.YtmeejnkpaiinaacGreatDoor
/- Drawing for the promises of lines, arcs: DrawPlaneLine, DrawPlaneOn, l92Four. -/
namespace Go.Proofs.YtmeejnkpaiinaacGreatDoor
open Go.RowKit
set_option linter.unusedVariables false
attribute [local irreducible] octS cN octF syn

theorem DrawPlaneOn_calls (A : Option Addr) (c : Nat) (bs : List Int) (w : World) (hr : Rds w w.heap.size .u8 A bs) (hc : bs.length ≤ c) (hm : c ≤ maxLen) (hv : ∀ i, 0 ≤ bs.getD i 0 ∧ bs.getD i 0 ≤ 255) :
    Calls Tryz.prog 17 #[.slice A bs.length c] w fun e w' => ∃ b x : Int, e = .returned (.tuple #[.int .i64 b, .int .i64 x]) ∧ Below w.heap.size w w' := by
  go_enter Tryz.func17, Tryz.ntmps17
  go_wp2_with fail
  refine (l6Open_calls A c bs _ hr hc hm hv).mono ?_
  rintro e w1 ⟨g, rfl, hg, r1, b1⟩
  go_wp2_with fail
  refine (l92Base_calls g 0 _ r1 (by omega)).mono ?_
  rintro e w2 ⟨b, q1, rfl, b0, b2, hq1, r2, g2⟩
  go_wp2_with fail
  refine (l92Point_calls g q1 b _ r2 (by omega) b0 b2).mono ?_
  rintro e w3 ⟨x, rfl, x0, x1, q2, hq2, r3, g3⟩
  go_wp2_with fail
  go_ret2
  exact ⟨b, x, rfl, b1.trans (grown_below (grown_trans g2 g3) hg b1.size)⟩
end Go.Proofs.YtmeejnkpaiinaacGreatDoor