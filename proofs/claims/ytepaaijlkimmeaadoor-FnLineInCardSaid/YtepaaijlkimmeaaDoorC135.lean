/- Drawing residues and moves of the line. -/
import Derived.Test.YtepaaijlkimmeaaDoorC134
import Derived.Test.YtepaaijlkimmeaaDoorQ2
namespace Go.Proofs.YtepaaijlkimmeaaDoor
open Go.RowKit
set_option linter.unusedVariables false

theorem DrawResidueSquare_calls (A : Option Addr) (c : Nat) (bs : List Int) (w : World) (hr : Rds w w.heap.size .u8 A bs) (hc : bs.length ≤ c) (hm : c ≤ maxLen) (hv : ∀ i, 0 ≤ bs.getD i 0 ∧ bs.getD i 0 ≤ 255) :
    Calls Tryd.prog 37 #[.slice A bs.length c] w fun e w' => ∃ n : Int, e = .returned (.int .i64 n) ∧ Below w.heap.size w w' := by
  go_enter Tryd.func37, Tryd.ntmps37
  go_wp2_with fail
  refine (l6Open_calls A c bs _ hr hc hm hv).mono ?_
  rintro e w1 ⟨g, rfl, hg, r1, b1⟩
  go_wp2_with fail
  refine (pick_calls g 0 25 _ r1 (by omega) (by omega) (by omega)).mono ?_
  rintro e w2 ⟨a, rfl, a0, a1, r2, g2⟩
  go_wp2_with fail
  go_ret
  exact ⟨_, rfl, b1.trans (grown_below g2 hg b1.size)⟩
theorem DrawLineWord_calls (A : Option Addr) (c : Nat) (bs : List Int) (w : World) (hr : Rds w w.heap.size .u8 A bs) (hc : bs.length ≤ c) (hm : c ≤ maxLen) (hv : ∀ i, 0 ≤ bs.getD i 0 ∧ bs.getD i 0 ≤ 255) :
    Calls Tryd.prog 15 #[.slice A bs.length c] w fun e w' => ∃ n : Int, e = .returned (.int .i64 n) ∧ Below w.heap.size w w' := by
  go_enter Tryd.func15, Tryd.ntmps15
  go_wp2_with fail
  refine (DrawResidueSquare_calls A c bs _ hr hc hm hv).mono ?_
  rintro e w1 ⟨n, rfl, b1⟩
  go_wp2_with fail
  go_ret
  exact ⟨_, rfl, b1⟩
set_option maxHeartbeats 1000000 in
theorem l92Move_calls (g : Nat) (w : World) (h : Rd w g 0) :
    Calls Tryd.prog 23 #[.pointer (some ⟨g, 0, none⟩)] w fun e w' => ∃ a b c d : Int, e = .returned (.tuple #[.int .i64 a, .int .i64 b, .int .i64 c, .int .i64 d]) ∧ Rd w' g 6 ∧ w.grownBy w' (some g) := by
  go_enter Tryd.func23, Tryd.ntmps23
  go_wp2_with fail
  refine (pick_calls g 0 22 _ h (by omega) (by omega) (by omega)).mono ?_
  rintro e w1 ⟨a, rfl, a0, a1, r1, g1⟩
  go_wp2_with fail
  refine (pick_calls g _ 23 _ r1 (by omega) (by omega) (by omega)).mono ?_
  rintro e w2 ⟨b, rfl, b0, b1, r2, g2⟩
  go_wp2_with fail
  refine (pick_calls g _ 23 _ r2 (by omega) (by omega) (by omega)).mono ?_
  rintro e w3 ⟨c, rfl, c0, c1, r3, g3⟩
  go_wp2_with fail
  refine (pick_calls g _ 23 _ r3 (by omega) (by omega) (by omega)).mono ?_
  rintro e w4 ⟨d, rfl, d0, d1, r4, g4⟩
  go_wp2_with fail
  refine (pick_calls g _ 3 _ r4 (by omega) (by omega) (by omega)).mono ?_
  rintro e w5 ⟨f, rfl, f0, f1, r5, g5⟩
  have G5 := Lib.hid (grown_trans g1 (grown_trans g2 (grown_trans g3 (grown_trans g4 g5))))
  have R5 := Lib.hid r5
  clear g1 g2 g3 g4 g5 r1 r2 r3 r4 r5
  by_cases hf : 0 < f
  · obtain ⟨a', ha⟩ : ∃ a' : R23, 1 + a = (a'.val : Int) := (r_or (1 + a)).resolve_right (by omega)
    obtain ⟨t0, t1⟩ := r_rng (tn a')
    obtain ⟨p0, p1⟩ := mul_rng b0 (by omega) c0 (by omega)
    have q0 := Int.mul_nonneg (show 0 ≤ b * c + 1 by omega) t0
    have q1 := Int.mul_le_mul (show b * c + 1 ≤ 530 by omega) t1 t0 (by decide)
    have T := Lib.hid (l8Turned_calls a')
    rw [← ha] at T
    have M := Lib.hid (fun W => l8Mod_calls ((b * c + 1) * ((tn a').val : Int)) W (by omega) (by omega))
    clear ha
    generalize ((tn a').val : Int) = t at *
    go_wp2_with fail
    refine (T.out _).mono ?_
    rintro e w' ⟨rfl, rfl⟩
    go_wp2_with fail
    refine (M.out _).mono ?_
    rintro e w' ⟨rfl, rfl⟩
    clear T M
    generalize (b * c + 1) * t = m at *
    go_wp2_with fail
    refine (pick_calls g _ 20 _ R5.out (by omega) (by omega) (by omega)).mono ?_
    rintro e w6 ⟨k, rfl, k0, k1, r6, g6⟩
    have G6 := Lib.hid (grown_trans G5.out g6)
    have R6 := Lib.hid r6
    clear r6 g6
    go_wp2_with fail
    exact bodyPost_ret (v := .tuple #[.int .i64 (1 + a), .int .i64 b, .int .i64 c, .int .i64 (m % 23 + k / 19 * 23)]) (by simp [results, Tryd.results23, go_sem]) rfl ⟨_, _, _, _, rfl, R6.out, G6.out⟩
  · go_wp2_with fail
    refine (pick_calls g _ 20 _ R5.out (by omega) (by omega) (by omega)).mono ?_
    rintro e w6 ⟨k, rfl, k0, k1, r6, g6⟩
    have G6 := Lib.hid (grown_trans G5.out g6)
    have R6 := Lib.hid r6
    clear r6 g6
    go_wp2_with fail
    exact bodyPost_ret (v := .tuple #[.int .i64 (1 + a), .int .i64 b, .int .i64 c, .int .i64 (d + k / 19 * 23)]) (by simp [results, Tryd.results23, go_sem]) rfl ⟨_, _, _, _, rfl, R6.out, G6.out⟩
theorem DrawLinePerm_calls (A : Option Addr) (c : Nat) (bs : List Int) (w : World) (hr : Rds w w.heap.size .u8 A bs) (hc : bs.length ≤ c) (hm : c ≤ maxLen) (hv : ∀ i, 0 ≤ bs.getD i 0 ∧ bs.getD i 0 ≤ 255) :
    Calls Tryd.prog 7 #[.slice A bs.length c] w fun e w' => ∃ a b c d : Int, e = .returned (.tuple #[.int .i64 a, .int .i64 b, .int .i64 c, .int .i64 d]) ∧ Below w.heap.size w w' := by
  go_enter Tryd.func7, Tryd.ntmps7
  go_wp2_with fail
  refine (l6Open_calls A c bs _ hr hc hm hv).mono ?_
  rintro e w1 ⟨g, rfl, hg, r1, b1⟩
  go_wp2_with fail
  refine (l92Move_calls g _ r1).mono ?_
  rintro e w2 ⟨a, b, c, d, rfl, r2, g2⟩
  have HB := Lib.hid (b1.trans (grown_below g2 hg b1.size))
  clear g2 r1 r2
  go_wp2_with fail
  exact bodyPost_ret (v := .tuple #[.int .i64 a, .int .i64 b, .int .i64 c, .int .i64 d]) (by simp [results, Tryd.results7, go_sem]) rfl ⟨_, _, _, _, rfl, HB.out⟩
end Go.Proofs.YtepaaijlkimmeaaDoor
