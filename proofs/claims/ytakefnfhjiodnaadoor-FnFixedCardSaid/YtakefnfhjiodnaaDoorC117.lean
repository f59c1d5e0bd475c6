/- Drawing permutations: moves of the line, of the model. -/
import Derived.Test.YtakefnfhjiodnaaDoorC112
import Derived.Test.YtakefnfhjiodnaaDoorQ3
import Derived.Test.YtakefnfhjiodnaaDoorQ2
namespace Go.Proofs.YtakefnfhjiodnaaDoor
open Go.RowKit
set_option linter.unusedVariables false
attribute [local irreducible] cN syn

set_option maxHeartbeats 1000000 in
theorem l8Square_any (n : Int) (w : World) : Calls Tryd.prog 143 #[.int .i64 n] w fun e w' => ∃ b, e = .returned (.bool b) ∧ w = w' := by
  go_enter Tryd.func143, Tryd.ntmps143
  go_wp2_with fail
  go_loopw [3] (fun i wr => ∃ k : Nat, 1 ≤ k ∧ k ≤ 23 ∧ i = .int .i64 k ∧ w = wr) (fun i _ => 23 - (intOf i).toNat)
  case atStart => exact ⟨1, by omega, by omega, rfl, rfl⟩
  case round =>
    obtain ⟨k, hk0, hk, rfl, hww⟩ := hrel
    subst hww
    by_cases hlt : k < 23
    · have hk1 : (k : Int) < 23 := by omega
      have hk2 : (1 : Int) ≤ (k : Int) := by omega
      go_wp2_with fail
      any_goals (go_ret; exact ⟨_, rfl, rfl⟩; done)
      go_roundw
      case rel => exact ⟨k + 1, by omega, by omega, by go_num, by first | exact rfl | trivial⟩
      case measure => simp [intOf]; omega
    · obtain rfl : k = 23 := by omega
      go_wp2_with fail
      go_ret
      exact ⟨_, rfl, rfl⟩
set_option maxHeartbeats 1000000 in
theorem l8Turned_any (n : Int) (w : World) : Calls Tryd.prog 145 #[.int .i64 n] w fun e w' => ∃ t, e = .returned (.int .i64 t) ∧ w = w' := by
  go_enter Tryd.func145, Tryd.ntmps145
  go_wp2_with fail
  go_loopw [3] (fun i wr => ∃ k : Nat, 1 ≤ k ∧ k ≤ 23 ∧ i = .int .i64 k ∧ w = wr) (fun i _ => 23 - (intOf i).toNat)
  case atStart => exact ⟨1, by omega, by omega, rfl, rfl⟩
  case round =>
    obtain ⟨k, hk0, hk, rfl, hww⟩ := hrel
    subst hww
    by_cases hlt : k < 23
    · have hk1 : (k : Int) < 23 := by omega
      have hk2 : (1 : Int) ≤ (k : Int) := by omega
      go_wp2_with fail
      any_goals (go_ret; exact ⟨_, rfl, rfl⟩; done)
      go_roundw
      case rel => exact ⟨k + 1, by omega, by omega, by go_num, by first | exact rfl | trivial⟩
      case measure => simp [intOf]; omega
    · obtain rfl : k = 23 := by omega
      go_wp2_with fail
      go_ret
      exact ⟨_, rfl, rfl⟩
theorem l8Mod_any (n : Int) (w : World) : Calls Tryd.prog 144 #[.int .i64 n] w fun e w' => ∃ m, e = .returned (.int .i64 m) ∧ w = w' := by
  go_enter Tryd.func144, Tryd.ntmps144
  go_wp2_with fail
  go_ret
  exact ⟨_, rfl, rfl⟩
theorem l8Is_ok (n : Int) (w : World) (h0 : 0 ≤ n) (h1 : n ≤ 22) : Calls Tryd.prog 142 #[.int .i64 n] w fun e w' => e = .returned (.bool true) ∧ w = w' := by
  go_enter Tryd.func142, Tryd.ntmps142
  go_wp2_with (go_at_call 52; refine (l6In_ok _ _ _ _ h0 h1).mono ?_; rintro e w' ⟨rfl, rfl⟩)
  go_ret
  exact ⟨rfl, rfl⟩
set_option maxHeartbeats 1000000 in
theorem l8Given_any (a b c d : Int) (w : World) (a0 : 0 ≤ a) (a1 : a ≤ 22) (b0 : 0 ≤ b) (b1 : b ≤ 22) (c0 : 0 ≤ c) (c1 : c ≤ 22) (d0 : 0 ≤ d) (d1 : d ≤ 22) :
    Calls Tryd.prog 130 #[.int .i64 a, .int .i64 b, .int .i64 c, .int .i64 d] w fun e w' => ∃ t, e = .returned (.bool t) ∧ w = w' := by
  go_enter Tryd.func130, Tryd.ntmps130
  go_wp2_with fail
  refine (l8Is_ok _ _ a0 a1).mono ?_
  rintro e w' ⟨rfl, rfl⟩
  go_wp2_with fail
  refine (l8Is_ok _ _ b0 b1).mono ?_
  rintro e w' ⟨rfl, rfl⟩
  go_wp2_with fail
  refine (l8Is_ok _ _ c0 c1).mono ?_
  rintro e w' ⟨rfl, rfl⟩
  go_wp2_with fail
  refine (l8Is_ok _ _ d0 d1).mono ?_
  rintro e w' ⟨rfl, rfl⟩
  go_wp2_with fail
  refine (l8Mod_any _ _).mono ?_
  rintro e w' ⟨m, rfl, rfl⟩
  go_wp2_with fail
  refine (l8Square_any _ _).mono ?_
  rintro e w' ⟨t, rfl, rfl⟩
  go_wp2_with fail
  go_ret
  exact ⟨_, rfl, rfl⟩
set_option maxHeartbeats 1000000 in
theorem l8Move_any (a b c d x : Int) (w : World) :
    Calls Tryd.prog 131 #[.int .i64 a, .int .i64 b, .int .i64 c, .int .i64 d, .int .i64 x] w fun e w' => ∃ t, e = .returned (.int .i64 t) ∧ w = w' := by
  go_enter Tryd.func131, Tryd.ntmps131
  go_wp2_with (first
    | (go_at_call 144; refine (l8Mod_any _ _).mono ?_; rintro e w' ⟨m, rfl, rfl⟩)
    | (go_at_call 145; refine (l8Turned_any _ _).mono ?_; rintro e w' ⟨m, rfl, rfl⟩))
  all_goals
    go_ret
    exact ⟨_, rfl, rfl⟩
set_option maxHeartbeats 2000000 in
theorem LinePerm_any (a b c d : Int) (w : World) (a0 : 0 ≤ a) (a1 : a ≤ 22) (b0 : 0 ≤ b) (b1 : b ≤ 22) (c0 : 0 ≤ c) (c1 : c ≤ 22) (d0 : 0 ≤ d) (d1 : d ≤ 22) :
    Calls Tryd.prog 96 #[.int .i64 a, .int .i64 b, .int .i64 c, .int .i64 d] w fun e w' => ∃ v xs t, e = .returned (.tuple #[v, .bool t]) ∧ Own w' w.heap.size v xs ∧ xs.length ≤ 24 ∧ Below w.heap.size w w' := by
  have HE := Lib.hid (own_empty2 w w.heap.size (Nat.le_refl _))
  have HB0 := Lib.hid ((Below.refl w.heap.size w).alloc (Nat.le_refl _) (.cells #[] 3))
  go_enter Tryd.func96, Tryd.ntmps96
  go_wp2_with fail
  refine (l8Given_any a b c d _ a0 a1 b0 b1 c0 c1 d0 d1).mono ?_
  rintro e w' ⟨t, rfl, rfl⟩
  cases t
  · go_wp2_with fail
    go_ret2
    exact ⟨_, [], _, rfl, HE.out, by simp, HB0.out⟩
  · go_wp2_with fail
    go_loopw [10, 11] (fun v i wr => ∃ (k : Nat) (xs : List Int), k ≤ 24 ∧ i = .int .i64 k ∧ xs.length = k ∧ Hid (Own wr w.heap.size v xs) ∧ Hid (Below w.heap.size w wr)) (fun _ i _ => 24 - (intOf i).toNat)
    case atStart => exact ⟨0, [], by omega, rfl, rfl, HE, HB0⟩
    case round =>
      obtain ⟨k, xs, hk, rfl, hl, ho, hbw⟩ := hrel
      have HL := Lib.hid hl
      clear hl HE HB0
      have hsz := hbw.out.size
      by_cases hlt : k < 24
      · have hk1 : (k : Int) ≤ 23 := by omega
        go_wp2_with (first
          | (go_at_call 131; refine (l8Move_any _ _ _ _ _ _).mono ?_; rintro e w' ⟨m, rfl, rfl⟩)
          | (at_builtin; refine wpList_push rfl _ _ rfl wr w.heap.size _ _ _ _ rfl rfl (by exact ho.out) (by rw [HL.out]; omega) hsz ?_; intro v2 w2 ho2 hb2 hg2))
        go_roundw
        case rel => exact ⟨k + 1, xs ++ [m], by omega, by go_num, by rw [List.length_append, HL.out]; rfl, Lib.hid ho2, Lib.hid (hbw.out.trans hb2)⟩
        case measure => simp [intOf]; omega
      · obtain rfl : k = 24 := by omega
        go_wp2_with fail
        go_ret2
        exact ⟨_, xs, _, rfl, ho.out, by rw [HL.out]; exact Nat.le_refl _, hbw.out⟩
end Go.Proofs.YtakefnfhjiodnaaDoor
