/- The first places of a word, of the program. -/
import Derived.Test.YtjceaiiheiechabDoorM25
import Derived.Test.YtjceaiiheiechabDoorC40
namespace Go.Proofs.YtjceaiiheiechabDoor
open Go.RowKit
set_option linter.unusedVariables false

theorem drop_u32 (D : Nat) (h : D < 16777216) : bits .and .u32 (D : Int) (IntKind.u32.wrap ((D : Int) - 1)) = ((D &&& (D - 1) : Nat) : Int) := by
  by_cases h0 : D = 0
  · subst h0; decide
  · have hw : IntKind.u32.wrap ((D : Int) - 1) = ((D - 1 : Nat) : Int) := by
      rw [wrap_u32_in _ (by omega) (by omega)]; omega
    rw [hw, and_u32 _ _ (by omega) (by omega) (by omega) (by omega), andI_nat]
set_option maxHeartbeats 400000 in
theorem word_first (W n : Nat) (w : World) (hW : W < 16777216) (hn : n ≤ 24) :
    Calls Tryd.prog 19 #[.int .u32 W, .int .i64 n] w fun e w' => e = .returned (.int .u32 ((firstW W n : Nat) : Int)) ∧ w = w' := by
  have HD := Lib.hid (fun k => drop_u32 (dropW W k) (dropW_lt W hW k))
  have HDL := Lib.hid (fun k => dropW_lt W hW k)
  have HF := Lib.hid (show lessI (W : Int) ((dropW W n : Nat) : Int) = ((firstW W n : Nat) : Int) by
    have := dropW_in W n
    unfold firstW lessI
    simp [this])
  go_enter Tryd.func19, Tryd.ntmps19
  go_wp2_with fail
  go_loopw [5, 8] (fun r i wr => ∃ k : Nat, k ≤ n ∧ i = .int .i64 k ∧ r = .int .u32 ((dropW W k : Nat) : Int) ∧ wr = w) (fun _ i _ => n - (intOf i).toNat)
  case atStart => exact ⟨0, by omega, rfl, rfl, rfl⟩
  case round =>
    obtain ⟨k, hk, rfl, rfl, rfl⟩ := hrel
    by_cases hlt : k < n
    · have hk1 : (k : Int) < (n : Int) := by omega
      have hk2 : (0 : Int) ≤ (k : Int) := by omega
      have hk3 : (k : Int) < 24 := by omega
      have hd := HD.out k
      have hl := HDL.out k
      have HS := Lib.hid (show dropW W (k + 1) = dropW W k &&& (dropW W k - 1) from rfl)
      generalize dropW W k = D at *
      have HD2 := Lib.hid hd
      clear hd
      go_wp2_with fail
      go_roundw
      case rel => exact ⟨k + 1, by omega, by go_num, by rw [HS.out, ← HD2.out]; first | rw [IntKind.wrap_u32] | rfl, trivial⟩
      case measure => simp [intOf]; omega
    · obtain rfl : k = n := by omega
      have hl := HDL.out k
      generalize dropW W k = D at *
      go_wp2_with (go_at_call 35; refine (word_less W D _ (by omega) (by omega) (by omega) (by omega)).mono ?_; rintro e w' ⟨rfl, rfl⟩)
      go_ret
      exact ⟨ret_i HF.out, rfl⟩
end Go.Proofs.YtjceaiiheiechabDoor
