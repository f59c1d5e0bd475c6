/- Contracts of the small functions of chapter 1 (words): what each returns; the world is as it was, or has drawn. -/
import Derived.Test.YtiinekoepoonfabDoorChecked
import Derived.WalkKit
import Derived.Handy
import Derived.WalkLawsBesides
import Derived.WalkSpells
import Derived.Deep.QuietTactic
import Derived.BigQuiet
import Derived.Lib.Tables
import Derived.Outline
import Derived.Lib.Hide
import Derived.Test.YtiinekoepoonfabDoorM1
namespace Go.Proofs.YtiinekoepoonfabDoor
open Go.RowKit
set_option linter.unusedVariables false

theorem ret_i {k : IntKind} {a b : Int} (h : a = b) : Ending.returned (.int k a) = .returned (.int k b) := by rw [h]
theorem ret_b {a b : Bool} (h : a = b) : Ending.returned (.bool a) = .returned (.bool b) := by rw [h]

set_option maxRecDepth 100000 in
theorem ones_calls (n : Int) (w : World) (h0 : 0 ≤ n) (h1 : n ≤ 16777215) :
    Calls Tryd.prog 67 #[.int .u32 n] w fun e w' => e = .returned (.int .i64 (wt n)) ∧ ∃ k, w' = w.drewN k := by
  have e1 := and255_u32 n (by omega) (by omega)
  have e2 := and255_u32 (n / 256) (by omega) (by omega)
  have e3 := and255_u32 (n / 65536) (by omega) (by omega)
  have hf := wt_bytes n h0 h1
  have HF := Lib.hid hf
  clear hf
  have g0 : n / 16777216 = 0 := by omega
  go_enter Tryd.func67, Tryd.ntmps67
  go_wp2
  go_quiet (fail)
  go_wp2
  go_ret
  exact ⟨ret_i HF.out, _, rfl⟩
theorem word_weight (n : Int) (w : World) (h0 : 0 ≤ n) (h1 : n ≤ 16777215) :
    Calls Tryd.prog 41 #[.int .u32 n] w fun e w' => e = .returned (.int .i64 (wt n)) ∧ ∃ k, w' = w.drewN k := by
  go_enter Tryd.func41, Tryd.ntmps41
  go_wp2_with (go_at_call 67; refine (ones_calls _ _ (by omega) (by omega)).mono ?_; rintro e w' ⟨rfl, k, rfl⟩)
  go_ret
  exact ⟨rfl, _, rfl⟩
theorem wordFrom_ok (n : Int) (w : World) (h0 : 0 ≤ n) (h1 : n ≤ 16777215) :
    Calls Tryd.prog 40 #[.int .i64 n] w fun e w' => e = .returned (.tuple #[.int .u32 n, .bool true]) ∧ w = w' := by
  go_enter Tryd.func40, Tryd.ntmps40
  go_wp2
  go_ret2
  exact ⟨rfl, rfl⟩
theorem wordFrom_no (n : Int) (w : World) (h : n < 0 ∨ 16777215 < n) :
    Calls Tryd.prog 40 #[.int .i64 n] w fun e w' => e = .returned (.tuple #[.int .u32 0, .bool false]) ∧ w = w' := by
  rcases h with h | h
  · go_enter Tryd.func40, Tryd.ntmps40
    go_wp2
    go_ret2
    exact ⟨rfl, rfl⟩
  · have h' : ¬ n < 0 := by omega
    go_enter Tryd.func40, Tryd.ntmps40
    go_wp2
    go_ret2
    exact ⟨rfl, rfl⟩
theorem placeValid_ok (n : Int) (w : World) (h0 : 0 ≤ n) (h1 : n ≤ 23) :
    Calls Tryd.prog 50 #[.int .i64 n] w fun e w' => e = .returned (.bool true) ∧ w = w' := by
  go_enter Tryd.func50, Tryd.ntmps50
  go_wp2
  go_ret
  exact ⟨ret_b (by first | (simp; done) | (simp; omega)), rfl⟩
theorem placeValid_no (n : Int) (w : World) (h : n < 0 ∨ 23 < n) :
    Calls Tryd.prog 50 #[.int .i64 n] w fun e w' => e = .returned (.bool false) ∧ w = w' := by
  rcases h with h | h
  · go_enter Tryd.func50, Tryd.ntmps50
    go_wp2
    go_ret
    exact ⟨ret_b (by first | (simp; done) | (simp; omega)), rfl⟩
  · have h' : 0 ≤ n := by omega
    go_enter Tryd.func50, Tryd.ntmps50
    go_wp2
    go_ret
    exact ⟨ret_b (by first | (simp; done) | (simp; omega)), rfl⟩
theorem placeAt_calls (r c : Int) (w : World) (h0 : 0 ≤ r) (h1 : r ≤ 3) (h2 : 0 ≤ c) (h3 : c ≤ 5) :
    Calls Tryd.prog 113 #[.int .i64 r, .int .i64 c] w fun e w' => e = .returned (.int .i64 (c * 4 + r)) ∧ w = w' := by
  go_enter Tryd.func113, Tryd.ntmps113
  go_wp2
  go_ret
  exact ⟨rfl, rfl⟩
theorem wordAt_calls (i : Int) (w : World) (h0 : 0 ≤ i) (h1 : i ≤ 23) :
    Calls Tryd.prog 53 #[.int .i64 i] w fun e w' => e = .returned (.int .u32 (powI i)) ∧ w = w' := by
  have hp := powI_pos i
  have hq := powI_le i h0 h1
  have hf : 2 ^ i.toNat % 4294967296 = powI i := by show powI i % 4294967296 = powI i; omega
  have HF := Lib.hid hf
  clear hf hp hq
  go_enter Tryd.func53, Tryd.ntmps53
  go_wp2
  go_ret
  exact ⟨ret_i HF.out, rfl⟩
theorem word_add (a b : Int) (w : World) (h0 : 0 ≤ a) (h1 : a ≤ 16777215) (h2 : 0 ≤ b) (h3 : b ≤ 16777215) :
    Calls Tryd.prog 52 #[.int .u32 a, .int .u32 b] w fun e w' => e = .returned (.int .u32 (xorI a b)) ∧ w = w' := by
  have HF := Lib.hid (xor_u32 a b h0 (by omega) h2 (by omega))
  go_enter Tryd.func52, Tryd.ntmps52
  go_wp2
  go_ret
  exact ⟨ret_i HF.out, rfl⟩
theorem word_meet (a b : Int) (w : World) (h0 : 0 ≤ a) (h1 : a ≤ 16777215) (h2 : 0 ≤ b) (h3 : b ≤ 16777215) :
    Calls Tryd.prog 55 #[.int .u32 a, .int .u32 b] w fun e w' => e = .returned (.int .u32 (andI a b)) ∧ w = w' := by
  have HF := Lib.hid (and_u32 a b h0 (by omega) h2 (by omega))
  go_enter Tryd.func55, Tryd.ntmps55
  go_wp2
  go_ret
  exact ⟨ret_i HF.out, rfl⟩
theorem word_less (a b : Int) (w : World) (h0 : 0 ≤ a) (h1 : a ≤ 16777215) (h2 : 0 ≤ b) (h3 : b ≤ 16777215) :
    Calls Tryd.prog 73 #[.int .u32 a, .int .u32 b] w fun e w' => e = .returned (.int .u32 (lessI a b)) ∧ w = w' := by
  have HF := Lib.hid (less_u32 a b h0 (by omega) h2 (by omega))
  go_enter Tryd.func73, Tryd.ntmps73
  go_wp2
  go_ret
  exact ⟨ret_i HF.out, rfl⟩
theorem word_has (a i : Int) (w : World) (h0 : 0 ≤ a) (h1 : a ≤ 16777215) (h2 : 0 ≤ i) (h3 : i ≤ 23) :
    Calls Tryd.prog 51 #[.int .u32 a, .int .i64 i] w fun e w' => e = .returned (.bool (bitI a i == 1)) ∧ w = w' := by
  have hp := powI_pos i
  have hq := powI_le i h2 h3
  have hf : (!(bits .and .u32 a (powI i) == 0)) = (bitI a i == 1) := by
    rw [and_u32 a (powI i) h0 (by omega) (by omega) (by omega), and_pow a i h0 h2]
    rcases bitI_01 a i with h | h <;> rw [h] <;> simp
    omega
  have hf' : (bits .and .u32 a (powI i) != 0) = (bitI a i == 1) := hf
  have HF := Lib.hid hf
  have HG := Lib.hid hf'
  clear hf hf' hp hq
  go_enter Tryd.func51, Tryd.ntmps51
  go_wp2_with (go_at_call 53; refine (wordAt_calls _ _ (by omega) (by omega)).mono ?_; rintro e w' ⟨rfl, rfl⟩)
  go_ret
  first | exact ⟨ret_b HF.out, rfl⟩ | exact ⟨ret_b HG.out, rfl⟩
theorem l6In_ok (n l h : Int) (w : World) (h0 : l ≤ n) (h1 : n ≤ h) :
    Calls Tryd.prog 58 #[.int .i64 n, .int .i64 l, .int .i64 h] w fun e w' => e = .returned (.bool true) ∧ w = w' := by
  go_enter Tryd.func58, Tryd.ntmps58
  go_wp2
  go_ret
  exact ⟨ret_b (by first | rfl | (simp; done) | (simp; omega)), rfl⟩
theorem l6In_no (n l h : Int) (w : World) (h0 : n < l ∨ h < n) :
    Calls Tryd.prog 58 #[.int .i64 n, .int .i64 l, .int .i64 h] w fun e w' => e = .returned (.bool false) ∧ w = w' := by
  by_cases h1 : n < l
  · go_enter Tryd.func58, Tryd.ntmps58
    go_wp2
    go_ret
    exact ⟨ret_b (by first | rfl | (simp; done) | (simp; omega)), rfl⟩
  · have h2 : l ≤ n := by omega
    have h3 : h < n := by omega
    go_enter Tryd.func58, Tryd.ntmps58
    go_wp2
    go_ret
    exact ⟨ret_b (by first | rfl | (simp; done) | (simp; omega)), rfl⟩
theorem l1Bit_calls (n i : Int) (w : World) (h0 : 0 ≤ i) (h1 : i ≤ 63) :
    Calls Tryd.prog 66 #[.int .i64 n, .int .i64 i] w fun e w' => e = .returned (.int .i64 (bitI n i)) ∧ w = w' := by
  have HF := Lib.hid (show bits .and .i64 (n / 2 ^ i.toNat) 1 = bitI n i from and1_i64 _)
  go_enter Tryd.func66, Tryd.ntmps66
  go_wp2
  go_ret
  exact ⟨ret_i HF.out, rfl⟩
theorem sWordValid_ok (n : Int) (w : World) (h0 : 0 ≤ n) (h1 : n ≤ 16777215) :
    Calls Tryd.prog 64 #[.int .i64 n] w fun e w' => e = .returned (.bool true) ∧ w = w' := by
  go_enter Tryd.func64, Tryd.ntmps64
  go_wp2_with (go_at_call 58; refine (l6In_ok _ _ _ _ (by omega) (by omega)).mono ?_; rintro e w' ⟨rfl, rfl⟩)
  go_ret
  exact ⟨rfl, rfl⟩
theorem sWordValid_no (n : Int) (w : World) (h : n < 0 ∨ 16777215 < n) :
    Calls Tryd.prog 64 #[.int .i64 n] w fun e w' => e = .returned (.bool false) ∧ w = w' := by
  go_enter Tryd.func64, Tryd.ntmps64
  go_wp2_with (go_at_call 58; refine (l6In_no _ _ _ _ (by omega)).mono ?_; rintro e w' ⟨rfl, rfl⟩)
  go_ret
  exact ⟨rfl, rfl⟩
theorem l1Weight_calls (n : Int) (w : World) :
    Calls Tryd.prog 39 #[.int .i64 n] w fun e w' => e = .returned (.int .i64 (wt n)) ∧ w = w' := by
  go_enter Tryd.func39, Tryd.ntmps39
  go_wp2
  go_loop [3, 4] (fun t i => ∃ k : Nat, k ≤ 24 ∧ i = .int .i64 k ∧ t = .int .i64 (wtTo n k)) (fun _ i => 24 - (intOf i).toNat)
  case atStart => exact ⟨0, by omega, rfl, rfl⟩
  case round =>
    obtain ⟨k, hk, rfl, rfl⟩ := hrel
    have hr := wtTo_range n k
    have hb := bitI_01 n k
    have b0 := bitI_nonneg n k
    have b1 := bitI_le n k
    clear hb
    by_cases hlt : k < 24
    · have HF := Lib.hid (show wtTo n (k + 1) = wtTo n k + bitI n k from rfl)
      go_wp2_with (go_at_call 66; refine (l1Bit_calls _ _ _ (by omega) (by omega)).mono ?_; rintro e w' ⟨rfl, rfl⟩)
      go_round
      case rel => exact ⟨k + 1, by omega, by go_num, by rw [HF.out]⟩
      case measure => simp [intOf]; omega
    · go_wp2
      go_ret
      exact ⟨ret_i (by rw [show k = 24 by omega]; rfl), rfl⟩
end Go.Proofs.YtiinekoepoonfabDoor
