import Derived.Test.YtcfhfllcdliaoaaGreatDoorChecked
import Derived.WalkKit
import Derived.Handy
import Derived.WalkLawsBesides
import Derived.WalkSpells
import Derived.Deep.QuietTactic
import Derived.BigQuiet
import Derived.Lib.Tables
import Derived.Outline
import Derived.Lib.Hide
import Derived.Test.YtcfhfllcdliaoaaGreatDoorP1
import Derived.Test.YtcfhfllcdliaoaaGreatDoorP0
/- Contracts of the small functions of chapter 1 (words): what each returns; the world is as it was, or has drawn. -/
namespace Go.Proofs.YtcfhfllcdliaoaaGreatDoor
open Go.RowKit
set_option linter.unusedVariables false

theorem ret_i {k : IntKind} {a b : Int} (h : a = b) : Ending.returned (.int k a) = .returned (.int k b) := by rw [h]
theorem ret_b {a b : Bool} (h : a = b) : Ending.returned (.bool a) = .returned (.bool b) := by rw [h]

set_option maxRecDepth 100000 in
theorem ones_calls (n : Int) (w : World) (h0 : 0 ≤ n) (h1 : n ≤ 16777215) :
    Calls Tryz.prog 66 #[.int .u32 n] w fun e w' => e = .returned (.int .i64 (wt n)) ∧ ∃ k, w' = w.drewN k := by
  have e1 := and255_u32 n (by omega) (by omega)
  have e2 := and255_u32 (n / 256) (by omega) (by omega)
  have e3 := and255_u32 (n / 65536) (by omega) (by omega)
  have hf := wt_bytes n h0 h1
  have HF := Lib.hid hf
  clear hf
  have g0 : n / 16777216 = 0 := by omega
  go_enter Tryz.func66, Tryz.ntmps66
  go_wp2
  go_quiet (fail)
  go_wp2
  go_ret
  exact ⟨ret_i HF.out, _, rfl⟩
theorem word_weight (n : Int) (w : World) (h0 : 0 ≤ n) (h1 : n ≤ 16777215) :
    Calls Tryz.prog 44 #[.int .u32 n] w fun e w' => e = .returned (.int .i64 (wt n)) ∧ ∃ k, w' = w.drewN k := by
  go_enter Tryz.func44, Tryz.ntmps44
  go_wp2_with (go_at_call 66; refine (ones_calls _ _ (by omega) (by omega)).mono ?_; rintro e w' ⟨rfl, k, rfl⟩)
  go_ret
  exact ⟨rfl, _, rfl⟩
theorem wordFrom_ok (n : Int) (w : World) (h0 : 0 ≤ n) (h1 : n ≤ 16777215) :
    Calls Tryz.prog 40 #[.int .i64 n] w fun e w' => e = .returned (.tuple #[.int .u32 n, .bool true]) ∧ w = w' := by
  go_enter Tryz.func40, Tryz.ntmps40
  go_wp2
  go_ret2
  exact ⟨rfl, rfl⟩
theorem wordFrom_no (n : Int) (w : World) (h : n < 0 ∨ 16777215 < n) :
    Calls Tryz.prog 40 #[.int .i64 n] w fun e w' => e = .returned (.tuple #[.int .u32 0, .bool false]) ∧ w = w' := by
  rcases h with h | h
  · go_enter Tryz.func40, Tryz.ntmps40
    go_wp2
    go_ret2
    exact ⟨rfl, rfl⟩
  · have h' : ¬ n < 0 := by omega
    go_enter Tryz.func40, Tryz.ntmps40
    go_wp2
    go_ret2
    exact ⟨rfl, rfl⟩
theorem placeValid_ok (n : Int) (w : World) (h0 : 0 ≤ n) (h1 : n ≤ 23) :
    Calls Tryz.prog 231 #[.int .i64 n] w fun e w' => e = .returned (.bool true) ∧ w = w' := by
  go_enter Tryz.func231, Tryz.ntmps231
  go_wp2
  go_ret
  exact ⟨ret_b (by first | (simp; done) | (simp; omega)), rfl⟩
theorem placeValid_no (n : Int) (w : World) (h : n < 0 ∨ 23 < n) :
    Calls Tryz.prog 231 #[.int .i64 n] w fun e w' => e = .returned (.bool false) ∧ w = w' := by
  rcases h with h | h
  · go_enter Tryz.func231, Tryz.ntmps231
    go_wp2
    go_ret
    exact ⟨ret_b (by first | (simp; done) | (simp; omega)), rfl⟩
  · have h' : 0 ≤ n := by omega
    go_enter Tryz.func231, Tryz.ntmps231
    go_wp2
    go_ret
    exact ⟨ret_b (by first | (simp; done) | (simp; omega)), rfl⟩
theorem placeAt_calls (r c : Int) (w : World) (h0 : 0 ≤ r) (h1 : r ≤ 3) (h2 : 0 ≤ c) (h3 : c ≤ 5) :
    Calls Tryz.prog 65 #[.int .i64 r, .int .i64 c] w fun e w' => e = .returned (.int .i64 (c * 4 + r)) ∧ w = w' := by
  go_enter Tryz.func65, Tryz.ntmps65
  go_wp2
  go_ret
  exact ⟨rfl, rfl⟩
theorem wordAt_calls (i : Int) (w : World) (h0 : 0 ≤ i) (h1 : i ≤ 23) :
    Calls Tryz.prog 109 #[.int .i64 i] w fun e w' => e = .returned (.int .u32 (powI i)) ∧ w = w' := by
  have hp := powI_pos i
  have hq := powI_le i h0 h1
  have hf : 2 ^ i.toNat % 4294967296 = powI i := by show powI i % 4294967296 = powI i; omega
  have HF := Lib.hid hf
  clear hf hp hq
  go_enter Tryz.func109, Tryz.ntmps109
  go_wp2
  go_ret
  exact ⟨ret_i HF.out, rfl⟩
theorem word_add (a b : Int) (w : World) (h0 : 0 ≤ a) (h1 : a ≤ 16777215) (h2 : 0 ≤ b) (h3 : b ≤ 16777215) :
    Calls Tryz.prog 69 #[.int .u32 a, .int .u32 b] w fun e w' => e = .returned (.int .u32 (xorI a b)) ∧ w = w' := by
  have HF := Lib.hid (xor_u32 a b h0 (by omega) h2 (by omega))
  go_enter Tryz.func69, Tryz.ntmps69
  go_wp2
  go_ret
  exact ⟨ret_i HF.out, rfl⟩
theorem word_meet (a b : Int) (w : World) (h0 : 0 ≤ a) (h1 : a ≤ 16777215) (h2 : 0 ≤ b) (h3 : b ≤ 16777215) :
    Calls Tryz.prog 75 #[.int .u32 a, .int .u32 b] w fun e w' => e = .returned (.int .u32 (andI a b)) ∧ w = w' := by
  have HF := Lib.hid (and_u32 a b h0 (by omega) h2 (by omega))
  go_enter Tryz.func75, Tryz.ntmps75
  go_wp2
  go_ret
  exact ⟨ret_i HF.out, rfl⟩
theorem word_less (a b : Int) (w : World) (h0 : 0 ≤ a) (h1 : a ≤ 16777215) (h2 : 0 ≤ b) (h3 : b ≤ 16777215) :
    Calls Tryz.prog 215 #[.int .u32 a, .int .u32 b] w fun e w' => e = .returned (.int .u32 (lessI a b)) ∧ w = w' := by
  have HF := Lib.hid (less_u32 a b h0 (by omega) h2 (by omega))
  go_enter Tryz.func215, Tryz.ntmps215
  go_wp2
  go_ret
  exact ⟨ret_i HF.out, rfl⟩
theorem word_has (a i : Int) (w : World) (h0 : 0 ≤ a) (h1 : a ≤ 16777215) (h2 : 0 ≤ i) (h3 : i ≤ 23) :
    Calls Tryz.prog 64 #[.int .u32 a, .int .i64 i] w fun e w' => e = .returned (.bool (bitI a i == 1)) ∧ w = w' := by
  have hp := powI_pos i
  have hq := powI_le i h2 h3
  have hf : (!(bits .and .u32 a (powI i) == 0)) = (bitI a i == 1) := by
    rw [and_u32 a (powI i) h0 (by omega) (by omega) (by omega), and_pow a i h0 h2]
    rcases bitI_01 a i with h | h <;> rw [h] <;> simp
    omega
  have hf' : (bits .and .u32 a (powI i) != 0) = (bitI a i == 1) := hf
  have HF := Lib.hid hf
  have HG := Lib.hid hf'
  clear hf hf' hp hq
  go_enter Tryz.func64, Tryz.ntmps64
  go_wp2_with (go_at_call 109; refine (wordAt_calls _ _ (by omega) (by omega)).mono ?_; rintro e w' ⟨rfl, rfl⟩)
  go_ret
  first | exact ⟨ret_b HF.out, rfl⟩ | exact ⟨ret_b HG.out, rfl⟩
theorem l6In_ok (n l h : Int) (w : World) (h0 : l ≤ n) (h1 : n ≤ h) :
    Calls Tryz.prog 49 #[.int .i64 n, .int .i64 l, .int .i64 h] w fun e w' => e = .returned (.bool true) ∧ w = w' := by
  go_enter Tryz.func49, Tryz.ntmps49
  go_wp2
  go_ret
  exact ⟨ret_b (by first | rfl | (simp; done) | (simp; omega)), rfl⟩
theorem l6In_no (n l h : Int) (w : World) (h0 : n < l ∨ h < n) :
    Calls Tryz.prog 49 #[.int .i64 n, .int .i64 l, .int .i64 h] w fun e w' => e = .returned (.bool false) ∧ w = w' := by
  by_cases h1 : n < l
  · go_enter Tryz.func49, Tryz.ntmps49
    go_wp2
    go_ret
    exact ⟨ret_b (by first | rfl | (simp; done) | (simp; omega)), rfl⟩
  · have h2 : l ≤ n := by omega
    have h3 : h < n := by omega
    go_enter Tryz.func49, Tryz.ntmps49
    go_wp2
    go_ret
    exact ⟨ret_b (by first | rfl | (simp; done) | (simp; omega)), rfl⟩
theorem l1Bit_calls (n i : Int) (w : World) (h0 : 0 ≤ i) (h1 : i ≤ 63) :
    Calls Tryz.prog 43 #[.int .i64 n, .int .i64 i] w fun e w' => e = .returned (.int .i64 (bitI n i)) ∧ w = w' := by
  have HF := Lib.hid (show bits .and .i64 (n / 2 ^ i.toNat) 1 = bitI n i from and1_i64 _)
  go_enter Tryz.func43, Tryz.ntmps43
  go_wp2
  go_ret
  exact ⟨ret_i HF.out, rfl⟩
theorem sWordValid_ok (n : Int) (w : World) (h0 : 0 ≤ n) (h1 : n ≤ 16777215) :
    Calls Tryz.prog 42 #[.int .i64 n] w fun e w' => e = .returned (.bool true) ∧ w = w' := by
  go_enter Tryz.func42, Tryz.ntmps42
  go_wp2_with (go_at_call 49; refine (l6In_ok _ _ _ _ (by omega) (by omega)).mono ?_; rintro e w' ⟨rfl, rfl⟩)
  go_ret
  exact ⟨rfl, rfl⟩
theorem sWordValid_no (n : Int) (w : World) (h : n < 0 ∨ 16777215 < n) :
    Calls Tryz.prog 42 #[.int .i64 n] w fun e w' => e = .returned (.bool false) ∧ w = w' := by
  go_enter Tryz.func42, Tryz.ntmps42
  go_wp2_with (go_at_call 49; refine (l6In_no _ _ _ _ (by omega)).mono ?_; rintro e w' ⟨rfl, rfl⟩)
  go_ret
  exact ⟨rfl, rfl⟩
theorem l1Weight_calls (n : Int) (w : World) :
    Calls Tryz.prog 71 #[.int .i64 n] w fun e w' => e = .returned (.int .i64 (wt n)) ∧ w = w' := by
  go_enter Tryz.func71, Tryz.ntmps71
  go_wp2
  go_loop [3, 4] (fun t i => ∃ k : Nat, k ≤ 24 ∧ i = .int .i64 k ∧ t = .int .i64 (wtTo n k)) (fun _ i => 24 - (intOf i).toNat)
  case atStart => exact ⟨0, by omega, rfl, rfl⟩
  case round =>
    obtain ⟨k, hk, rfl, rfl⟩ := hrel
    have hr := wtTo_range n k
    have hb := bitI_01 n k
    have b0 := bitI_nonneg n k
    have b1 := bitI_le n k
    clear hb
    by_cases hlt : k < 24
    · have HF := Lib.hid (show wtTo n (k + 1) = wtTo n k + bitI n k from rfl)
      go_wp2_with (go_at_call 43; refine (l1Bit_calls _ _ _ (by omega) (by omega)).mono ?_; rintro e w' ⟨rfl, rfl⟩)
      go_round
      case rel => exact ⟨k + 1, by omega, by go_num, by rw [HF.out]⟩
      case measure => simp [intOf]; omega
    · go_wp2
      go_ret
      exact ⟨ret_i (by rw [show k = 24 by omega]; rfl), rfl⟩
end Go.Proofs.YtcfhfllcdliaoaaGreatDoor
/- Contracts of the exported functions of chapter 1 on plain numbers, of the program and of its model. -/
namespace Go.Proofs.YtcfhfllcdliaoaaGreatDoor
open Go.RowKit
set_option linter.unusedVariables false

/-- A number is a word. -/
def IsW (n : Int) : Prop := 0 ≤ n ∧ n ≤ 16777215
def NoW (n : Int) : Prop := n < 0 ∨ 16777215 < n
theorem isW_or (n : Int) : IsW n ∨ NoW n := by unfold IsW NoW; omega

theorem iWordValid_ok (n : Int) (w : World) (h : IsW n) :
    Calls Tryz.prog 123 #[.int .i64 n] w fun e w' => e = .returned (.bool true) ∧ w = w' := by
  go_enter Tryz.func123, Tryz.ntmps123
  go_wp2_with (go_at_call 40; refine (wordFrom_ok _ _ h.1 h.2).mono ?_; rintro e w' ⟨rfl, rfl⟩)
  go_ret
  exact ⟨rfl, rfl⟩
theorem iWordValid_no (n : Int) (w : World) (h : NoW n) :
    Calls Tryz.prog 123 #[.int .i64 n] w fun e w' => e = .returned (.bool false) ∧ w = w' := by
  go_enter Tryz.func123, Tryz.ntmps123
  go_wp2_with (go_at_call 40; refine (wordFrom_no _ _ h).mono ?_; rintro e w' ⟨rfl, rfl⟩)
  go_ret
  exact ⟨rfl, rfl⟩
theorem iWordWeight_ok (n : Int) (w : World) (h : IsW n) :
    Calls Tryz.prog 19 #[.int .i64 n] w fun e w' => e = .returned (.int .i64 (wt n)) ∧ ∃ k, w' = w.drewN k := by
  go_enter Tryz.func19, Tryz.ntmps19
  go_wp2_with (first | (go_at_call 40; refine (wordFrom_ok _ _ h.1 h.2).mono ?_; rintro e w' ⟨rfl, rfl⟩) | (go_at_call 44; refine (word_weight _ _ h.1 h.2).mono ?_; rintro e w' ⟨rfl, k, rfl⟩))
  go_ret
  exact ⟨rfl, _, rfl⟩
theorem iWordWeight_no (n : Int) (w : World) (h : NoW n) :
    Calls Tryz.prog 19 #[.int .i64 n] w fun e w' => e = .returned (.int .i64 (-1)) ∧ ∃ k, w' = w.drewN k := by
  go_enter Tryz.func19, Tryz.ntmps19
  go_wp2_with (go_at_call 40; refine (wordFrom_no _ _ h).mono ?_; rintro e w' ⟨rfl, rfl⟩)
  go_ret
  exact ⟨rfl, 0, rfl⟩
theorem ofTwo_add (a b : Int) (w : World) (ha : IsW a) (hb : IsW b) :
    Calls Tryz.prog 176 #[.int .i64 a, .int .i64 b, .func (.func 69) #[] #[]] w fun e w' => e = .returned (.tuple #[.int .i64 (xorI a b), .bool true]) ∧ w = w' := by
  obtain ⟨a0, a1⟩ := ha
  obtain ⟨b0, b1⟩ := hb
  have j0 := xorI_nonneg a b
  have j1 : xorI a b ≤ 16777215 := (xorI_le _ _ a1 b1)
  go_enter Tryz.func176, Tryz.ntmps176
  go_wp2_with (first
    | (go_at_call 40; refine (wordFrom_ok _ _ (by omega) (by omega)).mono ?_; rintro e w' ⟨rfl, rfl⟩)
    | (go_at_call 69; refine (word_add _ _ _ (by omega) (by omega) (by omega) (by omega)).mono ?_; rintro e w' ⟨rfl, rfl⟩))
  go_ret2
  exact ⟨rfl, rfl⟩
theorem ofTwo_meet (a b : Int) (w : World) (ha : IsW a) (hb : IsW b) :
    Calls Tryz.prog 176 #[.int .i64 a, .int .i64 b, .func (.func 75) #[] #[]] w fun e w' => e = .returned (.tuple #[.int .i64 (andI a b), .bool true]) ∧ w = w' := by
  obtain ⟨a0, a1⟩ := ha
  obtain ⟨b0, b1⟩ := hb
  have j0 := andI_nonneg a b
  have j1 : andI a b ≤ 16777215 := (andI_le _ _ b1)
  go_enter Tryz.func176, Tryz.ntmps176
  go_wp2_with (first
    | (go_at_call 40; refine (wordFrom_ok _ _ (by omega) (by omega)).mono ?_; rintro e w' ⟨rfl, rfl⟩)
    | (go_at_call 75; refine (word_meet _ _ _ (by omega) (by omega) (by omega) (by omega)).mono ?_; rintro e w' ⟨rfl, rfl⟩))
  go_ret2
  exact ⟨rfl, rfl⟩
theorem ofTwo_less (a b : Int) (w : World) (ha : IsW a) (hb : IsW b) :
    Calls Tryz.prog 176 #[.int .i64 a, .int .i64 b, .func (.func 215) #[] #[]] w fun e w' => e = .returned (.tuple #[.int .i64 (lessI a b), .bool true]) ∧ w = w' := by
  obtain ⟨a0, a1⟩ := ha
  obtain ⟨b0, b1⟩ := hb
  have j0 := lessI_nonneg a b
  have j1 : lessI a b ≤ 16777215 := (lessI_le _ _ a1)
  go_enter Tryz.func176, Tryz.ntmps176
  go_wp2_with (first
    | (go_at_call 40; refine (wordFrom_ok _ _ (by omega) (by omega)).mono ?_; rintro e w' ⟨rfl, rfl⟩)
    | (go_at_call 215; refine (word_less _ _ _ (by omega) (by omega) (by omega) (by omega)).mono ?_; rintro e w' ⟨rfl, rfl⟩))
  go_ret2
  exact ⟨rfl, rfl⟩
theorem ofTwo_no (F : Nat) (a b : Int) (w : World) (h : NoW a ∨ NoW b) :
    Calls Tryz.prog 176 #[.int .i64 a, .int .i64 b, .func (.func F) #[] #[]] w fun e w' => e = .returned (.tuple #[.int .i64 0, .bool false]) ∧ w = w' := by
  by_cases ha : NoW a
  · go_enter Tryz.func176, Tryz.ntmps176
    go_wp2_with (go_at_call 40; refine (wordFrom_no _ _ ha).mono ?_; rintro e w' ⟨rfl, rfl⟩)
    go_ret2
    exact ⟨rfl, rfl⟩
  · have ha' : IsW a := (isW_or a).resolve_right ha
    have hb : NoW b := h.resolve_left ha
    go_enter Tryz.func176, Tryz.ntmps176
    go_wp2_with fail
    refine (wordFrom_ok _ _ ha'.1 ha'.2).mono ?_
    rintro e w' ⟨rfl, rfl⟩
    go_wp2_with fail
    refine (wordFrom_no _ _ hb).mono ?_
    rintro e w' ⟨rfl, rfl⟩
    go_wp2_with fail
    go_ret2
    exact ⟨rfl, rfl⟩
theorem iWordAdd_ok (a b : Int) (w : World) (ha : IsW a) (hb : IsW b) :
    Calls Tryz.prog 124 #[.int .i64 a, .int .i64 b] w fun e w' => e = .returned (.tuple #[.int .i64 (xorI a b), .bool true]) ∧ w = w' := by
  go_enter Tryz.func124, Tryz.ntmps124
  go_wp2_with (go_at_call 176; refine (ofTwo_add _ _ _ ha hb).mono ?_; rintro e w' ⟨rfl, rfl⟩)
  go_ret2
  exact ⟨rfl, rfl⟩
theorem iWordAdd_no (a b : Int) (w : World) (h : NoW a ∨ NoW b) :
    Calls Tryz.prog 124 #[.int .i64 a, .int .i64 b] w fun e w' => e = .returned (.tuple #[.int .i64 0, .bool false]) ∧ w = w' := by
  go_enter Tryz.func124, Tryz.ntmps124
  go_wp2_with (go_at_call 176; refine (ofTwo_no _ _ _ _ h).mono ?_; rintro e w' ⟨rfl, rfl⟩)
  go_ret2
  exact ⟨rfl, rfl⟩
theorem l1Both_ok (a b c : Int) (w : World) (ha : IsW a) (hb : IsW b) :
    Calls Tryz.prog 149 #[.int .i64 a, .int .i64 b, .int .i64 c] w fun e w' => e = .returned (.tuple #[.int .i64 c, .bool true]) ∧ w = w' := by
  go_enter Tryz.func149, Tryz.ntmps149
  go_wp2_with fail
  refine (sWordValid_ok _ _ ha.1 ha.2).mono ?_
  rintro e w' ⟨rfl, rfl⟩
  go_wp2_with fail
  refine (sWordValid_ok _ _ hb.1 hb.2).mono ?_
  rintro e w' ⟨rfl, rfl⟩
  go_wp2_with fail
  go_ret2
  exact ⟨rfl, rfl⟩
theorem l1Both_no (a b c : Int) (w : World) (h : NoW a ∨ NoW b) :
    Calls Tryz.prog 149 #[.int .i64 a, .int .i64 b, .int .i64 c] w fun e w' => e = .returned (.tuple #[.int .i64 0, .bool false]) ∧ w = w' := by
  by_cases ha : NoW a
  · go_enter Tryz.func149, Tryz.ntmps149
    go_wp2_with (go_at_call 42; refine (sWordValid_no _ _ ha).mono ?_; rintro e w' ⟨rfl, rfl⟩)
    go_ret2
    exact ⟨rfl, rfl⟩
  · have ha' : IsW a := (isW_or a).resolve_right ha
    have hb : NoW b := h.resolve_left ha
    go_enter Tryz.func149, Tryz.ntmps149
    go_wp2_with fail
    refine (sWordValid_ok _ _ ha'.1 ha'.2).mono ?_
    rintro e w' ⟨rfl, rfl⟩
    go_wp2_with fail
    refine (sWordValid_no _ _ hb).mono ?_
    rintro e w' ⟨rfl, rfl⟩
    go_wp2_with fail
    go_ret2
    exact ⟨rfl, rfl⟩
theorem sWordAdd_ok (a b : Int) (w : World) (ha : IsW a) (hb : IsW b) :
    Calls Tryz.prog 107 #[.int .i64 a, .int .i64 b] w fun e w' => e = .returned (.tuple #[.int .i64 (xorI a b), .bool true]) ∧ w = w' := by
  have HF := Lib.hid (xor_i64 a b ha.1 (by have := ha.2; omega) hb.1 (by have := hb.2; omega))
  go_enter Tryz.func107, Tryz.ntmps107
  go_wp2_with (go_at_call 149; rw [HF.out]; refine (l1Both_ok _ _ _ _ ha hb).mono ?_; rintro e w' ⟨rfl, rfl⟩)
  go_ret2
  exact ⟨rfl, rfl⟩
theorem sWordAdd_no (a b : Int) (w : World) (h : NoW a ∨ NoW b) :
    Calls Tryz.prog 107 #[.int .i64 a, .int .i64 b] w fun e w' => e = .returned (.tuple #[.int .i64 0, .bool false]) ∧ w = w' := by
  go_enter Tryz.func107, Tryz.ntmps107
  go_wp2_with (go_at_call 149; refine (l1Both_no _ _ _ _ h).mono ?_; rintro e w' ⟨rfl, rfl⟩)
  go_ret2
  exact ⟨rfl, rfl⟩
end Go.Proofs.YtcfhfllcdliaoaaGreatDoor
/- Contracts of the laws' own helpers on lists of ints, and of WordOf. -/
namespace Go.Proofs.YtcfhfllcdliaoaaGreatDoor
open Go.RowKit
set_option linter.unusedVariables false

theorem intInfo : (Tryz.prog.info? 3).map (fun i => (i.zero, i.size, i.bytes)) = some (some (.int .i64 0), 1, 8) := by kernel_rfl
def eqL (xs ys : List Int) : Bool := decide (xs = ys)
theorem eqL_refl (xs : List Int) : eqL xs xs = true := by simp [eqL]

theorem take_succ_getD (xs : List Int) (k : Nat) (h : k < xs.length) : xs.take (k + 1) = xs.take k ++ [xs.getD k 0] := by
  rw [List.take_succ_eq_append_getElem h]; simp [List.getElem?_eq_getElem h]
theorem eqL_step (xs ys : List Int) (k : Nat) (h : k < xs.length) (hl : xs.length = ys.length) (he : xs.getD k 0 = ys.getD k 0) (ht : xs.take k = ys.take k) : xs.take (k + 1) = ys.take (k + 1) := by
  rw [take_succ_getD xs k h, take_succ_getD ys k (by omega), he, ht]
theorem eqL_no (xs ys : List Int) (k : Nat) (he : xs.getD k 0 ≠ ys.getD k 0) : eqL xs ys = false := by
  simp only [eqL, decide_eq_false_iff_not]
  rintro rfl
  exact he rfl
theorem eqL_len (xs ys : List Int) (he : xs.length ≠ ys.length) : eqL xs ys = false := by
  simp only [eqL, decide_eq_false_iff_not]
  rintro rfl
  exact he rfl
theorem eqL_yes (xs ys : List Int) (k : Nat) (hl : xs.length = ys.length) (h : xs.length ≤ k) (ht : xs.take k = ys.take k) : eqL xs ys = true := by
  rw [List.take_of_length_le h, List.take_of_length_le (by omega)] at ht
  rw [ht, eqL_refl]




/-- The word of a list of places: one place more, or none. -/
def addPl : Option Int → Int → Option Int
  | some t, p => if 0 ≤ p ∧ p ≤ 23 ∧ bitI t p = 0 then some (t + powI p) else none
  | none, _ => none
def wof (xs : List Int) : Option Int := xs.foldl addPl (some 0)
def resW : Option Int → Value
  | some t => .tuple #[.int .i64 t, .bool true]
  | none => .tuple #[.int .i64 0, .bool false]
theorem wof_succ (xs : List Int) (k : Nat) (h : k < xs.length) : wof (xs.take (k + 1)) = addPl (wof (xs.take k)) (xs.getD k 0) := by
  unfold wof
  rw [take_succ_getD xs k h, List.foldl_append]; rfl
theorem foldl_none (xs : List Int) : xs.foldl addPl none = none := by
  induction xs with
  | nil => rfl
  | cons x xs ih => simpa [List.foldl, addPl] using ih
theorem wof_none (xs : List Int) (k : Nat) (h : wof (xs.take k) = none) : wof xs = none := by
  unfold wof at *
  rw [← List.take_append_drop k xs, List.foldl_append, h, foldl_none]
theorem nat_xor_add (T q : Nat) (h : T &&& q = 0) : T ^^^ q = T + q := by
  have hb : T + q < 2 ^ (T + q) := Nat.lt_two_pow_self
  have e := BitVec.add_eq_or_of_and_eq_zero (BitVec.ofNat (T + q) T) (BitVec.ofNat (T + q) q) (by
    apply BitVec.eq_of_toNat_eq
    rw [BitVec.toNat_and, BitVec.toNat_ofNat, BitVec.toNat_ofNat, Nat.mod_eq_of_lt (by omega), Nat.mod_eq_of_lt (by omega), h]
    simp)
  have e2 := congrArg BitVec.toNat e
  rw [BitVec.toNat_add, BitVec.toNat_or, BitVec.toNat_ofNat, BitVec.toNat_ofNat, Nat.mod_eq_of_lt (show T < 2 ^ (T + q) by omega), Nat.mod_eq_of_lt (show q < 2 ^ (T + q) by omega), Nat.mod_eq_of_lt hb] at e2
  rw [e2]
  apply Nat.eq_of_testBit_eq
  intro i
  rw [Nat.testBit_xor, Nat.testBit_or]
  have := congrArg (fun n => n.testBit i) h
  simp only [Nat.testBit_and, Nat.zero_testBit] at this
  revert this
  cases T.testBit i <;> cases q.testBit i <;> simp
theorem xor_pow (t p : Int) (h0 : 0 ≤ t) (h2 : 0 ≤ p) (hb : bitI t p = 0) : xorI t (powI p) = t + powI p := by
  have hm := and_pow t p h0 h2
  rw [hb, Int.zero_mul] at hm
  obtain ⟨T, rfl⟩ := Int.eq_ofNat_of_zero_le h0
  have hp := powI_pos p
  obtain ⟨q, hq⟩ := Int.eq_ofNat_of_zero_le (show 0 ≤ powI p by omega)
  rw [hq] at hm ⊢
  unfold andI at hm
  unfold xorI
  rw [Int.toNat_natCast, Int.toNat_natCast] at hm
  rw [Int.toNat_natCast, Int.toNat_natCast, nat_xor_add T q (by omega)]
  omega
theorem pow_val (p : Int) (h0 : 0 ≤ p) (h1 : p ≤ 23) : powI p < 16777216 ∧ 0 < powI p := ⟨by have := powI_le p h0 h1; omega, powI_pos p⟩
theorem wrap_pow (t p : Int) (h0 : 0 ≤ t + powI p) (h1 : t + powI p ≤ 16777215) (h2 : powI p < 16777216) (h3 : 0 < powI p) : wrap64 (t + wrap64 (2 ^ p.toNat)) = t + powI p := by
  have a : wrap64 (powI p) = powI p := IntWalk.wrap64_in _ (by omega)
  show wrap64 (t + wrap64 (powI p)) = t + powI p
  rw [a]
  exact IntWalk.wrap64_in _ (by omega)
theorem addPl_range (t p : Int) (h0 : 0 ≤ t) (h1 : t ≤ 16777215) (hp0 : 0 ≤ p) (hp1 : p ≤ 23) (hb : bitI t p = 0) : 0 ≤ t + powI p ∧ t + powI p ≤ 16777215 := by
  have a := xor_pow t p h0 hp0 hb
  have b := xorI_le t (powI p) h1 (by have := powI_le p hp0 hp1; omega)
  have c := powI_pos p
  omega

set_option maxHeartbeats 400000 in
theorem iWordOf_calls (A : Option Addr) (c : Nat) (xs : List Int) (w : World) (ha : Rds w w.heap.size .i64 A xs) (hx : xs.length ≤ maxLen) :
    Calls Tryz.prog 210 #[.slice A xs.length c] w fun e w' => e = .returned (resW (wof xs)) ∧ w = w' := by
  unfold maxLen at hx
  go_enter Tryz.func210, Tryz.ntmps210
  go_wp2
  go_loop [4, 9] (fun t i => ∃ (k : Nat) (T : Int), k ≤ xs.length ∧ i = .int .i64 k ∧ t = .int .u32 T ∧ 0 ≤ T ∧ T ≤ 16777215 ∧ Hid (wof (xs.take k) = some T)) (fun _ i => xs.length - (intOf i).toNat)
  case atStart => exact ⟨0, 0, Nat.zero_le _, rfl, rfl, by omega, by omega, Lib.hid rfl⟩
  case round =>
    obtain ⟨k, T, hk, rfl, rfl, hT0, hT1, ht⟩ := hrel
    by_cases hlt : k < xs.length
    · obtain ⟨b1, o1, rfl, _, c1⟩ := ha.at_ hlt
      have hs := wof_succ xs k hlt
      rw [ht.out] at hs
      generalize xs.getD k 0 = p at *
      by_cases hp : 0 ≤ p ∧ p ≤ 23
      · obtain ⟨hp0, hp1⟩ := hp
        by_cases hb : bitI T p = 0
        · have hs' : wof (xs.take (k + 1)) = some (T + powI p) := by rw [hs]; simp [addPl, hp0, hp1, hb]
          have hr := addPl_range T p hT0 hT1 hp0 hp1 hb
          have HX := Lib.hid (xor_pow T p hT0 hp0 hb)
          have HS := Lib.hid hs'
          have hq := pow_val p hp0 hp1
          have hbb : (bitI T p == 1) = false := by rw [hb]; rfl
          clear hs hs' ht hb
          go_wp2_with (first
            | (go_at_call 231; refine (placeValid_ok _ _ (by omega) (by omega)).mono ?_; rintro e w' ⟨rfl, rfl⟩)
            | (go_at_call 64; refine (word_has _ _ _ (by omega) (by omega) (by omega) (by omega)).mono ?_; rintro e w' ⟨rfl, rfl⟩)
            | (go_at_call 109; refine (wordAt_calls _ _ (by omega) (by omega)).mono ?_; rintro e w' ⟨rfl, rfl⟩)
            | (go_at_call 69; refine (word_add _ _ _ (by omega) (by omega) (by omega) (by omega)).mono ?_; rintro e w' ⟨rfl, rfl⟩))
          go_round
          case rel => exact ⟨k + 1, T + powI p, by omega, by go_num, by rw [HX.out], hr.1, hr.2, HS⟩
          case measure => simp [intOf]; omega
        · have hs' : wof xs = none := wof_none xs (k + 1) (by rw [hs]; simp [addPl, hb])
          have HS := Lib.hid hs'
          have hbb : (bitI T p == 1) = true := by rcases bitI_01 T p with h | h <;> simp_all
          clear hs hs' ht hb
          go_wp2_with (first
            | (go_at_call 231; refine (placeValid_ok _ _ (by omega) (by omega)).mono ?_; rintro e w' ⟨rfl, rfl⟩)
            | (go_at_call 64; refine (word_has _ _ _ (by omega) (by omega) (by omega) (by omega)).mono ?_; rintro e w' ⟨rfl, rfl⟩))
          go_ret2
          exact ⟨by rw [HS.out]; rfl, rfl⟩
      · have hs' : wof xs = none := wof_none xs (k + 1) (by rw [hs]; simp only [addPl]; rw [if_neg (by omega)])
        have HS := Lib.hid hs'
        have hp' : p < 0 ∨ 23 < p := by omega
        clear hs hs' ht hp
        go_wp2_with (go_at_call 231; refine (placeValid_no _ _ hp').mono ?_; rintro e w' ⟨rfl, rfl⟩)
        go_ret2
        exact ⟨by rw [HS.out]; rfl, rfl⟩
    · have hs' : wof xs = some T := by have := ht.out; rwa [List.take_of_length_le (by omega)] at this
      have HS := Lib.hid hs'
      clear hs' ht
      go_wp2
      go_ret2
      exact ⟨by rw [HS.out]; rfl, rfl⟩
set_option maxHeartbeats 400000 in
theorem sWordOf_calls (A : Option Addr) (c : Nat) (xs : List Int) (w : World) (ha : Rds w w.heap.size .i64 A xs) (hx : xs.length ≤ maxLen) :
    Calls Tryz.prog 148 #[.slice A xs.length c] w fun e w' => e = .returned (resW (wof xs)) ∧ w = w' := by
  unfold maxLen at hx
  go_enter Tryz.func148, Tryz.ntmps148
  go_wp2
  go_loop [4, 5] (fun t i => ∃ (k : Nat) (T : Int), k ≤ xs.length ∧ i = .int .i64 k ∧ t = .int .i64 T ∧ 0 ≤ T ∧ T ≤ 16777215 ∧ Hid (wof (xs.take k) = some T)) (fun _ i => xs.length - (intOf i).toNat)
  case atStart => exact ⟨0, 0, Nat.zero_le _, rfl, rfl, by omega, by omega, Lib.hid rfl⟩
  case round =>
    obtain ⟨k, T, hk, rfl, rfl, hT0, hT1, ht⟩ := hrel
    by_cases hlt : k < xs.length
    · obtain ⟨b1, o1, rfl, _, c1⟩ := ha.at_ hlt
      have hs := wof_succ xs k hlt
      rw [ht.out] at hs
      generalize xs.getD k 0 = p at *
      by_cases hp : 0 ≤ p ∧ p ≤ 23
      · obtain ⟨hp0, hp1⟩ := hp
        by_cases hb : bitI T p = 0
        · have hs' : wof (xs.take (k + 1)) = some (T + powI p) := by rw [hs]; simp [addPl, hp0, hp1, hb]
          have hr := addPl_range T p hT0 hT1 hp0 hp1 hb
          have HS := Lib.hid hs'
          have hq := pow_val p hp0 hp1
          have HW := Lib.hid (wrap_pow T p hr.1 hr.2 hq.1 hq.2)
          have hbb : (bitI T p == 1) = false := by rw [hb]; rfl
          clear hs hs' ht hb hq
          go_wp2_with (first
            | (go_at_call 49; refine (l6In_ok _ _ _ _ (by omega) (by omega)).mono ?_; rintro e w' ⟨rfl, rfl⟩)
            | (go_at_call 43; refine (l1Bit_calls _ _ _ (by omega) (by omega)).mono ?_; rintro e w' ⟨rfl, rfl⟩))
          go_round
          case rel => exact ⟨k + 1, T + powI p, by omega, by go_num, by rw [HW.out], hr.1, hr.2, HS⟩
          case measure => simp [intOf]; omega
        · have hs' : wof xs = none := wof_none xs (k + 1) (by rw [hs]; simp [addPl, hb])
          have HS := Lib.hid hs'
          have hbb : (bitI T p == 1) = true := by rcases bitI_01 T p with h | h <;> simp_all
          clear hs hs' ht hb
          go_wp2_with (first
            | (go_at_call 49; refine (l6In_ok _ _ _ _ (by omega) (by omega)).mono ?_; rintro e w' ⟨rfl, rfl⟩)
            | (go_at_call 43; refine (l1Bit_calls _ _ _ (by omega) (by omega)).mono ?_; rintro e w' ⟨rfl, rfl⟩))
          go_ret2
          exact ⟨by rw [HS.out]; rfl, rfl⟩
      · have hs' : wof xs = none := wof_none xs (k + 1) (by rw [hs]; simp only [addPl]; rw [if_neg (by omega)])
        have HS := Lib.hid hs'
        have hp' : p < 0 ∨ 23 < p := by omega
        clear hs hs' ht hp
        go_wp2_with (go_at_call 49; refine (l6In_no _ _ _ _ hp').mono ?_; rintro e w' ⟨rfl, rfl⟩)
        go_ret2
        exact ⟨by rw [HS.out]; rfl, rfl⟩
    · have hs' : wof xs = some T := by have := ht.out; rwa [List.take_of_length_le (by omega)] at this
      have HS := Lib.hid hs'
      clear hs' ht
      go_wp2
      go_ret2
      exact ⟨by rw [HS.out]; rfl, rfl⟩
end Go.Proofs.YtcfhfllcdliaoaaGreatDoor