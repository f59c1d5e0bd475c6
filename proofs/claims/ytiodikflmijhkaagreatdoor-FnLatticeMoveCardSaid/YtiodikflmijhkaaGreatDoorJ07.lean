/- Joined texts: M44 M46 Q1. -/
import Derived.Test.YtiodikflmijhkaaGreatDoorJ06
import Derived.Test.YtiodikflmijhkaaGreatDoorJ01
import Derived.Conc.Holds
import Derived.Leaving
import Derived.SevenTiedAt
import Derived.Test.YtiodikflmijhkaaGreatDoorChecked
import Derived.WalkKit
import Derived.Handy
import Derived.WalkLawsBesides
import Derived.WalkSpells
import Derived.Deep.QuietTactic
import Derived.BigQuiet
import Derived.Lib.Tables
import Derived.Outline
import Derived.Lib.Hide
import Derived.Test.YtiodikflmijhkaaGreatDoorJ00
section
namespace Go.Proofs.YtiodikflmijhkaaGreatDoor
set_option linter.unusedVariables false
attribute [local irreducible] cN syn

/-! ### The places of a word, in their order -/
theorem plN_snoc (w N : Nat) : plN w (N + 1) = plN w N ++ if w.testBit N then [N] else [] := by
  unfold plN
  rw [List.range_succ, List.filter_append]
  congr 1
  by_cases hb : w.testBit N = true <;> simp [hb]
theorem plN_len_pop (w : Nat) : ∀ N, (plN w N).length = popN N w
  | 0 => rfl
  | N + 1 => by
    rw [plN_snoc, popN_top, List.length_append, plN_len_pop w N]
    unfold bN
    cases w.testBit N <;> rfl
theorem plN_at (w : Nat) : ∀ N i, i < (plN w N).length → (plN w N).getD i 0 < N ∧ w.testBit ((plN w N).getD i 0) = true ∧ popN ((plN w N).getD i 0) w = i
  | 0, i, h => by simp [plN] at h
  | N + 1, i, h => by
    rw [plN_snoc] at h ⊢
    by_cases hi : i < (plN w N).length
    · have e : (plN w N ++ if w.testBit N then [N] else []).getD i 0 = (plN w N).getD i 0 := by
        show (plN w N ++ _)[i]?.getD 0 = (plN w N)[i]?.getD 0
        rw [List.getElem?_append_left hi]
      rw [e]
      have := plN_at w N i hi
      exact ⟨by omega, this.2⟩
    · cases hb : w.testBit N
      · simp [hb] at h; omega
      · simp only [hb, if_true, List.length_append, List.length_singleton] at h ⊢
        have hi2 : i = (plN w N).length := by omega
        subst hi2
        have e : (plN w N ++ [N]).getD (plN w N).length 0 = N := by
          show (plN w N ++ [N])[(plN w N).length]?.getD 0 = N
          simp
        rw [e]
        exact ⟨by omega, hb, (plN_len_pop w N).symm⟩

/-! ### Lists of 24 numbers changed at places -/
theorem vL_set (f : Nat → Int) (q : Nat) (x : Int) (hq : q < 24) : (vL f).set q x = vL fun p => if p = q then x else f p := by
  refine listI_ext (by rw [List.length_set, vL_len]) (vL_len _) fun p hp => ?_
  rw [vL_get _ p hp]
  by_cases h : p = q
  · subst h; rw [if_pos rfl]; simp [vL_len, hp]
  · rw [if_neg h]
    show ((vL f).set q x)[p]?.getD 0 = _
    rw [List.getElem?_set_ne (by omega)]
    exact vL_get f p hp
theorem xor_top (a k : Nat) (h : a < 2 ^ k) : a ^^^ 2 ^ k = a + 2 ^ k := by
  apply Nat.eq_of_testBit_eq
  intro p
  rw [Nat.testBit_xor, Nat.testBit_two_pow, Nat.add_comm]
  by_cases e : k = p
  · subst e
    rw [Nat.testBit_two_pow_add_eq, Nat.testBit_lt_two_pow h]; simp
  · by_cases hp : p < k
    · rw [Nat.testBit_two_pow_add_gt hp]; simp [e]
    · have h1 : (2 ^ k + a).testBit p = false := Nat.testBit_lt_two_pow (Nat.lt_of_lt_of_le (show 2 ^ k + a < 2 ^ (k + 1) by rw [Nat.pow_succ]; omega) (Nat.pow_le_pow_right (by decide) (by omega)))
      have h2 : a.testBit p = false := Nat.testBit_lt_two_pow (Nat.lt_of_lt_of_le h (Nat.pow_le_pow_right (by decide) (by omega)))
      rw [h1, h2]; simp [e]
theorem popN_mono (w a b : Nat) (h : a ≤ b) : popN a w ≤ popN b w := by
  induction b with
  | zero => have : a = 0 := by omega
            subst this; exact Nat.le_refl _
  | succ b ih =>
    by_cases e : a = b + 1
    · rw [e]; exact Nat.le_refl _
    · have := ih (by omega)
      rw [popN_top]; omega
theorem pop_lt {w p : Nat} (hp : p < 24) (hb : w.testBit p = true) : popN p w < pop w := by
  have h1 := popN_top p w
  have h2 := popN_mono w (p + 1) 24 (by omega)
  have : bN w p = 1 := by simp [bN, hb]
  unfold pop
  omega
def w4 (v : Nat → Int) (k : Nat) : List Int := [((restN v 0 k : Nat) : Int), ((restN v 1 k : Nat) : Int), ((restN v 2 k : Nat) : Int), ((restN v 3 k : Nat) : Int)]
theorem w4_set (v : Nat → Int) (k : Nat) : ∃ r : Nat, r < 4 ∧ v k % 4 = (r : Int) ∧ (w4 v k).getD r 0 = ((restN v (r : Int) k : Nat) : Int) ∧ (w4 v k).set r (((restN v (r : Int) k : Nat) : Int) + 2 ^ k) = w4 v (k + 1) ∧ (w4 v k).set r (((restN v (r : Int) k ^^^ 2 ^ k : Nat) : Int)) = w4 v (k + 1) := by
  have h : v k % 4 = 0 ∨ v k % 4 = 1 ∨ v k % 4 = 2 ∨ v k % 4 = 3 := by omega
  have hp : (2 : Int) ^ k = ((2 ^ k : Nat) : Int) := by push_cast; rfl
  rcases h with h | h | h | h
  · exact ⟨0, by omega, h, rfl, by simp [w4, restN, h], by rw [xor_top _ _ (restN_lt _ _ _)]; simp [w4, restN, h]⟩
  · exact ⟨1, by omega, h, rfl, by simp [w4, restN, h], by rw [xor_top _ _ (restN_lt _ _ _)]; simp [w4, restN, h]⟩
  · exact ⟨2, by omega, h, rfl, by simp [w4, restN, h], by rw [xor_top _ _ (restN_lt _ _ _)]; simp [w4, restN, h]⟩
  · exact ⟨3, by omega, h, rfl, by simp [w4, restN, h], by rw [xor_top _ _ (restN_lt _ _ _)]; simp [w4, restN, h]⟩
theorem sumV_rng {xs : List Int} (h : vecB xs = true) : ∀ k : Nat, -(100000 * (k : Int)) ≤ sumZ k (atL xs) ∧ sumZ k (atL xs) ≤ 100000 * (k : Int)
  | 0 => by simp [sumZ]
  | k + 1 => by
    have := sumV_rng h k
    have := vecB_rng h k
    simp only [sumZ]
    push_cast
    omega
end Go.Proofs.YtiodikflmijhkaaGreatDoor
end

section
namespace Go.Proofs.YtiodikflmijhkaaGreatDoor
open Go

/-- A tied card with no alternative whose row goes. -/
theorem tied_goes (Lk : Looks) {p : Pinned} {s : OpenSpec} {c : OpenClaim} (kinds : List LaidKind) (tests : Bool) (har : Bool × String) (lk : Bool)
    (hc : c.holds p s) (hw : c.wfByText s = true) (htie : c.laidByTextAt Lk p kinds tests)
    (hst : c.start = .entering) (hnb : c.noBlocks = false ∧ c.again = false) (hm : p.checked.prog.mainIs = some (har.1, har.2.toList)) (hn : (!har.1 && har.2.isEmpty && !lk) = false)
    (hl : ∀ f fn, p.checked.prog.funcNamed c.func = some f → p.checked.prog.funcs[f]? = some fn → lk = p.checked.prog.looks [] ∧ ∀ (j : Nat) t, fn.params[j]? = some t → p.checked.prog.wantsStandIn t = false)
    (hg : true = c.goesBy p.checked.prog) :
    Claim7.holds p (.plain s) { stood := { row := c, standIns := [], harness := har, looks := lk }, kinds := [], alts := [], goes := true, laidByText := true, laidKinds := kinds, laidTests := tests, laidLooks := Lk } := by
  have h6 : Claim7.isSixth { stood := { row := c, standIns := [], harness := har, looks := lk }, kinds := [] } = false := by simpa [Claim7.isSixth] using hn
  exact ⟨Claim7.tied_new_at Lk kinds tests (Claim7.new_of_sixth hc har lk hst hnb hm h6 hl) hw, (fun D hD => by cases hD), htie, (fun h => by cases h), hg⟩
end Go.Proofs.YtiodikflmijhkaaGreatDoor
end

section
namespace Go.Proofs.YtiodikflmijhkaaGreatDoor
open Go.RowKit
set_option linter.unusedVariables false

theorem ret_i {k : IntKind} {a b : Int} (h : a = b) : Ending.returned (.int k a) = .returned (.int k b) := by rw [h]
theorem ret_b {a b : Bool} (h : a = b) : Ending.returned (.bool a) = .returned (.bool b) := by rw [h]

set_option maxRecDepth 100000 in
theorem ones_calls (n : Int) (w : World) (h0 : 0 ≤ n) (h1 : n ≤ 16777215) :
    Calls Tryz.prog 130 #[.int .u32 n] w fun e w' => e = .returned (.int .i64 (wt n)) ∧ ∃ k, w' = w.drewN k := by
  have e1 := and255_u32 n (by omega) (by omega)
  have e2 := and255_u32 (n / 256) (by omega) (by omega)
  have e3 := and255_u32 (n / 65536) (by omega) (by omega)
  have hf := wt_bytes n h0 h1
  have HF := Lib.hid hf
  clear hf
  have g0 : n / 16777216 = 0 := by omega
  go_enter Tryz.func130, Tryz.ntmps130
  go_wp2
  go_quiet (fail)
  go_wp2
  go_ret
  exact ⟨ret_i HF.out, _, rfl⟩
theorem word_weight (n : Int) (w : World) (h0 : 0 ≤ n) (h1 : n ≤ 16777215) :
    Calls Tryz.prog 96 #[.int .u32 n] w fun e w' => e = .returned (.int .i64 (wt n)) ∧ ∃ k, w' = w.drewN k := by
  go_enter Tryz.func96, Tryz.ntmps96
  go_wp2_with (go_at_call 130; refine (ones_calls _ _ (by omega) (by omega)).mono ?_; rintro e w' ⟨rfl, k, rfl⟩)
  go_ret
  exact ⟨rfl, _, rfl⟩
theorem placeValid_ok (n : Int) (w : World) (h0 : 0 ≤ n) (h1 : n ≤ 23) :
    Calls Tryz.prog 109 #[.int .i64 n] w fun e w' => e = .returned (.bool true) ∧ w = w' := by
  go_enter Tryz.func109, Tryz.ntmps109
  go_wp2
  go_ret
  exact ⟨ret_b (by first | (simp; done) | (simp; omega)), rfl⟩
theorem placeValid_no (n : Int) (w : World) (h : n < 0 ∨ 23 < n) :
    Calls Tryz.prog 109 #[.int .i64 n] w fun e w' => e = .returned (.bool false) ∧ w = w' := by
  rcases h with h | h
  · go_enter Tryz.func109, Tryz.ntmps109
    go_wp2
    go_ret
    exact ⟨ret_b (by first | (simp; done) | (simp; omega)), rfl⟩
  · have h' : 0 ≤ n := by omega
    go_enter Tryz.func109, Tryz.ntmps109
    go_wp2
    go_ret
    exact ⟨ret_b (by first | (simp; done) | (simp; omega)), rfl⟩
theorem placeAt_calls (r c : Int) (w : World) (h0 : 0 ≤ r) (h1 : r ≤ 3) (h2 : 0 ≤ c) (h3 : c ≤ 5) :
    Calls Tryz.prog 82 #[.int .i64 r, .int .i64 c] w fun e w' => e = .returned (.int .i64 (c * 4 + r)) ∧ w = w' := by
  go_enter Tryz.func82, Tryz.ntmps82
  go_wp2
  go_ret
  exact ⟨rfl, rfl⟩
theorem wordAt_calls (i : Int) (w : World) (h0 : 0 ≤ i) (h1 : i ≤ 23) :
    Calls Tryz.prog 91 #[.int .i64 i] w fun e w' => e = .returned (.int .u32 (powI i)) ∧ w = w' := by
  have hp := powI_pos i
  have hq := powI_le i h0 h1
  have hf : 2 ^ i.toNat % 4294967296 = powI i := by show powI i % 4294967296 = powI i; omega
  have HF := Lib.hid hf
  clear hf hp hq
  go_enter Tryz.func91, Tryz.ntmps91
  go_wp2
  go_ret
  exact ⟨ret_i HF.out, rfl⟩
theorem word_add (a b : Int) (w : World) (h0 : 0 ≤ a) (h1 : a ≤ 16777215) (h2 : 0 ≤ b) (h3 : b ≤ 16777215) :
    Calls Tryz.prog 52 #[.int .u32 a, .int .u32 b] w fun e w' => e = .returned (.int .u32 (xorI a b)) ∧ w = w' := by
  have HF := Lib.hid (xor_u32 a b h0 (by omega) h2 (by omega))
  go_enter Tryz.func52, Tryz.ntmps52
  go_wp2
  go_ret
  exact ⟨ret_i HF.out, rfl⟩
theorem word_meet (a b : Int) (w : World) (h0 : 0 ≤ a) (h1 : a ≤ 16777215) (h2 : 0 ≤ b) (h3 : b ≤ 16777215) :
    Calls Tryz.prog 95 #[.int .u32 a, .int .u32 b] w fun e w' => e = .returned (.int .u32 (andI a b)) ∧ w = w' := by
  have HF := Lib.hid (and_u32 a b h0 (by omega) h2 (by omega))
  go_enter Tryz.func95, Tryz.ntmps95
  go_wp2
  go_ret
  exact ⟨ret_i HF.out, rfl⟩
theorem word_has (a i : Int) (w : World) (h0 : 0 ≤ a) (h1 : a ≤ 16777215) (h2 : 0 ≤ i) (h3 : i ≤ 23) :
    Calls Tryz.prog 110 #[.int .u32 a, .int .i64 i] w fun e w' => e = .returned (.bool (bitI a i == 1)) ∧ w = w' := by
  have hp := powI_pos i
  have hq := powI_le i h2 h3
  have hf : (!(bits .and .u32 a (powI i) == 0)) = (bitI a i == 1) := by
    rw [and_u32 a (powI i) h0 (by omega) (by omega) (by omega), and_pow a i h0 h2]
    rcases bitI_01 a i with h | h <;> rw [h] <;> simp
    omega
  have hf' : (bits .and .u32 a (powI i) != 0) = (bitI a i == 1) := hf
  have HF := Lib.hid hf
  have HG := Lib.hid hf'
  clear hf hf' hp hq
  go_enter Tryz.func110, Tryz.ntmps110
  go_wp2_with (go_at_call 91; refine (wordAt_calls _ _ (by omega) (by omega)).mono ?_; rintro e w' ⟨rfl, rfl⟩)
  go_ret
  first | exact ⟨ret_b HF.out, rfl⟩ | exact ⟨ret_b HG.out, rfl⟩
theorem l6In_ok (n l h : Int) (w : World) (h0 : l ≤ n) (h1 : n ≤ h) :
    Calls Tryz.prog 44 #[.int .i64 n, .int .i64 l, .int .i64 h] w fun e w' => e = .returned (.bool true) ∧ w = w' := by
  go_enter Tryz.func44, Tryz.ntmps44
  go_wp2
  go_ret
  exact ⟨ret_b (by first | rfl | (simp; done) | (simp; omega)), rfl⟩
theorem l6In_no (n l h : Int) (w : World) (h0 : n < l ∨ h < n) :
    Calls Tryz.prog 44 #[.int .i64 n, .int .i64 l, .int .i64 h] w fun e w' => e = .returned (.bool false) ∧ w = w' := by
  by_cases h1 : n < l
  · go_enter Tryz.func44, Tryz.ntmps44
    go_wp2
    go_ret
    exact ⟨ret_b (by first | rfl | (simp; done) | (simp; omega)), rfl⟩
  · have h2 : l ≤ n := by omega
    have h3 : h < n := by omega
    go_enter Tryz.func44, Tryz.ntmps44
    go_wp2
    go_ret
    exact ⟨ret_b (by first | rfl | (simp; done) | (simp; omega)), rfl⟩
theorem l1Bit_calls (n i : Int) (w : World) (h0 : 0 ≤ i) (h1 : i ≤ 63) :
    Calls Tryz.prog 45 #[.int .i64 n, .int .i64 i] w fun e w' => e = .returned (.int .i64 (bitI n i)) ∧ w = w' := by
  have HF := Lib.hid (show bits .and .i64 (n / 2 ^ i.toNat) 1 = bitI n i from and1_i64 _)
  go_enter Tryz.func45, Tryz.ntmps45
  go_wp2
  go_ret
  exact ⟨ret_i HF.out, rfl⟩
theorem sWordValid_ok (n : Int) (w : World) (h0 : 0 ≤ n) (h1 : n ≤ 16777215) :
    Calls Tryz.prog 100 #[.int .i64 n] w fun e w' => e = .returned (.bool true) ∧ w = w' := by
  go_enter Tryz.func100, Tryz.ntmps100
  go_wp2_with (go_at_call 44; refine (l6In_ok _ _ _ _ (by omega) (by omega)).mono ?_; rintro e w' ⟨rfl, rfl⟩)
  go_ret
  exact ⟨rfl, rfl⟩
theorem sWordValid_no (n : Int) (w : World) (h : n < 0 ∨ 16777215 < n) :
    Calls Tryz.prog 100 #[.int .i64 n] w fun e w' => e = .returned (.bool false) ∧ w = w' := by
  go_enter Tryz.func100, Tryz.ntmps100
  go_wp2_with (go_at_call 44; refine (l6In_no _ _ _ _ (by omega)).mono ?_; rintro e w' ⟨rfl, rfl⟩)
  go_ret
  exact ⟨rfl, rfl⟩
theorem l1Weight_calls (n : Int) (w : World) :
    Calls Tryz.prog 57 #[.int .i64 n] w fun e w' => e = .returned (.int .i64 (wt n)) ∧ w = w' := by
  go_enter Tryz.func57, Tryz.ntmps57
  go_wp2
  go_loop [3, 4] (fun t i => ∃ k : Nat, k ≤ 24 ∧ i = .int .i64 k ∧ t = .int .i64 (wtTo n k)) (fun _ i => 24 - (intOf i).toNat)
  case atStart => exact ⟨0, by omega, rfl, rfl⟩
  case round =>
    obtain ⟨k, hk, rfl, rfl⟩ := hrel
    have hr := wtTo_range n k
    have hb := bitI_01 n k
    have b0 := bitI_nonneg n k
    have b1 := bitI_le n k
    clear hb
    by_cases hlt : k < 24
    · have HF := Lib.hid (show wtTo n (k + 1) = wtTo n k + bitI n k from rfl)
      go_wp2_with (go_at_call 45; refine (l1Bit_calls _ _ _ (by omega) (by omega)).mono ?_; rintro e w' ⟨rfl, rfl⟩)
      go_round
      case rel => exact ⟨k + 1, by omega, by go_num, by rw [HF.out]⟩
      case measure => simp [intOf]; omega
    · go_wp2
      go_ret
      exact ⟨ret_i (by rw [show k = 24 by omega]; rfl), rfl⟩
end Go.Proofs.YtiodikflmijhkaaGreatDoor
/- Contracts of the exported functions of chapter 1 on plain numbers, of the program and of its model. -/
namespace Go.Proofs.YtiodikflmijhkaaGreatDoor
open Go.RowKit
set_option linter.unusedVariables false

/-- A number is a word. -/
def IsW (n : Int) : Prop := 0 ≤ n ∧ n ≤ 16777215
end Go.Proofs.YtiodikflmijhkaaGreatDoor
/- Contracts of the laws' own helpers on lists of ints, and of WordOf. -/
namespace Go.Proofs.YtiodikflmijhkaaGreatDoor
open Go.RowKit
set_option linter.unusedVariables false

def eqL (xs ys : List Int) : Bool := decide (xs = ys)
theorem eqL_refl (xs : List Int) : eqL xs xs = true := by simp [eqL]

theorem take_succ_getD (xs : List Int) (k : Nat) (h : k < xs.length) : xs.take (k + 1) = xs.take k ++ [xs.getD k 0] := by
  rw [List.take_succ_eq_append_getElem h]; simp [List.getElem?_eq_getElem h]
theorem eqL_step (xs ys : List Int) (k : Nat) (h : k < xs.length) (hl : xs.length = ys.length) (he : xs.getD k 0 = ys.getD k 0) (ht : xs.take k = ys.take k) : xs.take (k + 1) = ys.take (k + 1) := by
  rw [take_succ_getD xs k h, take_succ_getD ys k (by omega), he, ht]
theorem eqL_no (xs ys : List Int) (k : Nat) (he : xs.getD k 0 ≠ ys.getD k 0) : eqL xs ys = false := by
  simp only [eqL, decide_eq_false_iff_not]
  rintro rfl
  exact he rfl
theorem eqL_len (xs ys : List Int) (he : xs.length ≠ ys.length) : eqL xs ys = false := by
  simp only [eqL, decide_eq_false_iff_not]
  rintro rfl
  exact he rfl
theorem eqL_yes (xs ys : List Int) (k : Nat) (hl : xs.length = ys.length) (h : xs.length ≤ k) (ht : xs.take k = ys.take k) : eqL xs ys = true := by
  rw [List.take_of_length_le h, List.take_of_length_le (by omega)] at ht
  rw [ht, eqL_refl]


set_option maxHeartbeats 400000 in
theorem sameInts_calls (A B : Option Addr) (c d : Nat) (xs ys : List Int) (w : World) (ha : Rds w w.heap.size .i64 A xs) (hb : Rds w w.heap.size .i64 B ys) (hx : xs.length ≤ maxLen) (hy : ys.length ≤ maxLen) :
    Calls Tryz.prog 7 #[.slice A xs.length c, .slice B ys.length d] w fun e w' => e = .returned (.bool (eqL xs ys)) ∧ ∃ k, w' = w.drewN k := by
  unfold maxLen at hx hy
  by_cases hl : xs.length = ys.length
  · have HL := Lib.hid hl
    have hl1 : ((xs.length : Int) != (ys.length : Int)) = false := by simp [hl]
    have hl2 : ((xs.length : Int) == (ys.length : Int)) = true := by simp [hl]
    clear hl
    go_enter Tryz.func7, Tryz.ntmps7
    go_wp2
    go_loopw [5] (fun i wr => ∃ k : Nat, k ≤ xs.length ∧ i = .int .i64 k ∧ Hid (xs.take k = ys.take k) ∧ ∃ m, wr = w.drewN m) (fun i _ => xs.length - (intOf i).toNat)
    case atStart => exact ⟨0, Nat.zero_le _, rfl, Lib.hid (by simp), 0, rfl⟩
    case round =>
      obtain ⟨k, hk, rfl, ht, m, rfl⟩ := hrel
      by_cases hlt : k < xs.length
      · obtain ⟨b1, o1, rfl, _, c1⟩ := ha.at_ hlt
        obtain ⟨b2, o2, rfl, _, c2⟩ := hb.at_ (j := k) (by have := HL.out; omega)
        have hky : k < ys.length := by have := HL.out; omega
        by_cases he : xs.getD k 0 = ys.getD k 0
        · have HT := Lib.hid (eqL_step xs ys k hlt HL.out he ht.out)
          have e1 : (xs.getD k 0 != ys.getD k 0) = false := by rw [he]; simp
          clear ht
          generalize xs.getD k 0 = x at *
          generalize ys.getD k 0 = y at *
          clear he
          go_wp2
          go_quiet (fail)
          go_wp2
          go_roundw
          case rel => exact ⟨k + 1, by omega, by go_num, HT, _, rfl⟩
          case measure => simp [intOf]; omega
        · have HT := Lib.hid (eqL_no xs ys k he)
          have e1 : (xs.getD k 0 != ys.getD k 0) = true := by simpa using he
          clear ht
          generalize xs.getD k 0 = x at *
          generalize ys.getD k 0 = y at *
          clear he
          go_wp2
          go_quiet (fail)
          go_wp2
          go_ret
          exact ⟨ret_b HT.out.symm, _, World.drewN_drewN _ _ _⟩
      · go_wp2
        go_ret
        exact ⟨ret_b (eqL_yes xs ys k HL.out (by omega) ht.out).symm, m, rfl⟩
  · have HN := Lib.hid (eqL_len xs ys hl)
    have hl1 : ((xs.length : Int) != (ys.length : Int)) = true := by simpa using fun e => hl (by omega)
    clear hl
    go_enter Tryz.func7, Tryz.ntmps7
    go_wp2
    go_ret
    exact ⟨ret_b HN.out.symm, 0, rfl⟩


/-- The word of a list of places: one place more, or none. -/
def addPl : Option Int → Int → Option Int
  | some t, p => if 0 ≤ p ∧ p ≤ 23 ∧ bitI t p = 0 then some (t + powI p) else none
  | none, _ => none
def wof (xs : List Int) : Option Int := xs.foldl addPl (some 0)
def resW : Option Int → Value
  | some t => .tuple #[.int .i64 t, .bool true]
  | none => .tuple #[.int .i64 0, .bool false]
theorem wof_succ (xs : List Int) (k : Nat) (h : k < xs.length) : wof (xs.take (k + 1)) = addPl (wof (xs.take k)) (xs.getD k 0) := by
  unfold wof
  rw [take_succ_getD xs k h, List.foldl_append]; rfl
theorem foldl_none (xs : List Int) : xs.foldl addPl none = none := by
  induction xs with
  | nil => rfl
  | cons x xs ih => simpa [List.foldl, addPl] using ih
theorem wof_none (xs : List Int) (k : Nat) (h : wof (xs.take k) = none) : wof xs = none := by
  unfold wof at *
  rw [← List.take_append_drop k xs, List.foldl_append, h, foldl_none]
theorem nat_xor_add (T q : Nat) (h : T &&& q = 0) : T ^^^ q = T + q := by
  have hb : T + q < 2 ^ (T + q) := Nat.lt_two_pow_self
  have e := BitVec.add_eq_or_of_and_eq_zero (BitVec.ofNat (T + q) T) (BitVec.ofNat (T + q) q) (by
    apply BitVec.eq_of_toNat_eq
    rw [BitVec.toNat_and, BitVec.toNat_ofNat, BitVec.toNat_ofNat, Nat.mod_eq_of_lt (by omega), Nat.mod_eq_of_lt (by omega), h]
    simp)
  have e2 := congrArg BitVec.toNat e
  rw [BitVec.toNat_add, BitVec.toNat_or, BitVec.toNat_ofNat, BitVec.toNat_ofNat, Nat.mod_eq_of_lt (show T < 2 ^ (T + q) by omega), Nat.mod_eq_of_lt (show q < 2 ^ (T + q) by omega), Nat.mod_eq_of_lt hb] at e2
  rw [e2]
  apply Nat.eq_of_testBit_eq
  intro i
  rw [Nat.testBit_xor, Nat.testBit_or]
  have := congrArg (fun n => n.testBit i) h
  simp only [Nat.testBit_and, Nat.zero_testBit] at this
  revert this
  cases T.testBit i <;> cases q.testBit i <;> simp
theorem xor_pow (t p : Int) (h0 : 0 ≤ t) (h2 : 0 ≤ p) (hb : bitI t p = 0) : xorI t (powI p) = t + powI p := by
  have hm := and_pow t p h0 h2
  rw [hb, Int.zero_mul] at hm
  obtain ⟨T, rfl⟩ := Int.eq_ofNat_of_zero_le h0
  have hp := powI_pos p
  obtain ⟨q, hq⟩ := Int.eq_ofNat_of_zero_le (show 0 ≤ powI p by omega)
  rw [hq] at hm ⊢
  unfold andI at hm
  unfold xorI
  rw [Int.toNat_natCast, Int.toNat_natCast] at hm
  rw [Int.toNat_natCast, Int.toNat_natCast, nat_xor_add T q (by omega)]
  omega
theorem pow_val (p : Int) (h0 : 0 ≤ p) (h1 : p ≤ 23) : powI p < 16777216 ∧ 0 < powI p := ⟨by have := powI_le p h0 h1; omega, powI_pos p⟩
theorem wrap_pow (t p : Int) (h0 : 0 ≤ t + powI p) (h1 : t + powI p ≤ 16777215) (h2 : powI p < 16777216) (h3 : 0 < powI p) : wrap64 (t + wrap64 (2 ^ p.toNat)) = t + powI p := by
  have a : wrap64 (powI p) = powI p := IntWalk.wrap64_in _ (by omega)
  show wrap64 (t + wrap64 (powI p)) = t + powI p
  rw [a]
  exact IntWalk.wrap64_in _ (by omega)
theorem addPl_range (t p : Int) (h0 : 0 ≤ t) (h1 : t ≤ 16777215) (hp0 : 0 ≤ p) (hp1 : p ≤ 23) (hb : bitI t p = 0) : 0 ≤ t + powI p ∧ t + powI p ≤ 16777215 := by
  have a := xor_pow t p h0 hp0 hb
  have b := xorI_le t (powI p) h1 (by have := powI_le p hp0 hp1; omega)
  have c := powI_pos p
  omega

set_option maxHeartbeats 400000 in
theorem iWordOf_calls (A : Option Addr) (c : Nat) (xs : List Int) (w : World) (ha : Rds w w.heap.size .i64 A xs) (hx : xs.length ≤ maxLen) :
    Calls Tryz.prog 68 #[.slice A xs.length c] w fun e w' => e = .returned (resW (wof xs)) ∧ w = w' := by
  unfold maxLen at hx
  go_enter Tryz.func68, Tryz.ntmps68
  go_wp2
  go_loop [4, 9] (fun t i => ∃ (k : Nat) (T : Int), k ≤ xs.length ∧ i = .int .i64 k ∧ t = .int .u32 T ∧ 0 ≤ T ∧ T ≤ 16777215 ∧ Hid (wof (xs.take k) = some T)) (fun _ i => xs.length - (intOf i).toNat)
  case atStart => exact ⟨0, 0, Nat.zero_le _, rfl, rfl, by omega, by omega, Lib.hid rfl⟩
  case round =>
    obtain ⟨k, T, hk, rfl, rfl, hT0, hT1, ht⟩ := hrel
    by_cases hlt : k < xs.length
    · obtain ⟨b1, o1, rfl, _, c1⟩ := ha.at_ hlt
      have hs := wof_succ xs k hlt
      rw [ht.out] at hs
      generalize xs.getD k 0 = p at *
      by_cases hp : 0 ≤ p ∧ p ≤ 23
      · obtain ⟨hp0, hp1⟩ := hp
        by_cases hb : bitI T p = 0
        · have hs' : wof (xs.take (k + 1)) = some (T + powI p) := by rw [hs]; simp [addPl, hp0, hp1, hb]
          have hr := addPl_range T p hT0 hT1 hp0 hp1 hb
          have HX := Lib.hid (xor_pow T p hT0 hp0 hb)
          have HS := Lib.hid hs'
          have hq := pow_val p hp0 hp1
          have hbb : (bitI T p == 1) = false := by rw [hb]; rfl
          clear hs hs' ht hb
          go_wp2_with (first
            | (go_at_call 109; refine (placeValid_ok _ _ (by omega) (by omega)).mono ?_; rintro e w' ⟨rfl, rfl⟩)
            | (go_at_call 110; refine (word_has _ _ _ (by omega) (by omega) (by omega) (by omega)).mono ?_; rintro e w' ⟨rfl, rfl⟩)
            | (go_at_call 91; refine (wordAt_calls _ _ (by omega) (by omega)).mono ?_; rintro e w' ⟨rfl, rfl⟩)
            | (go_at_call 52; refine (word_add _ _ _ (by omega) (by omega) (by omega) (by omega)).mono ?_; rintro e w' ⟨rfl, rfl⟩))
          go_round
          case rel => exact ⟨k + 1, T + powI p, by omega, by go_num, by rw [HX.out], hr.1, hr.2, HS⟩
          case measure => simp [intOf]; omega
        · have hs' : wof xs = none := wof_none xs (k + 1) (by rw [hs]; simp [addPl, hb])
          have HS := Lib.hid hs'
          have hbb : (bitI T p == 1) = true := by rcases bitI_01 T p with h | h <;> simp_all
          clear hs hs' ht hb
          go_wp2_with (first
            | (go_at_call 109; refine (placeValid_ok _ _ (by omega) (by omega)).mono ?_; rintro e w' ⟨rfl, rfl⟩)
            | (go_at_call 110; refine (word_has _ _ _ (by omega) (by omega) (by omega) (by omega)).mono ?_; rintro e w' ⟨rfl, rfl⟩))
          go_ret2
          exact ⟨by rw [HS.out]; rfl, rfl⟩
      · have hs' : wof xs = none := wof_none xs (k + 1) (by rw [hs]; simp only [addPl]; rw [if_neg (by omega)])
        have HS := Lib.hid hs'
        have hp' : p < 0 ∨ 23 < p := by omega
        clear hs hs' ht hp
        go_wp2_with (go_at_call 109; refine (placeValid_no _ _ hp').mono ?_; rintro e w' ⟨rfl, rfl⟩)
        go_ret2
        exact ⟨by rw [HS.out]; rfl, rfl⟩
    · have hs' : wof xs = some T := by have := ht.out; rwa [List.take_of_length_le (by omega)] at this
      have HS := Lib.hid hs'
      clear hs' ht
      go_wp2
      go_ret2
      exact ⟨by rw [HS.out]; rfl, rfl⟩
set_option maxHeartbeats 400000 in
theorem sWordOf_calls (A : Option Addr) (c : Nat) (xs : List Int) (w : World) (ha : Rds w w.heap.size .i64 A xs) (hx : xs.length ≤ maxLen) :
    Calls Tryz.prog 98 #[.slice A xs.length c] w fun e w' => e = .returned (resW (wof xs)) ∧ w = w' := by
  unfold maxLen at hx
  go_enter Tryz.func98, Tryz.ntmps98
  go_wp2
  go_loop [4, 5] (fun t i => ∃ (k : Nat) (T : Int), k ≤ xs.length ∧ i = .int .i64 k ∧ t = .int .i64 T ∧ 0 ≤ T ∧ T ≤ 16777215 ∧ Hid (wof (xs.take k) = some T)) (fun _ i => xs.length - (intOf i).toNat)
  case atStart => exact ⟨0, 0, Nat.zero_le _, rfl, rfl, by omega, by omega, Lib.hid rfl⟩
  case round =>
    obtain ⟨k, T, hk, rfl, rfl, hT0, hT1, ht⟩ := hrel
    by_cases hlt : k < xs.length
    · obtain ⟨b1, o1, rfl, _, c1⟩ := ha.at_ hlt
      have hs := wof_succ xs k hlt
      rw [ht.out] at hs
      generalize xs.getD k 0 = p at *
      by_cases hp : 0 ≤ p ∧ p ≤ 23
      · obtain ⟨hp0, hp1⟩ := hp
        by_cases hb : bitI T p = 0
        · have hs' : wof (xs.take (k + 1)) = some (T + powI p) := by rw [hs]; simp [addPl, hp0, hp1, hb]
          have hr := addPl_range T p hT0 hT1 hp0 hp1 hb
          have HS := Lib.hid hs'
          have hq := pow_val p hp0 hp1
          have HW := Lib.hid (wrap_pow T p hr.1 hr.2 hq.1 hq.2)
          have hbb : (bitI T p == 1) = false := by rw [hb]; rfl
          clear hs hs' ht hb hq
          go_wp2_with (first
            | (go_at_call 44; refine (l6In_ok _ _ _ _ (by omega) (by omega)).mono ?_; rintro e w' ⟨rfl, rfl⟩)
            | (go_at_call 45; refine (l1Bit_calls _ _ _ (by omega) (by omega)).mono ?_; rintro e w' ⟨rfl, rfl⟩))
          go_round
          case rel => exact ⟨k + 1, T + powI p, by omega, by go_num, by rw [HW.out], hr.1, hr.2, HS⟩
          case measure => simp [intOf]; omega
        · have hs' : wof xs = none := wof_none xs (k + 1) (by rw [hs]; simp [addPl, hb])
          have HS := Lib.hid hs'
          have hbb : (bitI T p == 1) = true := by rcases bitI_01 T p with h | h <;> simp_all
          clear hs hs' ht hb
          go_wp2_with (first
            | (go_at_call 44; refine (l6In_ok _ _ _ _ (by omega) (by omega)).mono ?_; rintro e w' ⟨rfl, rfl⟩)
            | (go_at_call 45; refine (l1Bit_calls _ _ _ (by omega) (by omega)).mono ?_; rintro e w' ⟨rfl, rfl⟩))
          go_ret2
          exact ⟨by rw [HS.out]; rfl, rfl⟩
      · have hs' : wof xs = none := wof_none xs (k + 1) (by rw [hs]; simp only [addPl]; rw [if_neg (by omega)])
        have HS := Lib.hid hs'
        have hp' : p < 0 ∨ 23 < p := by omega
        clear hs hs' ht hp
        go_wp2_with (go_at_call 44; refine (l6In_no _ _ _ _ hp').mono ?_; rintro e w' ⟨rfl, rfl⟩)
        go_ret2
        exact ⟨by rw [HS.out]; rfl, rfl⟩
    · have hs' : wof xs = some T := by have := ht.out; rwa [List.take_of_length_le (by omega)] at this
      have HS := Lib.hid hs'
      clear hs' ht
      go_wp2
      go_ret2
      exact ⟨by rw [HS.out]; rfl, rfl⟩
end Go.Proofs.YtiodikflmijhkaaGreatDoor
end
