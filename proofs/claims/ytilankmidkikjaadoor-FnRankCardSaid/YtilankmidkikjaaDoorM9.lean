/- The next word of the same weight: what it is, and that its rank is the next one. -/
import Derived.Test.YtilankmidkikjaaDoorM7
import Derived.Test.YtilankmidkikjaaDoorM8
namespace Go.Proofs.YtilankmidkikjaaDoor
open Go.RowKit
set_option linter.unusedVariables false

theorem rk_app (L1 L2 U : List Nat) (hl : L1.length = L2.length) : rk (L1 ++ U) - rk L1 = rk (L2 ++ U) - rk L2 := by
  induction U generalizing L1 L2 with
  | nil => simp
  | cons x U ih =>
    have h := ih (L1 ++ [x]) (L2 ++ [x]) (by simp [hl])
    rw [rk_snoc, rk_snoc, List.append_assoc, List.append_assoc] at h
    simp only [List.singleton_append] at h
    rw [hl] at h
    omega

def lowA (c t : Nat) : Nat := 2 ^ c * (2 ^ t - 1)
def lowB (c t : Nat) : Nat := 2 ^ (c + t) + (2 ^ (t - 1) - 1)
theorem low_all : ∀ c : Fin 24, ∀ t : Fin 24, 1 ≤ t.val → c.val + t.val ≤ 23 →
    lowA c.val t.val < 2 ^ (c.val + t.val + 1) ∧ lowB c.val t.val < 2 ^ (c.val + t.val + 1) ∧
    lowA c.val t.val ^^^ 2 ^ (c.val + t.val) = 2 ^ c.val * (2 ^ (t.val + 1) - 1) ∧ 2 ^ c.val * (2 ^ (t.val + 1) - 1) / 2 ^ c.val / 4 = 2 ^ (t.val - 1) - 1 ∧
    2 ^ (c.val + t.val) ||| (2 ^ (t.val - 1) - 1) = lowB c.val t.val ∧ lowA c.val t.val + 2 ^ c.val = 2 ^ (c.val + t.val) ∧
    (plN (lowA c.val t.val) (c.val + t.val + 1)).length = (plN (lowB c.val t.val) (c.val + t.val + 1)).length ∧
    rk (plN (lowB c.val t.val) (c.val + t.val + 1)) = rk (plN (lowA c.val t.val) (c.val + t.val + 1)) + 1 := by decide +kernel

/-- The places from s on. -/
def upN (q s N : Nat) : List Nat := (List.range N).filter fun i => decide (s ≤ i) && q.testBit (i - s)
theorem upN_succ (q s N : Nat) : upN q s (N + 1) = upN q s N ++ if s ≤ N ∧ q.testBit (N - s) = true then [N] else [] := by
  unfold upN
  rw [List.range_succ, List.filter_append]
  congr 1
  by_cases h : s ≤ N <;> cases h2 : q.testBit (N - s) <;> simp [h, h2]
theorem upN_low (q s N : Nat) (h : N ≤ s) : upN q s N = [] := by
  induction N with
  | zero => rfl
  | succ N ih => rw [upN_succ, ih (by omega), if_neg (by omega)]; rfl
theorem plN_split (q a s N : Nat) (ha : a < 2 ^ s) (h : s ≤ N) : plN (2 ^ s * q + a) N = plN a s ++ upN q s N := by
  have tb := Nat.testBit_two_pow_mul_add q ha
  have low : ∀ n, n ≤ s → plN (2 ^ s * q + a) n = plN a n := by
    intro n hn
    unfold plN
    apply List.filter_congr
    intro i hi
    have := List.mem_range.1 hi
    rw [tb i, if_pos (by omega)]
  induction N with
  | zero => rw [low 0 (by omega)]; obtain rfl : s = 0 := by omega
            rfl
  | succ N ih =>
    by_cases e : s = N + 1
    · rw [low (N + 1) (by omega), upN_low q s (N + 1) (by omega), e]; simp
    · have tN : (2 ^ s * q + a).testBit N = q.testBit (N - s) := by rw [tb N, if_neg (by omega)]
      rw [plN_succ, ih (by omega), upN_succ, List.append_assoc, tN]
      have hs : s ≤ N := by omega
      cases h2 : q.testBit (N - s) <;> simp [hs]
theorem xor_split (q a b s : Nat) (ha : a < 2 ^ s) (hb : b < 2 ^ s) : (2 ^ s * q + a) ^^^ (2 ^ s * q + b) = a ^^^ b := by
  apply Nat.eq_of_testBit_eq
  intro i
  rw [Nat.testBit_xor, Nat.testBit_xor, Nat.testBit_two_pow_mul_add q ha, Nat.testBit_two_pow_mul_add q hb]
  by_cases h : i < s
  · simp [h]
  · have h2 : 2 ^ s ≤ 2 ^ i := Nat.pow_le_pow_right (by decide) (by omega)
    rw [Nat.testBit_lt_two_pow (show a < 2 ^ i by omega), Nat.testBit_lt_two_pow (show b < 2 ^ i by omega)]
    simp [h]
theorem or_split (q a b s : Nat) (ha : a < 2 ^ s) (hb : b < 2 ^ s) (hab : a ||| b < 2 ^ s) : (2 ^ s * q + a) ||| b = 2 ^ s * q + (a ||| b) := by
  apply Nat.eq_of_testBit_eq
  intro i
  rw [Nat.testBit_or, Nat.testBit_two_pow_mul_add q ha, Nat.testBit_two_pow_mul_add q hab, Nat.testBit_or]
  by_cases h : i < s
  · simp [h]
  · have h2 : 2 ^ s ≤ 2 ^ i := Nat.pow_le_pow_right (by decide) (by omega)
    rw [Nat.testBit_lt_two_pow (show b < 2 ^ i by omega)]
    simp [h]
theorem odd_form (x : Nat) (h0 : x ≠ 0) (h : x < 2 ^ 64) : ∃ m, x = 2 ^ Lib.ctz 64 x * (2 * m + 1) := by
  obtain ⟨m, hm, _⟩ := Lib.ctzFrom_spec 64 x (by omega) h
  have e : Lib.ctz 64 x = Lib.ctzFrom 64 x := by simp [Lib.ctz, h0]
  rw [e]; exact ⟨m, hm⟩
theorem run_form (W : Nat) (h0 : W ≠ 0) (h : W < 16777216) : ∃ t q, 1 ≤ t ∧ W = 2 ^ (Lib.ctz 64 W + t + 1) * q + lowA (Lib.ctz 64 W) t := by
  obtain ⟨m, hm⟩ := odd_form W h0 (by omega)
  generalize Lib.ctz 64 W = c at *
  have hp : 0 < 2 ^ c := Nat.two_pow_pos c
  have hm2 : 2 * m + 1 ≤ W := by rw [hm]; exact Nat.le_mul_of_pos_left _ hp
  obtain ⟨q, hq⟩ := odd_form (2 * m + 2) (by omega) (by omega)
  generalize Lib.ctz 64 (2 * m + 2) = t at *
  have ht : 1 ≤ t := by
    rcases Nat.eq_zero_or_pos t with e | e
    · subst e; simp at hq; omega
    · exact e
  refine ⟨t, q, ht, ?_⟩
  have hpt : 0 < 2 ^ t := Nat.two_pow_pos t
  have e1 : 2 * m + 1 = 2 ^ (t + 1) * q + (2 ^ t - 1) := by
    have : 2 ^ t * (2 * q + 1) = 2 ^ (t + 1) * q + 2 ^ t := by rw [Nat.mul_add, Nat.pow_succ, Nat.mul_one, Nat.mul_assoc]
    omega
  rw [hm, e1, Nat.mul_add, ← Nat.mul_assoc, ← Nat.pow_add]
  rfl
theorem low_i64 (W : Nat) (h0 : W ≠ 0) (h : W < 16777216) : bits .and .i64 (W : Int) (-(W : Int)) = ((2 ^ Lib.ctz 64 W : Nat) : Int) ∧ 2 ^ Lib.ctz 64 W ≤ W := by
  obtain ⟨h1, h2⟩ := Lib.lowest_bit 64 W h0 (by omega)
  have hle : 2 ^ Lib.ctz 64 W ≤ W := by rw [← h1]; exact Nat.and_le_left
  refine ⟨?_, hle⟩
  show IntKind.i64.wrap ((BitVec.ofInt 64 (W : Int) &&& BitVec.ofInt 64 (-(W : Int))).toNat : Int) = _
  have e1 : (BitVec.ofInt 64 (W : Int)).toNat = W := by rw [BitVec.toNat_ofInt]; omega
  have e2 : (BitVec.ofInt 64 (-(W : Int))).toNat = 2 ^ 64 - W := by rw [BitVec.toNat_ofInt]; omega
  rw [BitVec.toNat_and, e1, e2, h1, IntKind.wrap_i64]
  omega
/-- The next word of the same weight has the next rank. -/
theorem next_rank (W : Nat) (h0 : W ≠ 0) (h : W < 16777216) : ∃ low : Nat, bits .and .i64 (W : Int) (-(W : Int)) = (low : Int) ∧ 0 < low ∧ low ≤ W ∧
    (W + low ≤ 16777215 → ∃ X r Z : Nat, bits .xor .i64 (W : Int) ((W : Int) + low) = (X : Int) ∧ X < 16777216 ∧ X / low / 4 = r ∧ bits .or .i64 ((W : Int) + low) (r : Int) = (Z : Int) ∧ Z < 16777216 ∧ rk (pl Z) = rk (pl W) + 1) := by
  obtain ⟨hl, hle⟩ := low_i64 W h0 h
  obtain ⟨t, q, ht, hW⟩ := run_form W h0 h
  refine ⟨_, hl, Nat.two_pow_pos _, hle, ?_⟩
  generalize Lib.ctz 64 W = c at *
  intro hup
  have hA : lowA c t + 2 ^ c = 2 ^ (c + t) := by
    have : 0 < 2 ^ t := Nat.two_pow_pos t
    unfold lowA
    rw [Nat.mul_sub, Nat.mul_one, ← Nat.pow_add]
    have : 2 ^ c ≤ 2 ^ (c + t) := Nat.pow_le_pow_right (by decide) (by omega)
    omega
  have hct : c + t ≤ 23 := by
    apply Nat.le_of_not_lt
    intro hge
    have : 2 ^ 24 ≤ 2 ^ (c + t) := Nat.pow_le_pow_right (by decide) (by omega)
    omega
  obtain ⟨f1, f2, f3, f4, f5, f6, f7, f8⟩ := low_all ⟨c, by omega⟩ ⟨t, by omega⟩ ht hct
  simp only at f1 f2 f3 f4 f5 f6 f7 f8
  have hB : 2 ^ (c + t) < 2 ^ (c + t + 1) := Nat.pow_lt_pow_right (by decide) (by omega)
  have hr1 : 2 ^ (t - 1) - 1 < 2 ^ (c + t + 1) := by
    have : 2 ^ (t - 1) ≤ 2 ^ (c + t + 1) := Nat.pow_le_pow_right (by decide) (by omega)
    have : 0 < 2 ^ (t - 1) := Nat.two_pow_pos _
    omega
  have hupE : W + 2 ^ c = 2 ^ (c + t + 1) * q + 2 ^ (c + t) := by omega
  have hX : W ^^^ (W + 2 ^ c) = 2 ^ c * (2 ^ (t + 1) - 1) := by
    have := xor_split q _ _ _ f1 hB
    rw [← hW, ← hupE] at this
    rw [this, f3]
  have hZ : (W + 2 ^ c) ||| (2 ^ (t - 1) - 1) = 2 ^ (c + t + 1) * q + lowB c t := by rw [hupE, or_split q _ _ _ hB hr1 (by rw [f5]; exact f2), f5]
  have hX24 : W ^^^ (W + 2 ^ c) < 2 ^ 24 := Nat.xor_lt_two_pow (by omega) (by omega)
  have hr24 : 2 ^ (t - 1) - 1 < 16777216 := by
    have : 2 ^ (t - 1) ≤ 2 ^ 22 := Nat.pow_le_pow_right (by decide) (by omega)
    omega
  have hZ24 : (W + 2 ^ c) ||| (2 ^ (t - 1) - 1) < 2 ^ 24 := Nat.or_lt_two_pow (by omega) (by omega)
  refine ⟨W ^^^ (W + 2 ^ c), 2 ^ (t - 1) - 1, (W + 2 ^ c) ||| (2 ^ (t - 1) - 1), ?_, by omega, by rw [hX]; exact f4, ?_, by omega, ?_⟩
  · rw [show ((W : Int) + ((2 ^ c : Nat) : Int)) = ((W + 2 ^ c : Nat) : Int) by omega, xor_i64 _ _ (by omega) (by omega) (by omega) (by omega)]
    unfold xorI
    rw [Int.toNat_natCast, Int.toNat_natCast]
  · rw [show ((W : Int) + ((2 ^ c : Nat) : Int)) = ((W + 2 ^ c : Nat) : Int) by omega, or_i64 _ _ (by omega) (by omega) (by omega) (by omega)]
    unfold orI
    rw [Int.toNat_natCast, Int.toNat_natCast]
  · have s1 := plN_split q (lowA c t) (c + t + 1) 24 f1 (by omega)
    have s2 := plN_split q (lowB c t) (c + t + 1) 24 f2 (by omega)
    rw [← hW] at s1
    rw [← hZ] at s2
    unfold pl
    rw [s1, s2]
    have := rk_app _ _ (upN q (c + t + 1) 24) f7
    omega
end Go.Proofs.YtilankmidkikjaaDoor
