/- What stays: its word is moved to itself, and the octad through five of its places stays. -/
import Derived.Test.YtakefnfhjiodnaaDoorC104
import Derived.Test.YtakefnfhjiodnaaDoorM33
namespace Go.Proofs.YtakefnfhjiodnaaDoor
set_option linter.unusedVariables false
attribute [local irreducible] cN syn

theorem fixTo_tb {P : List Nat} : ∀ k q, (fixTo P k).testBit q = (decide (q < k) && decide (P.getD q 0 = q))
  | 0, q => by simp [fixTo]
  | k + 1, q => by
    have ih := fixTo_tb (P := P) k q
    have hlt := fixTo_lt P k
    by_cases hf : P.getD k 0 = k
    · have e : fixTo P (k + 1) = 2 ^ k + fixTo P k := by rw [fixTo, if_pos hf]; omega
      rw [e]
      by_cases hq : q = k
      · subst hq
        rw [Nat.testBit_two_pow_add_eq, Nat.testBit_lt_two_pow hlt, hf]
        simp
      · by_cases hq2 : q < k
        · rw [Nat.testBit_two_pow_add_gt hq2, ih]
          simp [hq2, show q < k + 1 by omega]
        · have hk : 2 ^ k + fixTo P k < 2 ^ q := by
            have : 2 ^ (k + 1) ≤ 2 ^ q := Nat.pow_le_pow_right (by decide) (by omega)
            rw [Nat.pow_succ] at this
            omega
          rw [Nat.testBit_lt_two_pow hk]
          simp [show ¬ q < k + 1 by omega]
    · have e : fixTo P (k + 1) = fixTo P k := by rw [fixTo, if_neg hf]; omega
      rw [e, ih]
      by_cases hq : q = k
      · subst hq
        have hd : decide (P.getD q 0 = q) = false := decide_eq_false hf
        rw [hd, Bool.and_false, Bool.and_false]
      · simp [show (q < k + 1) = (q < k) from by apply propext; omega]
theorem fix_Fixes (P : List Nat) : Fixes P (fixTo P 24) := fun q hq hb => by
  rw [fixTo_tb] at hb
  simpa [hq] using hb
end Go.Proofs.YtakefnfhjiodnaaDoor
