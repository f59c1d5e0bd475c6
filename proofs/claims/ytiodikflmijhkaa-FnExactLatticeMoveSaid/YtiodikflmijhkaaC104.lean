/- Permutations of the program: turned, and what stays. -/
import Derived.Test.YtiodikflmijhkaaC103
namespace Go.Proofs.Ytiodikflmijhkaa
open Go.RowKit
set_option linter.unusedVariables false
attribute [local irreducible] cN syn

/-- What the first k places have been moved from. -/
def tkN (P : List Nat) (k : Nat) : List Nat := idN.map fun j => if P.idxOf j < k then P.idxOf j else 0
theorem tkN_len (P : List Nat) (k : Nat) : (tkN P k).length = 24 := by simp [tkN, idN]
theorem tkN_get (P : List Nat) (k j : Nat) (h : j < 24) : (tkN P k).getD j 0 = if P.idxOf j < k then P.idxOf j else 0 := by simp [tkN, idN, h]
theorem tkN_zero (P : List Nat) : tkN P 0 = List.replicate 24 0 := by
  refine listN_ext (tkN_len P 0) (by simp) fun i hi => ?_
  rw [tkN_get P 0 i hi, if_neg (by omega)]
  show 0 = (List.replicate 24 0)[i]?.getD 0
  rw [List.getElem?_replicate]
  split <;> rfl
theorem tkN_all {P : List Nat} (h : PermN P) : tkN P 24 = turnN P := by
  refine listN_ext (tkN_len P 24) (turnN_len P) fun i hi => ?_
  rw [tkN_get P 24 i hi, turnN_get i hi, if_pos (idx_lt h i hi)]
theorem tkN_set {P : List Nat} (h : PermN P) (k : Nat) (hk : k < 24) : (tkN P k).set (P.getD k 0) k = tkN P (k + 1) := by
  refine listN_ext (by rw [List.length_set, tkN_len]) (tkN_len P _) fun i hi => ?_
  have hg : ((tkN P k).set (P.getD k 0) k).getD i 0 = if P.getD k 0 = i then k else (tkN P k).getD i 0 := by
    have h1 : i < (tkN P k).length := by rw [tkN_len]; exact hi
    by_cases he : P.getD k 0 = i
    · rw [if_pos he, he]
      simp [h1]
    · rw [if_neg he]
      show ((tkN P k).set (P.getD k 0) k)[i]?.getD 0 = (tkN P k)[i]?.getD 0
      rw [List.getElem?_set_ne he]
  rw [hg, tkN_get P _ i hi, tkN_get P _ i hi]
  by_cases he : P.getD k 0 = i
  · have e : P.idxOf i = k := by rw [← he, idx_get h k hk]
    rw [if_pos he, e, if_pos (by omega)]
  · have e : P.idxOf i ≠ k := fun e => he (by rw [← e, get_idx h i hi])
    rw [if_neg he]
    by_cases h2 : P.idxOf i < k
    · rw [if_pos h2, if_pos (by omega)]
    · rw [if_neg h2, if_neg (by omega)]
theorem intP_set (P : List Nat) (j k : Nat) : (intP P).set j (k : Int) = intP (P.set j k) := by simp [intP, List.map_set]
theorem fixTo_lt (P : List Nat) : ∀ k, fixTo P k < 2 ^ k
  | 0 => by simp [fixTo]
  | k + 1 => by
    have := fixTo_lt P k
    rw [fixTo, Nat.pow_succ]
    split <;> omega
theorem fixTo_rng (P : List Nat) (k : Nat) (hk : k ≤ 24) : (0 : Int) ≤ ((fixTo P k : Nat) : Int) ∧ ((fixTo P k : Nat) : Int) ≤ 16777215 := by
  have h1 := fixTo_lt P k
  have h2 : 2 ^ k ≤ 2 ^ 24 := Nat.pow_le_pow_right (by decide) hk
  rw [show (2 : Nat) ^ 24 = 16777216 by decide] at h2
  omega
theorem fixTo_bit (P : List Nat) (k : Nat) : bitI ((fixTo P k : Nat) : Int) (k : Int) = 0 := by
  rw [bitI_nat, Nat.testBit_lt_two_pow (fixTo_lt P k)]
  rfl
theorem fixTo_add (P : List Nat) (k : Nat) (h : P.getD k 0 = k) : xorI ((fixTo P k : Nat) : Int) (powI (k : Int)) = ((fixTo P (k + 1) : Nat) : Int) := by
  rw [xor_pow _ _ (by omega) (by omega) (fixTo_bit P k), fixTo, if_pos h]
  simp [powI]
end Go.Proofs.Ytiodikflmijhkaa
