/- The message of a word, and whether it is of the code: the program's functions; the exported ones. -/
import Derived.Test.YtmeejnkpaiinaabQ6
import Derived.Test.YtmeejnkpaiinaabC25
namespace Go.Proofs.Ytmeejnkpaiinaab
open Go.RowKit
set_option linter.unusedVariables false

theorem wrap_u16_in (n : Int) (h0 : 0 ≤ n) (h1 : n < 65536) : IntKind.u16.wrap n = n := by rw [IntKind.wrap_u16]; omega
theorem or_u16 (a b : Int) (h0 : 0 ≤ a) (h1 : a < 32768) (h2 : 0 ≤ b) (h3 : b < 32768) : bits .or .u16 a b = orI a b := by
  obtain ⟨A, rfl⟩ := Int.eq_ofNat_of_zero_le h0
  obtain ⟨B, rfl⟩ := Int.eq_ofNat_of_zero_le h2
  have hx : A ||| B < 2 ^ 15 := Nat.or_lt_two_pow (by omega) (by omega)
  show IntKind.u16.wrap ((BitVec.ofInt IntKind.u16.bits (A : Int) ||| BitVec.ofInt IntKind.u16.bits (B : Int)).toNat : Int) = _
  have hk : IntKind.u16.bits = 16 := rfl
  have hA : A % 2 ^ IntKind.u16.bits = A := Nat.mod_eq_of_lt (by rw [hk]; omega)
  have hB : B % 2 ^ IntKind.u16.bits = B := Nat.mod_eq_of_lt (by rw [hk]; omega)
  rw [BitVec.toNat_or, BitVec.ofInt_natCast, BitVec.ofInt_natCast, BitVec.toNat_ofNat, BitVec.toNat_ofNat, hA, hB]
  unfold orI
  rw [Int.toNat_natCast, Int.toNat_natCast]
  exact wrap_u16_in _ (by omega) (by omega)
theorem msgHead_le (w : Int) (i : Nat) (hi : i ≤ 3) : 0 ≤ msgHead w i ∧ msgHead w i ≤ 127 := by
  have h0 := scoreI_d w 0
  have h1 := scoreI_d w 1
  have h2 := scoreI_d w 2
  unfold IsD at h0 h1 h2
  have hor : ∀ a b : Int, 0 ≤ a → a ≤ 127 → 0 ≤ b → b ≤ 127 → 0 ≤ orI a b ∧ orI a b ≤ 127 := by
    intro a b ha ha' hb hb'
    refine ⟨orI_nonneg _ _, ?_⟩
    unfold orI
    have := Nat.or_lt_two_pow (n := 7) (x := a.toNat) (y := b.toNat) (by omega) (by omega)
    omega
  have e0 : 0 ≤ msgHead w 0 ∧ msgHead w 0 ≤ 127 := by simp only [msgHead]; omega
  have e1 : 0 ≤ msgHead w 1 ∧ msgHead w 1 ≤ 127 := hor _ _ e0.1 e0.2 (by simp; omega) (by simp; omega)
  have e2 : 0 ≤ msgHead w 2 ∧ msgHead w 2 ≤ 127 := hor _ _ e1.1 e1.2 (by simp; omega) (by simp; omega)
  have e3 : 0 ≤ msgHead w 3 ∧ msgHead w 3 ≤ 127 := hor _ _ e2.1 e2.2 (by simp; omega) (by simp; omega)
  match i, hi with
  | 0, _ => exact e0
  | 1, _ => exact e1
  | 2, _ => exact e2
  | 3, _ => exact e3
end Go.Proofs.Ytmeejnkpaiinaab
