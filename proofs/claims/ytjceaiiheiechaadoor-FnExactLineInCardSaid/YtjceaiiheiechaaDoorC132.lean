/- Moves of the line by the program: what is refused; the exported functions on plain numbers. -/
import Derived.Test.YtjceaiiheiechaaDoorC131
namespace Go.Proofs.YtjceaiiheiechaaDoor
open Go.RowKit
set_option linter.unusedVariables false

def isR (n : Int) : Bool := decide (0 ≤ n ∧ n ≤ 22)
def rOf (n : Int) : R23 := Fin.ofNat 23 n.toNat
theorem rOf_val (r : R23) : rOf (r.val : Int) = r := by
  apply Fin.ext
  show (r.val : Int).toNat % 23 = r.val
  have := r.isLt
  omega
theorem isR_val (r : R23) : isR (r.val : Int) = true := by
  have := r_rng r
  simpa [isR] using this
theorem isR_no {n : Int} (h : n < 0 ∨ 22 < n) : isR n = false := by simp only [isR, decide_eq_false_iff_not]; omega
theorem r_or (n : Int) : (∃ r : R23, n = (r.val : Int)) ∨ (n < 0 ∨ 22 < n) := by
  by_cases h : 0 ≤ n ∧ n ≤ 22
  · exact .inl ⟨⟨n.toNat, by omega⟩, by show n = (n.toNat : Int); omega⟩
  · exact .inr (by omega)
/-- The answers of chapter 8 on plain numbers. -/
def sqI (n : Int) : Bool := isR n && sqF (rOf n)
def tnI (n : Int) : Int × Bool := if isR n && rOf n != 0 then ((tn (rOf n)).val, true) else (0, false)
def gvI (a b c d : Int) : Bool := isR a && isR b && isR c && isR d && sqF (rOf a * rOf d - rOf b * rOf c)
def mvI (a b c d x : Int) : Int × Bool := if gvI a b c d && decide (0 ≤ x ∧ x ≤ 23) then ((lpNo (lmF (rOf a) (rOf b) (rOf c) (rOf d) (lpOf x.toNat)) : Nat), true) else (0, false)
theorem gvI_val (a b c d : R23) : gvI a.val b.val c.val d.val = sqF (a * d - b * c) := by simp [gvI, isR_val, rOf_val]
theorem gvI_cases (a b c d : Int) : (∃ a' b' c' d' : R23, a = a'.val ∧ b = b'.val ∧ c = c'.val ∧ d = d'.val) ∨ (gvI a b c d = false ∧ ((a < 0 ∨ 22 < a) ∨ (∃ a' : R23, a = a'.val) ∧ (b < 0 ∨ 22 < b) ∨ (∃ a' b' : R23, a = a'.val ∧ b = b'.val) ∧ (c < 0 ∨ 22 < c) ∨ (∃ a' b' c' : R23, a = a'.val ∧ b = b'.val ∧ c = c'.val) ∧ (d < 0 ∨ 22 < d))) := by
  rcases r_or a with ⟨a', ha⟩ | ha
  · rcases r_or b with ⟨b', hb⟩ | hb
    · rcases r_or c with ⟨c', hc⟩ | hc
      · rcases r_or d with ⟨d', hd⟩ | hd
        · exact .inl ⟨a', b', c', d', ha, hb, hc, hd⟩
        · exact .inr ⟨by simp [gvI, isR_no hd], .inr (.inr (.inr ⟨⟨a', b', c', ha, hb, hc⟩, hd⟩))⟩
      · exact .inr ⟨by simp [gvI, isR_no hc], .inr (.inr (.inl ⟨⟨a', b', ha, hb⟩, hc⟩))⟩
    · exact .inr ⟨by simp [gvI, isR_no hb], .inr (.inl ⟨⟨a', ha⟩, hb⟩)⟩
  · exact .inr ⟨by simp [gvI, isR_no ha], .inl ha⟩
end Go.Proofs.YtjceaiiheiechaaDoor
