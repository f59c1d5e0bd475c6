/- The lines through a point: five, which cover what is off the base. -/
import Derived.Test.YtmeejnkpaiinaacGreatDoorM29
namespace Go.Proofs.YtmeejnkpaiinaacGreatDoor
open Go.RowKit
set_option linter.unusedVariables false
attribute [local irreducible] octS cN octF syn

/-- What the first k numbers of a list have together. -/
def allTo (L : List Int) : Nat → Int
  | 0 => 0
  | k + 1 => orI (allTo L k) (L.getD k 0)
theorem allTo_W (L : List Int) (h : ∀ j, j < L.length → 0 ≤ L.getD j 0 ∧ L.getD j 0 ≤ 16777215) : ∀ k, k ≤ L.length → 0 ≤ allTo L k ∧ allTo L k ≤ 16777215
  | 0, _ => ⟨Int.le_refl _, by show (0 : Int) ≤ _; decide⟩
  | k + 1, hk => ⟨orI_nonneg _ _, orI_le _ _ (allTo_W L h k (by omega)).2 (h k (by omega)).2⟩
theorem allTo_bit (L : List Int) (q : Nat) : ∀ k, k ≤ L.length → ((allTo L k).toNat.testBit q = true ↔ ∃ j, j < k ∧ (L.getD j 0).toNat.testBit q = true)
  | 0, _ => by simp [allTo]
  | k + 1, hk => by
    unfold allTo orI
    rw [Int.toNat_natCast, Nat.testBit_or, Bool.or_eq_true, allTo_bit L q k (by omega)]
    constructor
    · rintro (⟨j, h1, h2⟩ | h)
      · exact ⟨j, by omega, h2⟩
      · exact ⟨k, by omega, h⟩
    · rintro ⟨j, h1, h2⟩
      rcases (by omega : j < k ∨ j = k) with h | h
      · exact .inl ⟨j, h, h2⟩
      · rw [h] at h2; exact .inr h2
theorem on_facts {B p : Nat} (hB : IsBase B) (hp : p < 24) (bp : B.testBit p = false) (zs : List Int) (hz : zs = (lns (B : Int)).filter (hasB ((2 ^ p : Nat) : Int))) :
    zs.length = 5 ∧ (∀ j, j < 5 → ∃ l : Nat, zs.getD j 0 = (l : Int) ∧ IsLine B l ∧ l.testBit p = true) ∧ (∀ i j, i < j → j < 5 → zs.getD i 0 < zs.getD j 0) ∧ allTo zs 5 = ((B ^^^ 16777215 : Nat) : Int) := by
  have hl : zs.length = 5 := by rw [hz]; exact pt_count hB hp bp
  have hmem : ∀ x, x ∈ zs ↔ ∃ l : Nat, x = (l : Int) ∧ IsLine B l ∧ l.testBit p = true := fun x => by
    rw [hz, List.mem_filter, lns_mem hB]
    constructor
    · rintro ⟨⟨l, h1, rfl⟩, h2⟩
      rw [has_one] at h2
      exact ⟨l, rfl, h1, h2⟩
    · rintro ⟨l, rfl, h1, h2⟩
      exact ⟨⟨l, h1, rfl⟩, by rw [has_one]; exact h2⟩
  have hat : ∀ j, j < 5 → ∃ l : Nat, zs.getD j 0 = (l : Int) ∧ IsLine B l ∧ l.testBit p = true := fun j hj => by
    have : zs.getD j 0 ∈ zs := by rw [← getD_at _ j (by omega)]; exact List.getElem_mem _
    obtain ⟨l, h1, h2, h3⟩ := (hmem _).1 this
    exact ⟨l, h1, h2, h3⟩
  have hasc : Asc zs := by rw [hz]; exact List.Pairwise.filter _ (lns_asc hB)
  refine ⟨hl, hat, fun i j hij hj => asc_get hasc hij (by omega), ?_⟩
  have hW := allTo_W zs (fun j hj => by
    obtain ⟨l, h1, h2, _⟩ := hat j (by omega)
    have := (h2.facts hB).1
    rw [h1]; omega) 5 (by omega)
  obtain ⟨A, hA⟩ := Int.eq_ofNat_of_zero_le hW.1
  have hA24 : A < 16777216 := by omega
  have hbit := fun q => allTo_bit zs q 5 (by omega)
  rw [hA]
  rw [hA] at hbit
  simp only [Int.toNat_natCast] at hbit
  have hBl := hB.1
  congr 1
  refine Nat.eq_of_testBit_eq fun q => ?_
  rw [Nat.testBit_xor, show (16777215 : Nat) = 2 ^ 24 - 1 from rfl, Nat.testBit_two_pow_sub_one]
  by_cases hq : q < 24
  · rw [decide_eq_true hq, Bool.xor_true, Bool.eq_iff_iff, hbit q]
    constructor
    · rintro ⟨j, hj, h2⟩
      obtain ⟨l, h3, h4, h5⟩ := hat j hj
      rw [h3, Int.toNat_natCast] at h2
      have h0 := (h4.facts hB).2.2.1
      have := congrArg (fun z => z.testBit q) h0
      simp only [Nat.testBit_and, h2, Nat.zero_testBit, Bool.true_and] at this
      rw [this]; rfl
    · intro hb
      have bq : B.testBit q = false := by simpa using hb
      have hline : ∃ l, IsLine B l ∧ l.testBit p = true ∧ l.testBit q = true := by
        by_cases e : p = q
        · obtain ⟨l, h3, h4, h5⟩ := hat 0 (by omega)
          exact ⟨l, h4, h5, by rw [← e]; exact h5⟩
        · exact line_ex hB hp hq e bp bq
      obtain ⟨l, h1, h2, h3⟩ := hline
      obtain ⟨j, hj, he⟩ := List.getElem_of_mem ((hmem (l : Int)).2 ⟨l, rfl, h1, h2⟩)
      refine ⟨j, by omega, ?_⟩
      rw [← getD_at _ j hj, he, Int.toNat_natCast]
      exact h3
  · rw [decide_eq_false hq, Bool.xor_false]
    rw [Nat.testBit_lt_two_pow (Nat.lt_of_lt_of_le hA24 (Nat.pow_le_pow_right (n := 2) (by omega) (by omega : 24 ≤ q))), Nat.testBit_lt_two_pow (Nat.lt_of_lt_of_le hBl (Nat.pow_le_pow_right (n := 2) (by omega) (by omega : 24 ≤ q)))]
end Go.Proofs.YtmeejnkpaiinaacGreatDoor
