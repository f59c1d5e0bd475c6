/- The hexacode and the code as plain functions on numbers. No program is named here. -/
import Derived.Test.YtiinekoepoonfabDoorM1
namespace Go.Proofs.YtiinekoepoonfabDoor
set_option linter.unusedVariables false

def mulD (a b : Int) : Int := if a = 0 ∨ b = 0 then 0 else 1 + (a + b - 2) % 3
def hexF (a b c x : Int) : Int := xorI (xorI (mulD a (mulD x x)) (mulD b x)) c
def hexRow (a b c : Int) : List Int := [a, b, c, hexF a b c 1, hexF a b c 2, hexF a b c 3]
def fillT : List Int := [0, 12, 10, 6, 15, 3, 5, 9, 14, 2, 4, 8, 1, 13, 11, 7]
def fillC (s p f : Int) : Int := fillT.getD (8 * p + 4 * f + s).toNat 0
/-- The places and the top parity of a message behind its columns 1 to j. -/
def ofTo (row : List Int) (m : Int) : Nat → Int × Int
  | 0 => (0, 0)
  | j + 1 => ((ofTo row m j).1 + fillC (row.getD (j + 1) 0) (m / 64 % 2) (bitI m (6 + ((j : Int) + 1))) * 2 ^ (4 * (j + 1)), xorI (ofTo row m j).2 (bitI m (6 + ((j : Int) + 1))))
def codeOf (m : Int) : Int :=
  (ofTo (hexRow (m % 4) (m / 4 % 4) (m / 16 % 4)) m 5).1 + fillC (m % 4) (m / 64 % 2) (xorI (ofTo (hexRow (m % 4) (m / 4 % 4) (m / 16 % 4)) m 5).2 (m / 64 % 2))

theorem mulD_range (a b : Int) (ha : 0 ≤ a) (ha' : a ≤ 3) (hb : 0 ≤ b) (hb' : b ≤ 3) : 0 ≤ mulD a b ∧ mulD a b ≤ 3 := by unfold mulD; split <;> omega
theorem xorI_lt4 (a b : Int) (ha' : a ≤ 3) (hb' : b ≤ 3) : xorI a b ≤ 3 := by
  have : a.toNat ^^^ b.toNat < 2 ^ 2 := Nat.xor_lt_two_pow (by omega) (by omega)
  unfold xorI; omega
theorem xorI_lt2 (a b : Int) (ha' : a ≤ 1) (hb' : b ≤ 1) : xorI a b ≤ 1 := by
  have : a.toNat ^^^ b.toNat < 2 ^ 1 := Nat.xor_lt_two_pow (by omega) (by omega)
  unfold xorI; omega
theorem hexF_range (a b c x : Int) (hc : c ≤ 3) (ha : 0 ≤ a) (ha' : a ≤ 3) (hb : 0 ≤ b) (hb' : b ≤ 3) (hx : 0 ≤ x) (hx' : x ≤ 3) : 0 ≤ hexF a b c x ∧ hexF a b c x ≤ 3 := by
  have h1 := mulD_range x x hx hx' hx hx'
  have h2 := mulD_range a (mulD x x) ha ha' h1.1 h1.2
  have h3 := mulD_range b x hb hb' hx hx'
  exact ⟨xorI_nonneg _ _, xorI_lt4 _ _ (xorI_lt4 _ _ h2.2 h3.2) hc⟩
theorem hexRow_range (a b c : Int) (ha : 0 ≤ a) (ha' : a ≤ 3) (hb : 0 ≤ b) (hb' : b ≤ 3) (hc : 0 ≤ c) (hc' : c ≤ 3) : ∀ i, 0 ≤ (hexRow a b c).getD i 0 ∧ (hexRow a b c).getD i 0 ≤ 3 := by
  have h1 := hexF_range a b c 1 hc' ha ha' hb hb' (by omega) (by omega)
  have h2 := hexF_range a b c 2 hc' ha ha' hb hb' (by omega) (by omega)
  have h3 := hexF_range a b c 3 hc' ha ha' hb hb' (by omega) (by omega)
  intro i
  match i with
  | 0 => exact ⟨ha, ha'⟩
  | 1 => exact ⟨hb, hb'⟩
  | 2 => exact ⟨hc, hc'⟩
  | 3 => exact h1
  | 4 => exact h2
  | 5 => exact h3
  | n + 6 => simp [hexRow]
theorem fillC_all : ∀ s : Fin 4, ∀ p : Fin 2, ∀ f : Fin 2, 0 ≤ fillC (s.val : Int) (p.val : Int) (f.val : Int) ∧ fillC (s.val : Int) (p.val : Int) (f.val : Int) ≤ 15 := by decide
theorem fillC_range (s p f : Int) (h1 : 0 ≤ s) (h2 : s ≤ 3) (h3 : 0 ≤ p) (h4 : p ≤ 1) (h5 : 0 ≤ f) (h6 : f ≤ 1) : 0 ≤ fillC s p f ∧ fillC s p f ≤ 15 := by
  obtain ⟨S, rfl⟩ := Int.eq_ofNat_of_zero_le h1
  obtain ⟨P, rfl⟩ := Int.eq_ofNat_of_zero_le h3
  obtain ⟨F, rfl⟩ := Int.eq_ofNat_of_zero_le h5
  exact fillC_all ⟨S, by omega⟩ ⟨P, by omega⟩ ⟨F, by omega⟩
theorem ofTo_range (row : List Int) (m : Int) (hrow : ∀ i, 0 ≤ row.getD i 0 ∧ row.getD i 0 ≤ 3) (j : Nat) (hj : j ≤ 5) :
    0 ≤ (ofTo row m j).1 ∧ (ofTo row m j).1 ≤ 16 ^ (j + 1) - 16 ∧ 0 ≤ (ofTo row m j).2 ∧ (ofTo row m j).2 ≤ 1 := by
  induction j with
  | zero => simp [ofTo]
  | succ j ih =>
    obtain ⟨h1, h2, h3, h4⟩ := ih (by omega)
    have hb := bitI_01 m (6 + ((j : Int) + 1))
    have hf := fillC_range (row.getD (j + 1) 0) (m / 64 % 2) (bitI m (6 + ((j : Int) + 1))) (hrow _).1 (hrow _).2 (by omega) (by omega) (by omega) (by omega)
    simp only [ofTo]
    generalize fillC (row.getD (j + 1) 0) (m / 64 % 2) (bitI m (6 + ((j : Int) + 1))) = f at *
    refine ⟨?_, ?_, xorI_nonneg _ _, xorI_lt2 _ _ h4 (by omega)⟩
    · have : (0 : Int) ≤ 2 ^ (4 * (j + 1)) := Int.le_of_lt (Int.pow_pos (by decide))
      have := Int.mul_nonneg hf.1 this
      omega
    · have hj' : j = 0 ∨ j = 1 ∨ j = 2 ∨ j = 3 ∨ j = 4 := by omega
      rcases hj' with rfl | rfl | rfl | rfl | rfl <;> simp at * <;> omega
theorem ofTo_le (row : List Int) (m : Int) (hrow : ∀ i, 0 ≤ row.getD i 0 ∧ row.getD i 0 ≤ 3) (j : Nat) (hj : j ≤ 5) : (ofTo row m j).1 ≤ 16777200 := by
  have h := (ofTo_range row m hrow j hj).2.1
  have hj' : j = 0 ∨ j = 1 ∨ j = 2 ∨ j = 3 ∨ j = 4 ∨ j = 5 := by omega
  rcases hj' with rfl | rfl | rfl | rfl | rfl | rfl <;> simp at h <;> omega
theorem fill_shift (f : Int) (j : Nat) (hj : j < 5) (h0 : 0 ≤ f) (h1 : f ≤ 15) : 0 ≤ f * 2 ^ (4 * (j + 1)) ∧ f * 2 ^ (4 * (j + 1)) ≤ 15728640 := by
  have hj' : j = 0 ∨ j = 1 ∨ j = 2 ∨ j = 3 ∨ j = 4 := by omega
  rcases hj' with rfl | rfl | rfl | rfl | rfl <;> simp <;> omega
theorem codeOf_range (m : Int) : 0 ≤ codeOf m ∧ codeOf m ≤ 16777215 := by
  have hr := hexRow_range (m % 4) (m / 4 % 4) (m / 16 % 4) (by omega) (by omega) (by omega) (by omega) (by omega) (by omega)
  obtain ⟨h1, h2, h3, h4⟩ := ofTo_range _ m hr 5 (by omega)
  have hf := fillC_range (m % 4) (m / 64 % 2) (xorI (ofTo (hexRow (m % 4) (m / 4 % 4) (m / 16 % 4)) m 5).2 (m / 64 % 2)) (by omega) (by omega) (by omega) (by omega) (xorI_nonneg _ _) (xorI_lt2 _ _ h4 (by omega))
  unfold codeOf
  simp at h2
  omega
theorem hexRow_step (a b c : Int) (k : Nat) (h : k < 3) : (hexRow a b c).take (3 + k) ++ [hexF a b c ((k : Int) + 1)] = (hexRow a b c).take (3 + (k + 1)) := by
  match k, h with
  | 0, _ => rfl
  | 1, _ => rfl
  | 2, _ => rfl
end Go.Proofs.YtiinekoepoonfabDoor
