/- Bits of sums, of what is common and of what is left; a slice of bytes that came in. -/
import Derived.Test.YtiinekoepoonfabDoorC3
import Derived.Test.YtiinekoepoonfabDoorM6
import Derived.Test.YtiinekoepoonfabDoorM10
namespace Go.Proofs.YtiinekoepoonfabDoor
open Go.RowKit
set_option linter.unusedVariables false

theorem bit_pow (p q : Int) (hp : 0 ≤ p) (hq : 0 ≤ q) : bitI (powI p) q = if q = p then 1 else 0 := by
  obtain ⟨m, rfl⟩ := Int.eq_ofNat_of_zero_le hp
  obtain ⟨n, rfl⟩ := Int.eq_ofNat_of_zero_le hq
  have e : powI (m : Int) = ((2 ^ m : Nat) : Int) := by unfold powI; simp
  rw [e, bitI_nat, Nat.testBit_two_pow]
  by_cases h : m = n
  · subst h; simp
  · have h1 : ¬ ((n : Int) = (m : Int)) := by omega
    simp [h, h1]
theorem bit_xor (a b q : Int) (ha : 0 ≤ a) (hb : 0 ≤ b) (hq : 0 ≤ q) : bitI (xorI a b) q = if bitI a q = bitI b q then 0 else 1 := by
  obtain ⟨A, rfl⟩ := Int.eq_ofNat_of_zero_le ha
  obtain ⟨B, rfl⟩ := Int.eq_ofNat_of_zero_le hb
  obtain ⟨n, rfl⟩ := Int.eq_ofNat_of_zero_le hq
  unfold xorI
  rw [bitI_nat, bitI_nat, bitI_nat, Int.toNat_natCast, Int.toNat_natCast, Nat.testBit_xor]
  cases A.testBit n <;> cases B.testBit n <;> simp
theorem bit_add (t p q : Int) (ht : 0 ≤ t) (hp : 0 ≤ p) (hq : 0 ≤ q) (h : bitI t p = 0) : bitI (t + powI p) q = if q = p then 1 else bitI t q := by
  rw [← xor_pow t p ht hp h, bit_xor t (powI p) q ht (Int.le_of_lt (powI_pos p)) hq, bit_pow p q hp hq]
  by_cases e : q = p
  · subst e; simp [h]
  · simp only [e, if_false]
    rcases bitI_01 t q with h | h <;> simp [h]

theorem IsRow.bytes {w : World} {a : Option Addr} {len cap : Nat} {zs : List Int} (h : IsRow .u8 w a len cap zs) :
    ∃ bs : List Int, bs.length = len ∧ Rds w w.heap.size .u8 a bs ∧ bs.length ≤ cap ∧ cap ≤ maxLen ∧ ∀ i, 0 ≤ bs.getD i 0 ∧ bs.getD i 0 ≤ 255 := by
  obtain ⟨h1, h2, h3⟩ := h.rds
  refine ⟨zs.take len, h2, h1, ?_, ?_, ?_⟩
  · rcases h with ⟨rfl, rfl, rfl, rfl⟩ | ⟨x, rfl, h1, _⟩
    · simp
    · simp; omega
  · rcases h with ⟨rfl, rfl, rfl, rfl⟩ | ⟨x, rfl, _, h2, _⟩
    · simp
    · exact h2
  · intro i
    by_cases hi : i < (zs.take len).length
    · have hm : (zs.take len).getD i 0 ∈ zs.take len := by
        rw [List.getD_eq_getElem?_getD, List.getElem?_eq_getElem hi]
        exact List.getElem_mem hi
      have := h3 _ hm
      exact bounds_u8 this
    · rw [List.getD_eq_getElem?_getD, List.getElem?_eq_none (by omega)]; simp

theorem andI_comm (a b : Int) : andI a b = andI b a := by unfold andI; rw [Nat.and_comm]
theorem toNat_xorI (a b : Int) : (xorI a b).toNat = a.toNat ^^^ b.toNat := by simp [xorI]
theorem toNat_andI (a b : Int) : (andI a b).toNat = a.toNat &&& b.toNat := by simp [andI]
theorem toNat_lessI (a b : Int) : (lessI a b).toNat = a.toNat ^^^ (a.toNat &&& b.toNat) := by simp [lessI]
theorem meet_less (a b : Int) (h : 0 ≤ a) : xorI (andI a b) (lessI a b) = a := by
  unfold xorI
  rw [toNat_andI, toNat_lessI]
  have : (a.toNat &&& b.toNat) ^^^ (a.toNat ^^^ (a.toNat &&& b.toNat)) = a.toNat := by
    apply Nat.eq_of_testBit_eq
    intro i
    simp only [Nat.testBit_xor, Nat.testBit_and]
    cases a.toNat.testBit i <;> cases b.toNat.testBit i <;> rfl
  rw [this]; omega
theorem less_meet (a b : Int) : andI (lessI a b) b = 0 := by
  unfold andI
  rw [toNat_lessI]
  have : (a.toNat ^^^ (a.toNat &&& b.toNat)) &&& b.toNat = 0 := by
    apply Nat.eq_of_testBit_eq
    intro i
    simp only [Nat.testBit_xor, Nat.testBit_and, Nat.zero_testBit]
    cases a.toNat.testBit i <;> cases b.toNat.testBit i <;> rfl
  rw [this]; rfl
theorem less_meet' (a b : Int) : andI (lessI a b) a = lessI a b := by
  unfold andI lessI
  rw [Int.toNat_natCast]
  have : (a.toNat ^^^ (a.toNat &&& b.toNat)) &&& a.toNat = a.toNat ^^^ (a.toNat &&& b.toNat) := by
    apply Nat.eq_of_testBit_eq
    intro i
    simp only [Nat.testBit_xor, Nat.testBit_and]
    cases a.toNat.testBit i <;> cases b.toNat.testBit i <;> rfl
  rw [this]
theorem bit_and (a b q : Int) (hq : 0 ≤ q) : bitI (andI a b) q = if bitI a.toNat q = 1 ∧ bitI b.toNat q = 1 then 1 else 0 := by
  obtain ⟨n, rfl⟩ := Int.eq_ofNat_of_zero_le hq
  unfold andI
  rw [bitI_nat, bitI_nat, bitI_nat, Nat.testBit_and]
  cases a.toNat.testBit n <;> cases b.toNat.testBit n <;> simp
theorem wtTo_xor (a b : Int) (ha : 0 ≤ a) (hb : 0 ≤ b) (n : Nat) : wtTo (xorI a b) n = wtTo a n + wtTo b n - 2 * wtTo (andI a b) n := by
  induction n with
  | zero => rfl
  | succ n ih =>
    simp only [wtTo]
    rw [ih, bit_xor a b n ha hb (by omega), bit_and a b n (by omega), Int.toNat_of_nonneg ha, Int.toNat_of_nonneg hb]
    rcases bitI_01 a n with h1 | h1 <;> rcases bitI_01 b n with h2 | h2 <;> simp [h1, h2] <;> omega

/-- Two words with the same places are the same. -/
theorem word_ext (a b : Int) (ha : IsW a) (hb : IsW b) (h : ∀ q : Nat, q < 24 → bitI a q = bitI b q) : a = b := by
  obtain ⟨a0, a1⟩ := ha
  obtain ⟨b0, b1⟩ := hb
  obtain ⟨A, rfl⟩ := Int.eq_ofNat_of_zero_le a0
  obtain ⟨B, rfl⟩ := Int.eq_ofNat_of_zero_le b0
  congr 1
  apply Nat.eq_of_testBit_eq
  intro i
  by_cases hi : i < 24
  · have := h i hi
    rw [bitI_nat, bitI_nat] at this
    cases hA : A.testBit i <;> cases hB : B.testBit i <;> simp [hA, hB] at this <;> rfl
  · have e : 2 ^ 24 ≤ 2 ^ i := Nat.pow_le_pow_right (by omega) (by omega)
    rw [Nat.testBit_lt_two_pow (by omega : A < 2 ^ i), Nat.testBit_lt_two_pow (by omega : B < 2 ^ i)]
/-- The weight is the number of places. -/
theorem wt_len (W : Nat) (n : Nat) : wtTo (W : Int) n = ((plN W n).length : Nat) := by
  induction n with
  | zero => rfl
  | succ n ih =>
    simp only [wtTo]
    rw [ih, plN_succ, bitI_nat, List.length_append]
    cases W.testBit n <;> simp
theorem wt_plI (n : Int) (h : 0 ≤ n) : ((plI n.toNat).length : Int) = wt n := by
  obtain ⟨R, rfl⟩ := Int.eq_ofNat_of_zero_le h
  unfold wt plI pl
  rw [wt_len]
  simp
theorem wt_other (n : Int) (h : IsW n) : wt (xorI n 16777215) = 24 - wt n := by
  have hm : ∀ q : Nat, q < 24 → bitI (16777215 : Int) q = 1 := by decide
  have key : ∀ k : Nat, k ≤ 24 → wtTo (xorI n 16777215) k = k - wtTo n k := by
    intro k
    induction k with
    | zero => intro _; rfl
    | succ k ih =>
      intro hk
      simp only [wtTo]
      rw [ih (by omega), bit_xor n 16777215 k h.1 (by omega) (by omega), hm k (by omega)]
      rcases bitI_01 n k with h1 | h1 <;> rw [h1] <;> simp <;> omega
  have := key 24 (by omega)
  unfold wt; omega
/-- The word of the first places of a word is the word below. -/
theorem wof_pl (W : Nat) (n : Nat) (hn : n ≤ 24) : ∃ T : Int, wof ((plN W n).map fun (i : Nat) => (i : Int)) = some T ∧ 0 ≤ T ∧ T < 2 ^ n ∧ ∀ q : Nat, bitI T q = if q < n then bitI (W : Int) q else 0 := by
  induction n with
  | zero => exact ⟨0, rfl, by omega, by decide, fun q => by simp [bitI]⟩
  | succ n ih =>
    obtain ⟨T, h1, h2, h3, h4⟩ := ih (by omega)
    rw [plN_succ, List.map_append]
    have hp : powI n = 2 ^ n := by unfold powI; simp
    have hlt : (2 : Int) ^ (n + 1) = 2 * 2 ^ n := by rw [Int.pow_succ]; omega
    have hw := bitI_nat W n
    cases hB : W.testBit n
    · rw [hB] at hw
      refine ⟨T, by simpa using h1, h2, by have : (0 : Int) < 2 ^ n := Int.pow_pos (by decide); omega, fun q => ?_⟩
      rw [h4 q]
      by_cases e : q = n
      · subst e; simp [hw]
      · by_cases hq : q < n
        · simp [hq, show q < n + 1 by omega]
        · simp [hq, show ¬ q < n + 1 by omega]
    · rw [hB] at hw
      have hb : bitI T n = 0 := by rw [h4 n]; simp
      refine ⟨T + powI n, ?_, by have := powI_pos n; omega, by omega, fun q => ?_⟩
      · unfold wof at *
        rw [List.foldl_append, h1]
        show addPl (some T) (n : Int) = _
        simp only [addPl]
        rw [if_pos ⟨by omega, by omega, hb⟩]
      · rw [bit_add T n q h2 (by omega) (by omega) hb, h4 q]
        by_cases e : q = n
        · subst e; simp [hw]
        · have e' : ¬ ((q : Int) = (n : Int)) := by omega
          by_cases hq : q < n
          · simp [hq, e', show q < n + 1 by omega]
          · simp [hq, e', show ¬ q < n + 1 by omega]
theorem wof_plI (n : Int) (h : IsW n) : wof (plI n.toNat) = some n := by
  obtain ⟨h0, h1⟩ := h
  obtain ⟨R, rfl⟩ := Int.eq_ofNat_of_zero_le h0
  obtain ⟨T, hT, t0, t1, tb⟩ := wof_pl R 24 (by omega)
  unfold plI pl
  rw [Int.toNat_natCast, hT]
  congr 1
  exact word_ext T R ⟨t0, by have : (2 : Int) ^ 24 = 16777216 := by decide
                             omega⟩ ⟨by omega, h1⟩ (fun q hq => by rw [tb q, if_pos hq])
/-- Places ascend. -/
theorem plN_asc (W n : Nat) : (plN W n).Pairwise (· < ·) := (List.pairwise_lt_range (n := n)).filter _
theorem plI_asc (W : Nat) (j : Nat) (h : j + 1 < (plI W).length) : (plI W).getD j 0 < (plI W).getD (j + 1) 0 := by
  have hp : (plI W).Pairwise (· < ·) := by
    unfold plI
    rw [List.pairwise_map]
    exact (plN_asc W 24).imp (fun hab => by omega)
  rw [List.getD_eq_getElem?_getD, List.getD_eq_getElem?_getD, List.getElem?_eq_getElem (by omega), List.getElem?_eq_getElem h]
  exact List.pairwise_iff_getElem.1 hp j (j + 1) (by omega) h (by omega)
end Go.Proofs.YtiinekoepoonfabDoor
