/- Sums of cycles, orders as common multiples, powers. No program is named here. -/
import Derived.Test.YtepaaijlkimmeaaDoorM34
import Derived.Test.YtepaaijlkimmeaaDoorM14
namespace Go.Proofs.YtepaaijlkimmeaaDoor
set_option linter.unusedVariables false

theorem pop_two : ∀ q : Fin 24, pop (2 ^ q.val) = 1 := by decide
theorem pop_fresh (s q : Nat) (hq : q < 24) (hb : s.testBit q = false) : pop (s ^^^ 2 ^ q) = pop s + 1 := by
  have h := pop_xor s (2 ^ q)
  have h0 : s &&& 2 ^ q = 0 := by
    apply Nat.eq_of_testBit_eq
    intro i
    rw [Nat.testBit_and, Nat.testBit_two_pow, Nat.zero_testBit]
    by_cases e : q = i
    · subst e; rw [hb]; rfl
    · simp [e]
  have h1 : pop 0 = 0 := by decide
  have h2 := pop_two ⟨q, hq⟩
  rw [h0, h1] at h
  simp only at h2
  omega
theorem pop_wkS {P : List Nat} (h : PermN P) (s i : Nat) (hi : i < 24) (hs : Whole P s) (hn : s.testBit i = false) : ∀ m, m ≤ ordI P i → pop (wkS P s i m) = pop s + m
  | 0, _ => by simp [wkS]
  | m + 1, hm => by
    show pop (wkS P s i m ^^^ 2 ^ itN P m i) = _
    rw [pop_fresh _ _ (itN_lt h m i hi) (wkS_new h s i hi hs hn m (by omega)), pop_wkS h s i hi hs hn m (by omega)]
    omega
theorem cyTo_sum {P : List Nat} (h : PermN P) : ∀ k, k ≤ 24 → (cyTo P k).1.sum = pop (cyTo P k).2
  | 0, _ => by show ([] : List Nat).sum = pop 0; decide
  | k + 1, hk => by
    have ih := cyTo_sum h k (by omega)
    cases hb : (cyTo P k).2.testBit k
    · rw [cyTo_new_succ h k (by omega) hb]
      simp only [List.sum_append, List.sum_cons, List.sum_nil]
      rw [pop_wkS h _ k (by omega) (cyTo_whole h k (by omega)) hb _ (Nat.le_refl _), ih]
      omega
    · rw [cyTo_seen_succ P k hb]; exact ih
theorem cyTo_all {P : List Nat} (h : PermN P) : (cyTo P 24).2 = 16777215 := by
  have hlt := cyTo_lt h 24 (by omega)
  apply Nat.eq_of_testBit_eq
  intro q
  have hall : ∀ k, (16777215 : Nat).testBit k = decide (k < 24) := fun k => by
    rw [show (16777215 : Nat) = 2 ^ 24 - 1 by decide, Nat.testBit_two_pow_sub_one]
  rw [hall]
  by_cases hq : q < 24
  · have := (cyTo_seen h 24 (by omega) q).2 ⟨q, 0, hq, rfl⟩
    rw [this]; simp [hq]
  · have : (cyTo P 24).2.testBit q = false := Nat.testBit_lt_two_pow (Nat.lt_of_lt_of_le hlt (Nat.pow_le_pow_right (show 0 < 2 by decide) (show 24 ≤ q by omega)))
    rw [this]; simp [hq]
theorem rawC_sum {P : List Nat} (h : PermN P) : (rawC P).sum = 24 := by
  show (cyTo P 24).1.sum = 24
  rw [cyTo_sum h 24 (by omega), cyTo_all h]
  decide

/-! ### The common multiple -/
def lcmL (L : List Nat) : Nat := L.foldl Nat.lcm 1
theorem lcm_le_pow : ∀ (L : List Nat) (a s : Nat), 0 < a → a ≤ 2 ^ s → (∀ x ∈ L, 1 ≤ x) → L.foldl Nat.lcm a ≤ 2 ^ (s + L.sum) ∧ 0 < L.foldl Nat.lcm a
  | [], a, s, h0, h, _ => ⟨by simpa using h, h0⟩
  | y :: L, a, s, h0, h, hL => by
    have hy : 1 ≤ y := hL y List.mem_cons_self
    have h1 : Nat.lcm a y ≤ a * y := Nat.le_of_dvd (Nat.mul_pos h0 hy) (Nat.lcm_dvd_mul a y)
    have h2 : y ≤ 2 ^ y := Nat.le_of_lt Nat.lt_two_pow_self
    have h3 : a * y ≤ 2 ^ (s + y) := by
      rw [Nat.pow_add]
      exact Nat.mul_le_mul h h2
    have := lcm_le_pow L (Nat.lcm a y) (s + y) (Nat.lcm_pos h0 hy) (by omega) (fun x hx => hL x (List.mem_cons_of_mem _ hx))
    simp only [List.foldl_cons, List.sum_cons]
    rw [show s + (y + L.sum) = s + y + L.sum by omega]
    exact this
def ordP (P : List Nat) : Nat := lcmL (rawC P)
theorem ordP_rng {P : List Nat} (h : PermN P) : 1 ≤ ordP P ∧ ordP P ≤ 16777216 := by
  have := lcm_le_pow (rawC P) 1 0 (by decide) (by decide) (fun x hx => (rawC_rng h x hx).1)
  rw [rawC_sum h] at this
  exact ⟨this.2, Nat.le_trans this.1 (by decide)⟩
theorem lcmL_dvd {L : List Nat} {n : Nat} : lcmL L ∣ n ↔ ∀ x ∈ L, x ∣ n :=
  ⟨fun h x hx => Nat.dvd_trans ((dvd_lcm_mem L 1).1 x hx) h, fun h => lcm_dvd_all L 1 n (Nat.one_dvd n) h⟩
theorem lcmL_same {L M : List Nat} (h : ∀ x, x ∈ L ↔ x ∈ M) : lcmL L = lcmL M :=
  Nat.dvd_antisymm (lcmL_dvd.2 fun x hx => (dvd_lcm_mem M 1).1 x ((h x).1 hx)) (lcmL_dvd.2 fun x hx => (dvd_lcm_mem L 1).1 x ((h x).2 hx))
theorem ordP_dvd {P : List Nat} (h : PermN P) (n : Nat) : ordP P ∣ n ↔ ∀ i, i < 24 → itN P n i = i := by
  unfold ordP
  rw [lcmL_dvd]
  constructor
  · intro hx i hi
    exact (ord_dvd h i n hi).2 (hx _ ((rawC_mem h _).2 ⟨i, hi, rfl⟩))
  · intro hx x hm
    obtain ⟨i, hi, rfl⟩ := (rawC_mem h x).1 hm
    exact (ord_dvd h i n hi).1 (hx i hi)
/-! ### Powers -/
theorem powN_ext {P : List Nat} (h : PermN P) (a b : Nat) : powN P a = powN P b ↔ ∀ i, i < 24 → itN P a i = itN P b i := by
  constructor
  · intro e i hi
    rw [← powN_get h a i hi, ← powN_get h b i hi, e]
  · intro e
    refine listN_ext (powN_perm h a).1 (powN_perm h b).1 fun i hi => ?_
    rw [powN_get h a i hi, powN_get h b i hi, e i hi]
theorem powN_one {P : List Nat} (h : PermN P) : powN P 1 = P := by
  refine listN_ext (powN_perm h 1).1 h.1 fun i hi => ?_
  rw [powN_get h 1 i hi]
  rfl
theorem pow_new {P : List Nat} (h : PermN P) (a b : Nat) (hab : a < b) (hb : b - a < ordP P) : powN P b ≠ powN P a := by
  intro e
  have h1 := (powN_ext h b a).1 e
  have h2 : ordP P ∣ b - a := (ordP_dvd h _).2 fun i hi => it_back h i a b hi (by omega) (h1 i hi).symm
  have := Nat.le_of_dvd (by omega) h2
  omega
theorem pow_back {P : List Nat} (h : PermN P) : powN P (ordP P + 1) = powN P 1 := by
  refine (powN_ext h _ _).2 fun i hi => ?_
  rw [Nat.add_comm, itN_add]
  rw [(ordP_dvd h (ordP P)).1 (Nat.dvd_refl _) i hi]
end Go.Proofs.YtepaaijlkimmeaaDoor
