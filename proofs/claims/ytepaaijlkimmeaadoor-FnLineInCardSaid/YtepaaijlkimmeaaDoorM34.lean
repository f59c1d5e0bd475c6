/- The walk along a cycle, step by step; cycles of what is turned; sums of cycles. No program is named here. -/
import Derived.Test.YtepaaijlkimmeaaDoorM32
namespace Go.Proofs.YtepaaijlkimmeaaDoor
set_option linter.unusedVariables false

/-- What has been seen after m steps from i. -/
def wkS (P : List Nat) (s i : Nat) : Nat → Nat
  | 0 => s
  | m + 1 => wkS P s i m ^^^ 2 ^ itN P m i
theorem wkS_bits {P : List Nat} (h : PermN P) (s i : Nat) (hi : i < 24) (hs : Whole P s) (hn : s.testBit i = false) :
    ∀ m, m ≤ ordI P i → ∀ q, (wkS P s i m).testBit q = true ↔ s.testBit q = true ∨ ∃ a, a < m ∧ itN P a i = q
  | 0, _, q => by simp [wkS]
  | m + 1, hm, q => by
    have ih := wkS_bits h s i hi hs hn m (by omega)
    have ho := (ord_spec h i hi).2.2.2
    have ht : (wkS P s i m).testBit (itN P m i) = false := by
      rw [← Bool.not_eq_true]
      intro ht
      rcases (ih _).1 ht with h1 | ⟨a, ha, e⟩
      · rw [hs.it h m i hi, hn] at h1; cases h1
      · exact ho (m - a) (by omega) (by omega) (it_back h i a m hi (by omega) e)
    show (wkS P s i m ^^^ 2 ^ itN P m i).testBit q = true ↔ _
    rw [Nat.testBit_xor, Nat.testBit_two_pow]
    by_cases hq : itN P m i = q
    · subst hq
      rw [ht]
      simp only [decide_true, Bool.false_bne, true_iff]
      exact .inr ⟨m, by omega, rfl⟩
    · simp only [hq, decide_false, Bool.bne_false]
      rw [ih q]
      constructor
      · rintro (h1 | ⟨a, ha, e⟩)
        · exact .inl h1
        · exact .inr ⟨a, by omega, e⟩
      · rintro (h1 | ⟨a, ha, e⟩)
        · exact .inl h1
        · by_cases ham : a = m
          · subst ham; exact absurd e hq
          · exact .inr ⟨a, by omega, e⟩
theorem wkS_new {P : List Nat} (h : PermN P) (s i : Nat) (hi : i < 24) (hs : Whole P s) (hn : s.testBit i = false) (m : Nat) (hm : m < ordI P i) : (wkS P s i m).testBit (itN P m i) = false := by
  rw [← Bool.not_eq_true, wkS_bits h s i hi hs hn m (by omega)]
  rintro (h1 | ⟨a, ha, e⟩)
  · rw [hs.it h m i hi, hn] at h1; cases h1
  · exact (ord_spec h i hi).2.2.2 (m - a) (by omega) (by omega) (it_back h i a m hi (by omega) e)
theorem wkS_old {P : List Nat} (h : PermN P) (s i : Nat) (hi : i < 24) (hs : Whole P s) (hn : s.testBit i = false) : (wkS P s i (ordI P i)).testBit (itN P (ordI P i) i) = true := by
  obtain ⟨s1, s2, _, _⟩ := ord_spec h i hi
  rw [wkS_bits h s i hi hs hn _ (Nat.le_refl _)]
  exact .inr ⟨0, by omega, by rw [s1]; rfl⟩
theorem cyW_wkS {P : List Nat} (h : PermN P) (s i : Nat) (hi : i < 24) (hs : Whole P s) (hn : s.testBit i = false) :
    ∀ d m f, m + d = ordI P i → d < f → cyW P f (wkS P s i m) (itN P m i) m = (wkS P s i (ordI P i), ordI P i)
  | 0, m, f + 1, hm, hf => by
    obtain rfl : m = ordI P i := by omega
    rw [cyW, if_pos (wkS_old h s i hi hs hn)]
  | d + 1, m, f + 1, hm, hf => by
    rw [cyW, if_neg (by rw [wkS_new h s i hi hs hn m (by omega)]; decide)]
    exact cyW_wkS h s i hi hs hn d (m + 1) f (by omega) (by omega)
theorem wkS_lt {P : List Nat} (h : PermN P) (s i : Nat) (hi : i < 24) (hs : s < 16777216) : ∀ m, wkS P s i m < 16777216
  | 0 => hs
  | m + 1 => Nat.xor_lt_two_pow (n := 24) (wkS_lt h s i hi hs m) (Nat.pow_lt_pow_right (by decide) (itN_lt h m i hi))
/-- One place more: seen, or not. -/
theorem cyTo_seen_succ (P : List Nat) (k : Nat) (hb : (cyTo P k).2.testBit k = true) : cyTo P (k + 1) = cyTo P k := by
  show cyStep P (cyTo P k) k = _
  unfold cyStep
  rw [cyW_seen _ _ 24 hb]
  rfl
theorem cyTo_new_succ {P : List Nat} (h : PermN P) (k : Nat) (hk : k < 24) (hb : (cyTo P k).2.testBit k = false) : cyTo P (k + 1) = ((cyTo P k).1 ++ [ordI P k], wkS P (cyTo P k).2 k (ordI P k)) := by
  have e := cyW_wkS h (cyTo P k).2 k hk (cyTo_whole h k (by omega)) hb (ordI P k) 0 25 (by omega) (by have := (ord_spec h k hk).2.2.1; omega)
  have e' : cyW P 25 (cyTo P k).2 k 0 = (wkS P (cyTo P k).2 k (ordI P k), ordI P k) := e
  have := (ord_spec h k hk).2.1
  show cyStep P (cyTo P k) k = _
  unfold cyStep
  rw [e', if_pos (show 0 < (wkS P (cyTo P k).2 k (ordI P k), ordI P k).2 by show 0 < ordI P k; omega)]
theorem cyTo_lt {P : List Nat} (h : PermN P) : ∀ k, k ≤ 24 → (cyTo P k).2 < 16777216
  | 0, _ => by show (0 : Nat) < 16777216; decide
  | k + 1, hk => by
    have ih := cyTo_lt h k (by omega)
    cases hb : (cyTo P k).2.testBit k
    · rw [cyTo_new_succ h k (by omega) hb]
      exact wkS_lt h _ k (by omega) ih _
    · rw [cyTo_seen_succ P k hb]; exact ih
theorem cyTo_len {P : List Nat} (h : PermN P) : ∀ k, k ≤ 24 → (cyTo P k).1.length ≤ k
  | 0, _ => Nat.le_refl _
  | k + 1, hk => by
    have ih := cyTo_len h k (by omega)
    cases hb : (cyTo P k).2.testBit k
    · rw [cyTo_new_succ h k (by omega) hb]
      simp; omega
    · rw [cyTo_seen_succ P k hb]; omega
theorem rawC_pos {P : List Nat} (h : PermN P) : 0 < (rawC P).length := by
  have : ordI P 0 ∈ rawC P := (rawC_mem h _).2 ⟨0, by omega, rfl⟩
  exact List.length_pos_of_mem this
theorem rawC_len {P : List Nat} (h : PermN P) : (rawC P).length ≤ 24 := cyTo_len h 24 (by omega)
theorem rawC_rng {P : List Nat} (h : PermN P) : ∀ n ∈ rawC P, 1 ≤ n ∧ n ≤ 24 := fun n hn => by
  obtain ⟨i, hi, e⟩ := (rawC_mem h n).1 hn
  have := ord_spec h i hi
  omega
/-! ### What is turned -/
theorem it_turn {P : List Nat} (h : PermN P) (a i : Nat) (hi : i < 24) : itN (turnN P) a (itN P a i) = i := by
  induction a with
  | zero => rfl
  | succ a ih =>
    have e : itN (turnN P) (a + 1) (itN P (a + 1) i) = itN (turnN P) a (itN (turnN P) 1 (itN P (a + 1) i)) := itN_add _ a 1 _
    rw [e]
    have e2 : itN (turnN P) 1 (itN P (a + 1) i) = itN P a i := by
      show (turnN P).getD (P.getD (itN P a i) 0) 0 = _
      rw [turnN_get _ (h.get _ (itN_lt h a i hi)), idx_get h _ (itN_lt h a i hi)]
    rw [e2, ih]
theorem it_turn' {P : List Nat} (h : PermN P) (a i : Nat) (hi : i < 24) : itN P a (itN (turnN P) a i) = i := by
  have := it_turn (turnN_perm h) a i hi
  rwa [turn_turn h] at this
theorem ord_turn {P : List Nat} (h : PermN P) (i : Nat) (hi : i < 24) : ordI (turnN P) i = ordI P i := by
  have ht := turnN_perm h
  apply Nat.dvd_antisymm
  · refine (ord_dvd ht i _ hi).1 ?_
    have e := it_turn h (ordI P i) i hi
    rwa [(ord_spec h i hi).1] at e
  · refine (ord_dvd h i _ hi).1 ?_
    have e := it_turn' h (ordI (turnN P) i) i hi
    rwa [(ord_spec ht i hi).1] at e
theorem low_turn {P : List Nat} (h : PermN P) (k : Nat) (hk : k < 24) : isLow (turnN P) k = isLow P k := by
  have ht := turnN_perm h
  rw [Bool.eq_iff_iff, isLow_iff ht k hk, isLow_iff h k hk]
  constructor
  · intro hx i a hi e
    -- going on along the cycle comes back: k is reached from i by the turned one too
    obtain ⟨b, hb⟩ : ∃ b, itN (turnN P) b i = k := by
      refine ⟨a * (ordI P i - 1), ?_⟩
      have ho := ord_spec h i (by omega)
      have e3 : itN P (a + a * (ordI P i - 1)) i = i := by
        rw [show a + a * (ordI P i - 1) = ordI P i * a by
          rw [show a + a * (ordI P i - 1) = a * (1 + (ordI P i - 1)) by rw [Nat.mul_add, Nat.mul_one], show 1 + (ordI P i - 1) = ordI P i by omega, Nat.mul_comm]]
        exact it_mul i _ ho.1 a
      rw [Nat.add_comm, itN_add, e] at e3
      have e4 := it_turn h (a * (ordI P i - 1)) k hk
      rw [e3] at e4
      exact e4
    exact hx i b hi hb
  · intro hx i a hi e
    obtain ⟨b, hb⟩ : ∃ b, itN P b i = k := by
      refine ⟨a * (ordI P i - 1), ?_⟩
      have ho := ord_spec h i (by omega)
      have e3 : itN P (a * (ordI P i - 1) + a) k = k := by
        rw [show a * (ordI P i - 1) + a = ordI P k * a by
          rw [show ordI P k = ordI P i by
            have := ord_it ht i a (by omega)
            rw [e, ord_turn h k hk, ord_turn h i (by omega)] at this
            exact this]
          rw [show a * (ordI P i - 1) + a = a * ((ordI P i - 1) + 1) by rw [Nat.mul_add, Nat.mul_one], show (ordI P i - 1) + 1 = ordI P i by omega, Nat.mul_comm]]
        exact it_mul k _ (ord_spec h k hk).1 a
      rw [itN_add] at e3
      have e4 : itN P a k = i := by rw [← e]; exact it_turn' h a i (by omega)
      rw [e4] at e3
      exact e3
    exact hx i b hi hb
theorem rawC_turn {P : List Nat} (h : PermN P) : rawC (turnN P) = rawC P := by
  rw [rawC_is h, rawC_is (turnN_perm h)]
  have e : (List.range 24).filter (isLow (turnN P)) = (List.range 24).filter (isLow P) := List.filter_congr fun k hk => low_turn h k (List.mem_range.1 hk)
  rw [e]
  refine List.map_congr_left fun k hk => ord_turn h k ?_
  exact List.mem_range.1 (List.mem_filter.1 hk).1
/-! ### Orders -/
theorem dvd_lcm_mem : ∀ (L : List Nat) (a : Nat), (∀ x ∈ L, x ∣ L.foldl Nat.lcm a) ∧ a ∣ L.foldl Nat.lcm a
  | [], a => ⟨fun x hx => by simp at hx, Nat.dvd_refl _⟩
  | y :: L, a => by
    obtain ⟨h1, h2⟩ := dvd_lcm_mem L (Nat.lcm a y)
    refine ⟨fun x hx => ?_, Nat.dvd_trans (Nat.dvd_lcm_left a y) h2⟩
    rcases List.mem_cons.1 hx with rfl | hx
    · exact Nat.dvd_trans (Nat.dvd_lcm_right a x) h2
    · exact h1 x hx
theorem lcm_dvd_all : ∀ (L : List Nat) (a n : Nat), a ∣ n → (∀ x ∈ L, x ∣ n) → L.foldl Nat.lcm a ∣ n
  | [], a, n, h, _ => h
  | y :: L, a, n, h, hL => lcm_dvd_all L (Nat.lcm a y) n (Nat.lcm_dvd h (hL y List.mem_cons_self)) (fun x hx => hL x (List.mem_cons_of_mem _ hx))
end Go.Proofs.YtepaaijlkimmeaaDoor
