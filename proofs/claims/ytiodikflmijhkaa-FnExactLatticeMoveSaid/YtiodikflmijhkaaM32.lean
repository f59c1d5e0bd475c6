/- Cycles of permutations of 24 places, and their orders. No program is named here. -/
import Derived.Test.YtiodikflmijhkaaM31
namespace Go.Proofs.Ytiodikflmijhkaa
set_option linter.unusedVariables false

def itN (P : List Nat) : Nat → Nat → Nat
  | 0, i => i
  | n + 1, i => P.getD (itN P n i) 0
/-- The walk along a cycle: the places seen, where it is, and how long it is so far. -/
def cyW (P : List Nat) : Nat → Nat → Nat → Nat → Nat × Nat
  | 0, s, i, n => (s, n)
  | f + 1, s, i, n => if s.testBit i then (s, n) else cyW P f (s ^^^ 2 ^ i) (P.getD i 0) (n + 1)
def cyStep (P : List Nat) (x : List Nat × Nat) (k : Nat) : List Nat × Nat :=
  if 0 < (cyW P 25 x.2 k 0).2 then (x.1 ++ [(cyW P 25 x.2 k 0).2], (cyW P 25 x.2 k 0).1) else (x.1, (cyW P 25 x.2 k 0).1)
def cyTo (P : List Nat) : Nat → List Nat × Nat
  | 0 => ([], 0)
  | k + 1 => cyStep P (cyTo P k) k
def ordI (P : List Nat) (i : Nat) : Nat := (List.range 24).findIdx (fun n => itN P (n + 1) i == i) + 1

theorem itN_lt {P : List Nat} (h : PermN P) (n i : Nat) (hi : i < 24) : itN P n i < 24 := by
  induction n with
  | zero => exact hi
  | succ n ih => exact h.get _ ih
theorem itN_add (P : List Nat) (a b i : Nat) : itN P (a + b) i = itN P a (itN P b i) := by
  induction a with
  | zero => rw [Nat.zero_add]; rfl
  | succ a ih => rw [Nat.succ_add]; show P.getD (itN P (a + b) i) 0 = _; rw [ih]; rfl
theorem itN_inj {P : List Nat} (h : PermN P) (n i j : Nat) (hi : i < 24) (hj : j < 24) (e : itN P n i = itN P n j) : i = j := by
  induction n with
  | zero => exact e
  | succ n ih => exact ih (h.inj (itN_lt h n i hi) (itN_lt h n j hj) e)
theorem powN_get {P : List Nat} (h : PermN P) (n i : Nat) (hi : i < 24) : (powN P n).getD i 0 = itN P n i := by
  induction n with
  | zero => exact idN_get i hi
  | succ n ih =>
    show (thenN (powN P n) P).getD i 0 = _
    rw [thenN_get _ i (by rw [(powN_perm h n).1]; exact hi), ih]
    rfl
theorem it_back {P : List Nat} (h : PermN P) (i a b : Nat) (hi : i < 24) (hab : a ≤ b) (e : itN P a i = itN P b i) : itN P (b - a) i = i := by
  have : b = a + (b - a) := by omega
  rw [this, itN_add] at e
  exact (itN_inj h a _ _ hi (itN_lt h _ _ hi) e).symm
theorem it_some {P : List Nat} (h : PermN P) (i : Nat) (hi : i < 24) : ∃ n, 1 ≤ n ∧ n ≤ 24 ∧ itN P n i = i := by
  apply Classical.byContradiction
  intro hn
  have hnd : ((List.range 25).map fun n => itN P n i).Nodup := by
    refine List.nodup_iff_pairwise_ne.2 (List.pairwise_iff_getElem.2 fun a b ha hb hab e => ?_)
    have hb' : b < 25 := by simpa using hb
    simp only [List.getElem_map, List.getElem_range] at e
    exact hn ⟨b - a, by omega, by omega, it_back h i a b hi (by omega) e⟩
  have := List.Nodup.length_le_of_subset hnd (l₂ := List.range 24) (fun x hx => by
    obtain ⟨n, _, rfl⟩ := List.mem_map.1 hx
    exact List.mem_range.2 (itN_lt h n i hi))
  simp at this
theorem ord_spec {P : List Nat} (h : PermN P) (i : Nat) (hi : i < 24) : itN P (ordI P i) i = i ∧ 1 ≤ ordI P i ∧ ordI P i ≤ 24 ∧ ∀ n, 1 ≤ n → n < ordI P i → itN P n i ≠ i := by
  obtain ⟨n, h1, h2, h3⟩ := it_some h i hi
  have hlt : (List.range 24).findIdx (fun n => itN P (n + 1) i == i) < (List.range 24).length := by
    refine List.findIdx_lt_length_of_exists ⟨n - 1, List.mem_range.2 (by omega), ?_⟩
    rw [show n - 1 + 1 = n by omega, h3]; simp
  have hf := List.findIdx_getElem (w := hlt)
  simp only [List.getElem_range, beq_iff_eq] at hf
  refine ⟨hf, by unfold ordI; omega, ?_, fun m hm1 hm2 => ?_⟩
  · unfold ordI
    rw [List.length_range] at hlt
    exact hlt
  · unfold ordI at hm2
    have hm : m - 1 < (List.range 24).findIdx (fun n => itN P (n + 1) i == i) := by omega
    have := List.not_of_lt_findIdx hm
    simp only [List.getElem_range, beq_eq_false_iff_ne, ne_eq] at this
    rw [show m - 1 + 1 = m by omega] at this
    exact this
theorem it_mul {P : List Nat} (i m : Nat) (e : itN P m i = i) : ∀ k, itN P (m * k) i = i
  | 0 => rfl
  | k + 1 => by rw [Nat.mul_succ, Nat.add_comm, itN_add, it_mul i m e k, e]
theorem ord_dvd {P : List Nat} (h : PermN P) (i n : Nat) (hi : i < 24) : itN P n i = i ↔ ordI P i ∣ n := by
  obtain ⟨s1, s2, _, s4⟩ := ord_spec h i hi
  constructor
  · intro e
    have hd : itN P (n % ordI P i) i = i := by
      have := Nat.div_add_mod n (ordI P i)
      rw [← this, Nat.add_comm, itN_add, it_mul i _ s1] at e
      exact e
    have hm := Nat.mod_lt n (show ordI P i > 0 by omega)
    by_cases h0 : n % ordI P i = 0
    · exact Nat.dvd_of_mod_eq_zero h0
    · exact absurd hd (s4 _ (by omega) hm)
  · rintro ⟨k, rfl⟩
    exact it_mul i _ s1 k
theorem ord_it {P : List Nat} (h : PermN P) (i a : Nat) (hi : i < 24) : ordI P (itN P a i) = ordI P i := by
  have hia := itN_lt h a i hi
  have key : ∀ n, itN P n (itN P a i) = itN P a i ↔ itN P n i = i := fun n => by
    rw [← itN_add, Nat.add_comm, itN_add]
    exact ⟨fun e => itN_inj h a _ _ (itN_lt h n i hi) hi e, fun e => by rw [e]⟩
  apply Nat.dvd_antisymm
  · exact (ord_dvd h _ _ hia).1 ((key _).2 (ord_spec h i hi).1)
  · exact (ord_dvd h _ _ hi).1 ((key _).1 (ord_spec h _ hia).1)
/-- A set of places is whole: with a place it has the next one, and the one ahead. -/
def Whole (P : List Nat) (s : Nat) : Prop := ∀ j, j < 24 → s.testBit (P.getD j 0) = s.testBit j
theorem Whole.it {P : List Nat} {s : Nat} (hs : Whole P s) (h : PermN P) (a j : Nat) (hj : j < 24) : s.testBit (itN P a j) = s.testBit j := by
  induction a with
  | zero => rfl
  | succ a ih => exact (hs _ (itN_lt h a j hj)).trans ih
theorem cyW_go {P : List Nat} (h : PermN P) (s i : Nat) (hi : i < 24) (hs : Whole P s) (hn : s.testBit i = false) :
    ∀ (d m f sm : Nat), m + d = ordI P i → d < f → (∀ q, sm.testBit q = true ↔ s.testBit q = true ∨ ∃ a, a < m ∧ itN P a i = q) →
      ∃ s', cyW P f sm (itN P m i) m = (s', ordI P i) ∧ ∀ q, s'.testBit q = true ↔ s.testBit q = true ∨ ∃ a, a < ordI P i ∧ itN P a i = q
  | 0, m, f + 1, sm, hm, hf, hb => by
    have hm' : m = ordI P i := by omega
    obtain ⟨s1, s2, _, _⟩ := ord_spec h i hi
    have ht : sm.testBit (itN P m i) = true := (hb _).2 (.inr ⟨0, by omega, by rw [hm', s1]; rfl⟩)
    refine ⟨sm, by rw [cyW, if_pos ht, hm'], by rw [hm'] at hb; exact hb⟩
  | d + 1, m, f + 1, sm, hm, hf, hb => by
    have ho := (ord_spec h i hi).2.2.2
    have ht : ¬ sm.testBit (itN P m i) = true := by
      intro ht
      rcases (hb _).1 ht with h1 | ⟨a, ha, e⟩
      · rw [hs.it h m i hi, hn] at h1; cases h1
      · exact ho (m - a) (by omega) (by omega) (it_back h i a m hi (by omega) e)
    obtain ⟨s', e1, e2⟩ := cyW_go h s i hi hs hn d (m + 1) f (sm ^^^ 2 ^ itN P m i) (by omega) (by omega) (fun q => by
      rw [Nat.testBit_xor, Nat.testBit_two_pow]
      by_cases hq : itN P m i = q
      · subst hq
        simp only [Bool.not_eq_true] at ht
        rw [ht]
        simp only [decide_true, Bool.false_bne, true_iff]
        exact .inr ⟨m, by omega, rfl⟩
      · simp only [hq, decide_false, Bool.bne_false]
        rw [hb q]
        constructor
        · rintro (h1 | ⟨a, ha, e⟩)
          · exact .inl h1
          · exact .inr ⟨a, by omega, e⟩
        · rintro (h1 | ⟨a, ha, e⟩)
          · exact .inl h1
          · by_cases ham : a = m
            · subst ham; exact absurd e hq
            · exact .inr ⟨a, by omega, e⟩)
    exact ⟨s', by rw [cyW, if_neg ht]; exact e1, e2⟩
theorem cyW_seen {P : List Nat} (s i f : Nat) (hb : s.testBit i = true) : cyW P (f + 1) s i 0 = (s, 0) := by rw [cyW, if_pos hb]
theorem cyW_new {P : List Nat} (h : PermN P) (s i : Nat) (hi : i < 24) (hs : Whole P s) (hn : s.testBit i = false) :
    ∃ s', cyW P 25 s i 0 = (s', ordI P i) ∧ ∀ q, s'.testBit q = true ↔ s.testBit q = true ∨ ∃ a, a < ordI P i ∧ itN P a i = q :=
  cyW_go h s i hi hs hn (ordI P i) 0 25 s (by omega) (by have := (ord_spec h i hi).2.2.1; omega) (fun q => by simp)
theorem it_red {P : List Nat} (h : PermN P) (i a : Nat) (hi : i < 24) : ∃ b, b < ordI P i ∧ itN P b i = itN P a i := by
  obtain ⟨s1, s2, _, _⟩ := ord_spec h i hi
  refine ⟨a % ordI P i, Nat.mod_lt _ (by omega), ?_⟩
  have := Nat.div_add_mod a (ordI P i)
  conv => rhs; rw [← this, Nat.add_comm, itN_add, it_mul i _ s1]
/-- What the walk over all places below k has seen. -/
theorem cyTo_seen {P : List Nat} (h : PermN P) : ∀ k, k ≤ 24 → ∀ q, (cyTo P k).2.testBit q = true ↔ ∃ i a, i < k ∧ itN P a i = q
  | 0, _, q => by simp [cyTo]
  | k + 1, hk, q => by
    have ih := cyTo_seen h k (by omega)
    have hw : Whole P (cyTo P k).2 := by
      intro j hj
      rw [Bool.eq_iff_iff, ih, ih]
      constructor
      · rintro ⟨i, a, hi, e⟩
        have hj' := (ord_spec h j hj)
        refine ⟨i, a + (ordI P j - 1), hi, ?_⟩
        rw [Nat.add_comm, itN_add, e]
        show itN P (ordI P j - 1) (itN P 1 j) = j
        rw [← itN_add, show ordI P j - 1 + 1 = ordI P j by omega]
        exact hj'.1
      · rintro ⟨i, a, hi, e⟩
        exact ⟨i, a + 1, hi, by show P.getD (itN P a i) 0 = _; rw [e]⟩
    have h2 : (cyTo P (k + 1)).2 = (cyW P 25 (cyTo P k).2 k 0).1 := by
      show (cyStep P (cyTo P k) k).2 = _
      unfold cyStep
      split <;> rfl
    rw [h2]
    by_cases hb : (cyTo P k).2.testBit k = true
    · rw [cyW_seen _ _ 24 hb, ih]
      obtain ⟨i0, a0, hi0, e0⟩ := (ih k).1 hb
      constructor
      · rintro ⟨i, a, hi, e⟩; exact ⟨i, a, by omega, e⟩
      · rintro ⟨i, a, hi, e⟩
        by_cases hik : i = k
        · subst hik
          exact ⟨i0, a + a0, hi0, by rw [itN_add, e0, e]⟩
        · exact ⟨i, a, by omega, e⟩
    · rw [Bool.not_eq_true] at hb
      obtain ⟨s', e1, e2⟩ := cyW_new h _ k (by omega) hw hb
      rw [e1, e2, ih]
      constructor
      · rintro (⟨i, a, hi, e⟩ | ⟨a, ha, e⟩)
        · exact ⟨i, a, by omega, e⟩
        · exact ⟨k, a, by omega, e⟩
      · rintro ⟨i, a, hi, e⟩
        by_cases hik : i = k
        · subst hik
          obtain ⟨b, hb1, hb2⟩ := it_red h i a (by omega)
          exact .inr ⟨b, hb1, hb2.trans e⟩
        · exact .inl ⟨i, a, by omega, e⟩
theorem cyTo_whole {P : List Nat} (h : PermN P) (k : Nat) (hk : k ≤ 24) : Whole P (cyTo P k).2 := by
  intro j hj
  rw [Bool.eq_iff_iff, cyTo_seen h k hk, cyTo_seen h k hk]
  constructor
  · rintro ⟨i, a, hi, e⟩
    have hj' := (ord_spec h j hj)
    refine ⟨i, a + (ordI P j - 1), hi, ?_⟩
    rw [Nat.add_comm, itN_add, e]
    show itN P (ordI P j - 1) (itN P 1 j) = j
    rw [← itN_add, show ordI P j - 1 + 1 = ordI P j by omega]
    exact hj'.1
  · rintro ⟨i, a, hi, e⟩
    exact ⟨i, a + 1, hi, by show P.getD (itN P a i) 0 = _; rw [e]⟩
/-- The first place of its cycle. -/
def isLow (P : List Nat) (k : Nat) : Bool := !(cyTo P k).2.testBit k
theorem isLow_iff {P : List Nat} (h : PermN P) (k : Nat) (hk : k < 24) : isLow P k = true ↔ ∀ i a, i < k → itN P a i ≠ k := by
  unfold isLow
  rw [Bool.not_eq_true', ← Bool.not_eq_true, cyTo_seen h k (by omega)]
  constructor
  · intro hn i a hi e; exact hn ⟨i, a, hi, e⟩
  · rintro hn ⟨i, a, hi, e⟩; exact hn i a hi e
theorem cyTo_list {P : List Nat} (h : PermN P) : ∀ k, k ≤ 24 → (cyTo P k).1 = ((List.range k).filter (isLow P)).map (ordI P)
  | 0, _ => rfl
  | k + 1, hk => by
    have ih := cyTo_list h k (by omega)
    rw [List.range_succ, List.filter_append, List.map_append, ← ih]
    show (cyStep P (cyTo P k) k).1 = _
    unfold cyStep
    by_cases hb : (cyTo P k).2.testBit k = true
    · rw [cyW_seen _ _ 24 hb]
      simp [isLow, hb]
    · have hl : isLow P k = true := by simp [isLow, hb]
      rw [Bool.not_eq_true] at hb
      obtain ⟨s', e1, _⟩ := cyW_new h _ k (by omega) (cyTo_whole h k (by omega)) hb
      have := (ord_spec h k (by omega)).2.1
      rw [e1, if_pos (show 0 < (s', ordI P k).2 by show 0 < ordI P k; omega)]
      simp [hl]
def rawC (P : List Nat) : List Nat := (cyTo P 24).1
theorem rawC_is {P : List Nat} (h : PermN P) : rawC P = ((List.range 24).filter (isLow P)).map (ordI P) := cyTo_list h 24 (by omega)
theorem rawC_mem {P : List Nat} (h : PermN P) (n : Nat) : n ∈ rawC P ↔ ∃ i, i < 24 ∧ ordI P i = n := by
  rw [rawC_is h, List.mem_map]
  constructor
  · rintro ⟨i, hi, e⟩
    exact ⟨i, List.mem_range.1 (List.mem_filter.1 hi).1, e⟩
  · rintro ⟨i, hi, e⟩
    have key : ∀ n i, i ≤ n → i < 24 → ∃ j a, j < 24 ∧ isLow P j = true ∧ itN P a j = i := by
      intro n
      induction n with
      | zero =>
        intro i hi0 hi
        refine ⟨i, 0, hi, (isLow_iff h i hi).2 (fun i' a hi' => by omega), rfl⟩
      | succ n ih =>
        intro i hi0 hi
        by_cases hl : isLow P i = true
        · exact ⟨i, 0, hi, hl, rfl⟩
        · have : ∃ i' a, i' < i ∧ itN P a i' = i := by
            apply Classical.byContradiction
            intro hc
            exact hl ((isLow_iff h i hi).2 fun i' a hi' e => hc ⟨i', a, hi', e⟩)
          obtain ⟨i', a, hi', e⟩ := this
          obtain ⟨j, b, hj, hlj, ej⟩ := ih i' (by omega) (by omega)
          exact ⟨j, a + b, hj, hlj, by rw [itN_add, ej, e]⟩
    obtain ⟨j, a, hj, hl, ej⟩ := key i i (Nat.le_refl _) hi
    refine ⟨j, List.mem_filter.2 ⟨List.mem_range.2 hj, hl⟩, ?_⟩
    rw [← e, ← ej, ord_it h j a hj]
end Go.Proofs.Ytiodikflmijhkaa
