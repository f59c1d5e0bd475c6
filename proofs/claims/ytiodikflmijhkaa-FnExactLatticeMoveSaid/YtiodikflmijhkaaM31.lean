/- Permutations of 24 places as lists of numbers: moved words, one after the other, turned, keeping the code. No program is named here. -/
import Derived.Test.YtiodikflmijhkaaM13
namespace Go.Proofs.Ytiodikflmijhkaa
set_option linter.unusedVariables false

def PermN (P : List Nat) : Prop := P.length = 24 ∧ P.Nodup ∧ ∀ x ∈ P, x < 24
def pws (P : List Nat) : List Nat := P.map (2 ^ ·)
def movN (P : List Nat) (v : Nat) : Nat := lin (pws P) v
def thenN (P Q : List Nat) : List Nat := P.map fun x => Q.getD x 0
def idN : List Nat := List.range 24
def turnN (P : List Nat) : List Nat := idN.map fun j => P.idxOf j

theorem lin_pow : ∀ (A : List Nat) (i : Nat), lin A (2 ^ i) = A.getD i 0
  | [], i => by simp [lin]
  | a :: A, 0 => by simp [lin, lin_zero]
  | a :: A, i + 1 => by
    have h1 : 2 ^ (i + 1) % 2 = 0 := by rw [Nat.pow_succ]; omega
    have h2 : 2 ^ (i + 1) / 2 = 2 ^ i := by rw [Nat.pow_succ]; omega
    simp only [lin]
    rw [h1, h2, lin_pow A i]
    simp
theorem idN_perm : PermN idN := ⟨by simp [idN], List.nodup_range, fun x hx => by simpa [idN] using hx⟩
theorem PermN.get {P : List Nat} (h : PermN P) (i : Nat) (hi : i < 24) : P.getD i 0 < 24 := by
  have : i < P.length := by rw [h.1]; exact hi
  rw [show P.getD i 0 = P[i] by simp [this]]
  exact h.2.2 _ (List.getElem_mem this)
theorem PermN.inj {P : List Nat} (h : PermN P) {i j : Nat} (hi : i < 24) (hj : j < 24) (e : P.getD i 0 = P.getD j 0) : i = j := by
  have h1 : i < P.length := by rw [h.1]; exact hi
  have h2 : j < P.length := by rw [h.1]; exact hj
  rw [show P.getD i 0 = P[i] by simp [h1], show P.getD j 0 = P[j] by simp [h2]] at e
  exact (List.getElem_inj h.2.1).1 e
theorem PermN.all {P : List Nat} (h : PermN P) (q : Nat) (hq : q < 24) : q ∈ P := by
  apply Classical.byContradiction
  intro hn
  have h1 : (q :: P).Nodup := List.nodup_cons.2 ⟨hn, h.2.1⟩
  have h2 := List.Nodup.length_le_of_subset h1 (l₂ := List.range 24) (fun x hx => by
    rcases List.mem_cons.1 hx with rfl | hx
    · exact List.mem_range.2 hq
    · exact List.mem_range.2 (h.2.2 x hx))
  simp [h.1] at h2
theorem PermN.perm {P : List Nat} (h : PermN P) : P.Perm idN :=
  (List.perm_ext_iff_of_nodup h.2.1 List.nodup_range).2 fun x => ⟨fun hx => List.mem_range.2 (h.2.2 x hx), fun hx => h.all x (List.mem_range.1 hx)⟩
theorem PermN.hit {P : List Nat} (h : PermN P) (q : Nat) (hq : q < 24) : ∃ i, i < 24 ∧ P.getD i 0 = q := by
  obtain ⟨i, hi, e⟩ := List.mem_iff_getElem.1 (h.all q hq)
  exact ⟨i, by rw [h.1] at hi; exact hi, by simp [hi, e]⟩
theorem permN_of {P : List Nat} (hl : P.length = 24) (hr : ∀ i, i < 24 → P.getD i 0 < 24) (hi : ∀ i j, i < 24 → j < 24 → P.getD i 0 = P.getD j 0 → i = j) : PermN P := by
  refine ⟨hl, List.nodup_iff_pairwise_ne.2 (List.pairwise_iff_getElem.2 fun i j hi' hj hij => ?_), fun x hx => ?_⟩
  · intro e
    have := hi i j (by omega) (by omega) (by rw [show P.getD i 0 = P[i] by simp [hi'], show P.getD j 0 = P[j] by simp [hj]]; exact e)
    omega
  · obtain ⟨i, hi', e⟩ := List.mem_iff_getElem.1 hx
    have := hr i (by omega)
    rw [show P.getD i 0 = P[i] by simp [hi'], e] at this
    exact this
theorem pws_len (P : List Nat) : (pws P).length = P.length := by simp [pws]
theorem pws_get {P : List Nat} (i : Nat) (h : i < P.length) : (pws P).getD i 0 = 2 ^ P.getD i 0 := by simp [pws, h]
theorem movN_pow {P : List Nat} (i : Nat) (h : i < P.length) : movN P (2 ^ i) = 2 ^ P.getD i 0 := by
  unfold movN
  rw [lin_pow, pws_get i h]
theorem movN_xor (P : List Nat) (a b : Nat) : movN P (a ^^^ b) = movN P a ^^^ movN P b := lin_xor _ a b
theorem movN_zero (P : List Nat) : movN P 0 = 0 := lin_zero _
theorem movN_lt {P : List Nat} (h : PermN P) (v : Nat) : movN P v < 16777216 := by
  refine lin_lt 24 (pws P) (fun a ha => ?_) v
  simp only [pws, List.mem_map] at ha
  obtain ⟨x, hx, rfl⟩ := ha
  exact Nat.pow_lt_pow_right (by decide) (h.2.2 x hx)
theorem movN_movN {P : List Nat} (h : PermN P) (Q : List Nat) (hQ : Q.length = 24) (v : Nat) : movN Q (movN P v) = movN (thenN P Q) v := by
  unfold movN
  rw [lin_lin]
  congr 1
  simp only [pws, thenN, List.map_map]
  refine List.map_congr_left fun x hx => ?_
  have := movN_pow (P := Q) x (by rw [hQ]; exact h.2.2 x hx)
  exact this
theorem movN_id (v : Nat) (h : v < 16777216) : movN idN v = v := by
  have e : pws idN = units 0 24 := by decide
  unfold movN
  rw [e, lin_units]
  omega
/-- The bit at the place of i is the bit at i. -/
theorem testBit_lin : ∀ (P : List Nat) (v q : Nat), P.Nodup → ((lin (pws P) v).testBit q = true ↔ ∃ i, i < P.length ∧ P.getD i 0 = q ∧ v.testBit i = true)
  | [], v, q, _ => by simp [pws, lin]
  | a :: P, v, q, hn => by
    have hn' := List.nodup_cons.1 hn
    have ih := testBit_lin P (v / 2) q hn'.2
    have hv : v.testBit 0 = decide (v % 2 = 1) := by simp [Nat.testBit_zero]
    have h0 : (v % 2 * 2 ^ a).testBit q = true ↔ (a = q ∧ v.testBit 0 = true) := by
      have : v % 2 = 0 ∨ v % 2 = 1 := by omega
      rcases this with e | e
      · rw [e, hv]; simp [e]
      · rw [e, hv, Nat.one_mul, Nat.testBit_two_pow]; simp [e]
    have hs : (lin (pws (a :: P)) v) = (v % 2 * 2 ^ a) ^^^ lin (pws P) (v / 2) := rfl
    rw [hs, Nat.testBit_xor]
    have hshift : ∀ i, (v / 2).testBit i = v.testBit (i + 1) := fun i => (Nat.testBit_succ v i).symm
    constructor
    · intro h
      by_cases hx : (v % 2 * 2 ^ a).testBit q = true
      · exact ⟨0, by simp, by simpa using (h0.1 hx).1, (h0.1 hx).2⟩
      · rw [Bool.not_eq_true] at hx
        rw [hx] at h
        obtain ⟨i, hi, e, hb⟩ := ih.1 (by simpa using h)
        exact ⟨i + 1, by simpa using hi, by simpa using e, by rw [← hshift]; exact hb⟩
    · rintro ⟨i, hi, e, hb⟩
      match i, hi, e, hb with
      | 0, _, e, hb =>
        have e' : a = q := by simpa using e
        have h1 := h0.2 ⟨e', hb⟩
        have h2 : (lin (pws P) (v / 2)).testBit q = false := by
          rw [← Bool.not_eq_true]
          intro h3
          obtain ⟨j, hj, ej, _⟩ := ih.1 h3
          refine hn'.1 ?_
          rw [e', ← ej, show P.getD j 0 = P[j] by simp [hj]]
          exact List.getElem_mem hj
        rw [h1, h2]; rfl
      | i + 1, hi, e, hb =>
        have hi' : i < P.length := by simpa using hi
        have h2 := ih.2 ⟨i, hi', by simpa using e, by rw [hshift]; exact hb⟩
        have h1 : (v % 2 * 2 ^ a).testBit q = false := by
          rw [← Bool.not_eq_true]
          intro h3
          have ea := (h0.1 h3).1
          refine hn'.1 ?_
          have e2 : P.getD i 0 = q := by simpa using e
          rw [ea, ← e2, show P.getD i 0 = P[i] by simp [hi']]
          exact List.getElem_mem hi'
        rw [h1, h2]; rfl
theorem movN_bit {P : List Nat} (h : PermN P) (v : Nat) (i : Nat) (hi : i < 24) : (movN P v).testBit (P.getD i 0) = v.testBit i := by
  have hb := testBit_lin P v (P.getD i 0) h.2.1
  rw [Bool.eq_iff_iff]
  constructor
  · intro h1
    obtain ⟨j, hj, e, hv⟩ := hb.1 h1
    rw [h.inj (by rw [h.1] at hj; exact hj) hi e] at hv
    exact hv
  · intro h1
    exact hb.2 ⟨i, by rw [h.1]; exact hi, rfl, h1⟩
theorem movN_all {P : List Nat} (h : PermN P) : movN P 16777215 = 16777215 := by
  apply Nat.eq_of_testBit_eq
  intro q
  have hall : ∀ k, (16777215 : Nat).testBit k = decide (k < 24) := fun k => by
    rw [show (16777215 : Nat) = 2 ^ 24 - 1 by decide, Nat.testBit_two_pow_sub_one]
  by_cases hq : q < 24
  · obtain ⟨i, hi, e⟩ := h.hit q hq
    rw [← e, movN_bit h _ i hi, hall, hall]
    simp only [hi, h.get i hi]
  · rw [hall q]
    have : (movN P 16777215).testBit q = false := Nat.testBit_lt_two_pow (Nat.lt_of_lt_of_le (movN_lt h _) (Nat.pow_le_pow_right (show 0 < 2 by decide) (show 24 ≤ q by omega)))
    simp [this, hq]

/-! ### One after the other, and turned -/
theorem thenN_len (P Q : List Nat) : (thenN P Q).length = P.length := by simp [thenN]
theorem thenN_get {P : List Nat} (Q : List Nat) (i : Nat) (h : i < P.length) : (thenN P Q).getD i 0 = Q.getD (P.getD i 0) 0 := by simp [thenN, h]
theorem thenN_perm {P Q : List Nat} (hP : PermN P) (hQ : PermN Q) : PermN (thenN P Q) := by
  refine permN_of (by rw [thenN_len]; exact hP.1) (fun i hi => ?_) (fun i j hi hj e => ?_)
  · rw [thenN_get Q i (by rw [hP.1]; exact hi)]
    exact hQ.get _ (hP.get i hi)
  · rw [thenN_get Q i (by rw [hP.1]; exact hi), thenN_get Q j (by rw [hP.1]; exact hj)] at e
    exact hP.inj hi hj (hQ.inj (hP.get i hi) (hP.get j hj) e)
theorem turnN_len (P : List Nat) : (turnN P).length = 24 := by simp [turnN, idN]
theorem turnN_get {P : List Nat} (j : Nat) (h : j < 24) : (turnN P).getD j 0 = P.idxOf j := by simp [turnN, idN, h]
theorem idx_lt {P : List Nat} (h : PermN P) (j : Nat) (hj : j < 24) : P.idxOf j < 24 := by
  have := List.idxOf_lt_length_of_mem (h.all j hj)
  rw [h.1] at this
  exact this
theorem get_idx {P : List Nat} (h : PermN P) (j : Nat) (hj : j < 24) : P.getD (P.idxOf j) 0 = j := by
  have hl := List.idxOf_lt_length_of_mem (h.all j hj)
  rw [show P.getD (P.idxOf j) 0 = P[P.idxOf j] by simp [hl]]
  exact List.getElem_idxOf hl
theorem idx_get {P : List Nat} (h : PermN P) (i : Nat) (hi : i < 24) : P.idxOf (P.getD i 0) = i :=
  h.inj (idx_lt h _ (h.get i hi)) hi (get_idx h _ (h.get i hi))
theorem turnN_perm {P : List Nat} (h : PermN P) : PermN (turnN P) := by
  refine permN_of (turnN_len P) (fun i hi => ?_) (fun i j hi hj e => ?_)
  · rw [turnN_get i hi]; exact idx_lt h i hi
  · rw [turnN_get i hi, turnN_get j hj] at e
    rw [← get_idx h i hi, ← get_idx h j hj, e]
theorem listN_ext {P Q : List Nat} (hP : P.length = 24) (hQ : Q.length = 24) (h : ∀ i, i < 24 → P.getD i 0 = Q.getD i 0) : P = Q := by
  refine List.ext_getElem (hP.trans hQ.symm) fun i h1 h2 => ?_
  have := h i (by omega)
  rwa [show P.getD i 0 = P[i] by simp [h1], show Q.getD i 0 = Q[i] by simp [h2]] at this
theorem idN_get (i : Nat) (h : i < 24) : idN.getD i 0 = i := by simp [idN, h]
theorem then_turn {P : List Nat} (h : PermN P) : thenN P (turnN P) = idN := by
  refine listN_ext (by rw [thenN_len]; exact h.1) (by simp [idN]) fun i hi => ?_
  rw [thenN_get _ i (by rw [h.1]; exact hi), turnN_get _ (h.get i hi), idx_get h i hi, idN_get i hi]
theorem turn_then {P : List Nat} (h : PermN P) : thenN (turnN P) P = idN := by
  refine listN_ext (by rw [thenN_len]; exact turnN_len P) (by simp [idN]) fun i hi => ?_
  rw [thenN_get _ i (by rw [turnN_len]; exact hi), turnN_get i hi, get_idx h i hi, idN_get i hi]
theorem turn_turn {P : List Nat} (h : PermN P) : turnN (turnN P) = P := by
  refine listN_ext (turnN_len _) h.1 fun i hi => ?_
  have ht := turnN_perm h
  rw [turnN_get i hi]
  refine ht.inj (idx_lt ht i hi) (h.get i hi) ?_
  rw [get_idx ht i hi, turnN_get _ (h.get i hi), idx_get h i hi]
theorem mov_turn {P : List Nat} (h : PermN P) (v : Nat) (hv : v < 16777216) : movN (turnN P) (movN P v) = v := by
  rw [movN_movN h _ (turnN_len P), then_turn h, movN_id v hv]
theorem turn_mov {P : List Nat} (h : PermN P) (v : Nat) (hv : v < 16777216) : movN P (movN (turnN P) v) = v := by
  rw [movN_movN (turnN_perm h) _ h.1, turn_then h, movN_id v hv]

/-! ### Weights -/
theorem popN_cnt : ∀ (k v : Nat), popN k v = (List.range k).countP fun i => v.testBit i
  | 0, v => rfl
  | k + 1, v => by
    rw [List.range_succ_eq_map, List.countP_cons, List.countP_map]
    have e : ((fun i => v.testBit i) ∘ Nat.succ) = fun i => (v / 2).testBit i := by
      funext i
      exact Nat.testBit_succ v i
    rw [e, ← popN_cnt k (v / 2)]
    show v % 2 + popN k (v / 2) = _
    have : v.testBit 0 = decide (v % 2 = 1) := by simp [Nat.testBit_zero]
    rw [this]
    have h2 : v % 2 = 0 ∨ v % 2 = 1 := by omega
    rcases h2 with h2 | h2 <;> simp [h2, Nat.add_comm]
theorem pop_mov {P : List Nat} (h : PermN P) (v : Nat) : pop (movN P v) = pop v := by
  unfold pop
  rw [popN_cnt, popN_cnt]
  have h1 : (List.range 24).countP (fun i => (movN P v).testBit i) = P.countP fun i => (movN P v).testBit i := (h.perm.countP_eq _).symm
  have h2 : P = (List.range 24).map fun i => P.getD i 0 := by
    refine listN_ext h.1 (by simp) fun i hi => ?_
    simp [hi]
  rw [h1]
  conv => lhs; rw [h2]
  rw [List.countP_map]
  refine List.countP_congr fun i hi => ?_
  have := movN_bit h v i (List.mem_range.1 hi)
  simp only [Function.comp]
  rw [← h2, this]

/-! ### What keeps the code -/
def KeepsN (P : List Nat) : Prop := ∀ k, k < 12 → syn (movN P (cN (2 ^ k))) = 0
theorem lin_all_zero : ∀ (A : List Nat), (∀ a ∈ A, a = 0) → ∀ v, lin A v = 0
  | [], _, v => rfl
  | a :: A, h, v => by
    simp only [lin]
    rw [h a List.mem_cons_self, lin_all_zero A (fun x hx => h x (List.mem_cons_of_mem _ hx))]
    simp
theorem KeepsN.all {P : List Nat} (h : KeepsN P) (m : Nat) : syn (movN P (cN m)) = 0 := by
  unfold syn movN cN
  rw [lin_lin, lin_lin]
  refine lin_all_zero _ (fun a ha => ?_) m
  obtain ⟨i, hi, e⟩ := List.mem_iff_getElem.1 ha
  have hi' : i < 12 := by simpa [gB] using hi
  have := h i hi'
  unfold syn movN cN at this
  rw [lin_lin, lin_pow] at this
  rw [← e]
  rw [show gB.getD i 0 = gB[i]'(by simpa [gB] using hi') by simp [show i < gB.length by simpa [gB] using hi']] at this
  simpa using this
theorem KeepsN.word {P : List Nat} (h : KeepsN P) (v : Nat) (hv : v < 16777216) (hs : syn v = 0) : syn (movN P v) = 0 := by
  rw [in_code v hv hs]
  exact h.all _
theorem keepsN_iff {P : List Nat} : KeepsN P ↔ ∀ v, v < 16777216 → syn v = 0 → syn (movN P v) = 0 :=
  ⟨fun h v hv hs => h.word v hv hs, fun h k hk => h _ (cN_lt _) (syn_cN _)⟩
theorem KeepsN.then_ {P Q : List Nat} (hP : PermN P) (hQ : PermN Q) (h : KeepsN P) (k : KeepsN Q) : KeepsN (thenN P Q) := by
  refine keepsN_iff.2 fun v hv hs => ?_
  rw [← movN_movN hP Q hQ.1]
  exact k.word _ (movN_lt hP v) (h.word v hv hs)
theorem keeps_id : KeepsN idN := fun k hk => by rw [movN_id _ (cN_lt _)]; exact syn_cN _
def powN (P : List Nat) : Nat → List Nat
  | 0 => idN
  | n + 1 => thenN (powN P n) P
theorem powN_perm {P : List Nat} (h : PermN P) : ∀ n, PermN (powN P n)
  | 0 => idN_perm
  | n + 1 => thenN_perm (powN_perm h n) h
theorem KeepsN.pow {P : List Nat} (hP : PermN P) (h : KeepsN P) : ∀ n, KeepsN (powN P n)
  | 0 => keeps_id
  | n + 1 => KeepsN.then_ (powN_perm hP n) hP (h.pow hP n) h
end Go.Proofs.Ytiodikflmijhkaa
