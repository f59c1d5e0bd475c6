import Derived.Test.YtcfhfllcdliaoaaGreatDoorM13
/- Permutations of 24 places as lists of numbers: moved words, one after the other, turned, keeping the code. No program is named here. -/
namespace Go.Proofs.YtcfhfllcdliaoaaGreatDoor
set_option linter.unusedVariables false

def PermN (P : List Nat) : Prop := P.length = 24 ∧ P.Nodup ∧ ∀ x ∈ P, x < 24
def pws (P : List Nat) : List Nat := P.map (2 ^ ·)
def movN (P : List Nat) (v : Nat) : Nat := lin (pws P) v
def thenN (P Q : List Nat) : List Nat := P.map fun x => Q.getD x 0
def idN : List Nat := List.range 24
def turnN (P : List Nat) : List Nat := idN.map fun j => P.idxOf j

theorem lin_pow : ∀ (A : List Nat) (i : Nat), lin A (2 ^ i) = A.getD i 0
  | [], i => by simp [lin]
  | a :: A, 0 => by simp [lin, lin_zero]
  | a :: A, i + 1 => by
    have h1 : 2 ^ (i + 1) % 2 = 0 := by rw [Nat.pow_succ]; omega
    have h2 : 2 ^ (i + 1) / 2 = 2 ^ i := by rw [Nat.pow_succ]; omega
    simp only [lin]
    rw [h1, h2, lin_pow A i]
    simp
theorem idN_perm : PermN idN := ⟨by simp [idN], List.nodup_range, fun x hx => by simpa [idN] using hx⟩
theorem PermN.get {P : List Nat} (h : PermN P) (i : Nat) (hi : i < 24) : P.getD i 0 < 24 := by
  have : i < P.length := by rw [h.1]; exact hi
  rw [show P.getD i 0 = P[i] by simp [this]]
  exact h.2.2 _ (List.getElem_mem this)
theorem PermN.inj {P : List Nat} (h : PermN P) {i j : Nat} (hi : i < 24) (hj : j < 24) (e : P.getD i 0 = P.getD j 0) : i = j := by
  have h1 : i < P.length := by rw [h.1]; exact hi
  have h2 : j < P.length := by rw [h.1]; exact hj
  rw [show P.getD i 0 = P[i] by simp [h1], show P.getD j 0 = P[j] by simp [h2]] at e
  exact (List.getElem_inj h.2.1).1 e
theorem PermN.all {P : List Nat} (h : PermN P) (q : Nat) (hq : q < 24) : q ∈ P := by
  apply Classical.byContradiction
  intro hn
  have h1 : (q :: P).Nodup := List.nodup_cons.2 ⟨hn, h.2.1⟩
  have h2 := List.Nodup.length_le_of_subset h1 (l₂ := List.range 24) (fun x hx => by
    rcases List.mem_cons.1 hx with rfl | hx
    · exact List.mem_range.2 hq
    · exact List.mem_range.2 (h.2.2 x hx))
  simp [h.1] at h2
theorem PermN.perm {P : List Nat} (h : PermN P) : P.Perm idN :=
  (List.perm_ext_iff_of_nodup h.2.1 List.nodup_range).2 fun x => ⟨fun hx => List.mem_range.2 (h.2.2 x hx), fun hx => h.all x (List.mem_range.1 hx)⟩
theorem PermN.hit {P : List Nat} (h : PermN P) (q : Nat) (hq : q < 24) : ∃ i, i < 24 ∧ P.getD i 0 = q := by
  obtain ⟨i, hi, e⟩ := List.mem_iff_getElem.1 (h.all q hq)
  exact ⟨i, by rw [h.1] at hi; exact hi, by simp [hi, e]⟩
theorem permN_of {P : List Nat} (hl : P.length = 24) (hr : ∀ i, i < 24 → P.getD i 0 < 24) (hi : ∀ i j, i < 24 → j < 24 → P.getD i 0 = P.getD j 0 → i = j) : PermN P := by
  refine ⟨hl, List.nodup_iff_pairwise_ne.2 (List.pairwise_iff_getElem.2 fun i j hi' hj hij => ?_), fun x hx => ?_⟩
  · intro e
    have := hi i j (by omega) (by omega) (by rw [show P.getD i 0 = P[i] by simp [hi'], show P.getD j 0 = P[j] by simp [hj]]; exact e)
    omega
  · obtain ⟨i, hi', e⟩ := List.mem_iff_getElem.1 hx
    have := hr i (by omega)
    rw [show P.getD i 0 = P[i] by simp [hi'], e] at this
    exact this
theorem pws_len (P : List Nat) : (pws P).length = P.length := by simp [pws]
theorem pws_get {P : List Nat} (i : Nat) (h : i < P.length) : (pws P).getD i 0 = 2 ^ P.getD i 0 := by simp [pws, h]
theorem movN_pow {P : List Nat} (i : Nat) (h : i < P.length) : movN P (2 ^ i) = 2 ^ P.getD i 0 := by
  unfold movN
  rw [lin_pow, pws_get i h]
theorem movN_xor (P : List Nat) (a b : Nat) : movN P (a ^^^ b) = movN P a ^^^ movN P b := lin_xor _ a b
theorem movN_zero (P : List Nat) : movN P 0 = 0 := lin_zero _
theorem movN_lt {P : List Nat} (h : PermN P) (v : Nat) : movN P v < 16777216 := by
  refine lin_lt 24 (pws P) (fun a ha => ?_) v
  simp only [pws, List.mem_map] at ha
  obtain ⟨x, hx, rfl⟩ := ha
  exact Nat.pow_lt_pow_right (by decide) (h.2.2 x hx)
theorem movN_movN {P : List Nat} (h : PermN P) (Q : List Nat) (hQ : Q.length = 24) (v : Nat) : movN Q (movN P v) = movN (thenN P Q) v := by
  unfold movN
  rw [lin_lin]
  congr 1
  simp only [pws, thenN, List.map_map]
  refine List.map_congr_left fun x hx => ?_
  have := movN_pow (P := Q) x (by rw [hQ]; exact h.2.2 x hx)
  exact this
theorem movN_id (v : Nat) (h : v < 16777216) : movN idN v = v := by
  have e : pws idN = units 0 24 := by decide
  unfold movN
  rw [e, lin_units]
  omega
/-- The bit at the place of i is the bit at i. -/
theorem testBit_lin : ∀ (P : List Nat) (v q : Nat), P.Nodup → ((lin (pws P) v).testBit q = true ↔ ∃ i, i < P.length ∧ P.getD i 0 = q ∧ v.testBit i = true)
  | [], v, q, _ => by simp [pws, lin]
  | a :: P, v, q, hn => by
    have hn' := List.nodup_cons.1 hn
    have ih := testBit_lin P (v / 2) q hn'.2
    have hv : v.testBit 0 = decide (v % 2 = 1) := by simp [Nat.testBit_zero]
    have h0 : (v % 2 * 2 ^ a).testBit q = true ↔ (a = q ∧ v.testBit 0 = true) := by
      have : v % 2 = 0 ∨ v % 2 = 1 := by omega
      rcases this with e | e
      · rw [e, hv]; simp [e]
      · rw [e, hv, Nat.one_mul, Nat.testBit_two_pow]; simp [e]
    have hs : (lin (pws (a :: P)) v) = (v % 2 * 2 ^ a) ^^^ lin (pws P) (v / 2) := rfl
    rw [hs, Nat.testBit_xor]
    have hshift : ∀ i, (v / 2).testBit i = v.testBit (i + 1) := fun i => (Nat.testBit_succ v i).symm
    constructor
    · intro h
      by_cases hx : (v % 2 * 2 ^ a).testBit q = true
      · exact ⟨0, by simp, by simpa using (h0.1 hx).1, (h0.1 hx).2⟩
      · rw [Bool.not_eq_true] at hx
        rw [hx] at h
        obtain ⟨i, hi, e, hb⟩ := ih.1 (by simpa using h)
        exact ⟨i + 1, by simpa using hi, by simpa using e, by rw [← hshift]; exact hb⟩
    · rintro ⟨i, hi, e, hb⟩
      match i, hi, e, hb with
      | 0, _, e, hb =>
        have e' : a = q := by simpa using e
        have h1 := h0.2 ⟨e', hb⟩
        have h2 : (lin (pws P) (v / 2)).testBit q = false := by
          rw [← Bool.not_eq_true]
          intro h3
          obtain ⟨j, hj, ej, _⟩ := ih.1 h3
          refine hn'.1 ?_
          rw [e', ← ej, show P.getD j 0 = P[j] by simp [hj]]
          exact List.getElem_mem hj
        rw [h1, h2]; rfl
      | i + 1, hi, e, hb =>
        have hi' : i < P.length := by simpa using hi
        have h2 := ih.2 ⟨i, hi', by simpa using e, by rw [hshift]; exact hb⟩
        have h1 : (v % 2 * 2 ^ a).testBit q = false := by
          rw [← Bool.not_eq_true]
          intro h3
          have ea := (h0.1 h3).1
          refine hn'.1 ?_
          have e2 : P.getD i 0 = q := by simpa using e
          rw [ea, ← e2, show P.getD i 0 = P[i] by simp [hi']]
          exact List.getElem_mem hi'
        rw [h1, h2]; rfl
theorem movN_bit {P : List Nat} (h : PermN P) (v : Nat) (i : Nat) (hi : i < 24) : (movN P v).testBit (P.getD i 0) = v.testBit i := by
  have hb := testBit_lin P v (P.getD i 0) h.2.1
  rw [Bool.eq_iff_iff]
  constructor
  · intro h1
    obtain ⟨j, hj, e, hv⟩ := hb.1 h1
    rw [h.inj (by rw [h.1] at hj; exact hj) hi e] at hv
    exact hv
  · intro h1
    exact hb.2 ⟨i, by rw [h.1]; exact hi, rfl, h1⟩
theorem movN_all {P : List Nat} (h : PermN P) : movN P 16777215 = 16777215 := by
  apply Nat.eq_of_testBit_eq
  intro q
  have hall : ∀ k, (16777215 : Nat).testBit k = decide (k < 24) := fun k => by
    rw [show (16777215 : Nat) = 2 ^ 24 - 1 by decide, Nat.testBit_two_pow_sub_one]
  by_cases hq : q < 24
  · obtain ⟨i, hi, e⟩ := h.hit q hq
    rw [← e, movN_bit h _ i hi, hall, hall]
    simp only [hi, h.get i hi]
  · rw [hall q]
    have : (movN P 16777215).testBit q = false := Nat.testBit_lt_two_pow (Nat.lt_of_lt_of_le (movN_lt h _) (Nat.pow_le_pow_right (show 0 < 2 by decide) (show 24 ≤ q by omega)))
    simp [this, hq]

/-! ### One after the other, and turned -/
theorem thenN_len (P Q : List Nat) : (thenN P Q).length = P.length := by simp [thenN]
theorem thenN_get {P : List Nat} (Q : List Nat) (i : Nat) (h : i < P.length) : (thenN P Q).getD i 0 = Q.getD (P.getD i 0) 0 := by simp [thenN, h]
theorem thenN_perm {P Q : List Nat} (hP : PermN P) (hQ : PermN Q) : PermN (thenN P Q) := by
  refine permN_of (by rw [thenN_len]; exact hP.1) (fun i hi => ?_) (fun i j hi hj e => ?_)
  · rw [thenN_get Q i (by rw [hP.1]; exact hi)]
    exact hQ.get _ (hP.get i hi)
  · rw [thenN_get Q i (by rw [hP.1]; exact hi), thenN_get Q j (by rw [hP.1]; exact hj)] at e
    exact hP.inj hi hj (hQ.inj (hP.get i hi) (hP.get j hj) e)
theorem turnN_len (P : List Nat) : (turnN P).length = 24 := by simp [turnN, idN]
theorem turnN_get {P : List Nat} (j : Nat) (h : j < 24) : (turnN P).getD j 0 = P.idxOf j := by simp [turnN, idN, h]
theorem idx_lt {P : List Nat} (h : PermN P) (j : Nat) (hj : j < 24) : P.idxOf j < 24 := by
  have := List.idxOf_lt_length_of_mem (h.all j hj)
  rw [h.1] at this
  exact this
theorem get_idx {P : List Nat} (h : PermN P) (j : Nat) (hj : j < 24) : P.getD (P.idxOf j) 0 = j := by
  have hl := List.idxOf_lt_length_of_mem (h.all j hj)
  rw [show P.getD (P.idxOf j) 0 = P[P.idxOf j] by simp [hl]]
  exact List.getElem_idxOf hl
theorem idx_get {P : List Nat} (h : PermN P) (i : Nat) (hi : i < 24) : P.idxOf (P.getD i 0) = i :=
  h.inj (idx_lt h _ (h.get i hi)) hi (get_idx h _ (h.get i hi))
theorem turnN_perm {P : List Nat} (h : PermN P) : PermN (turnN P) := by
  refine permN_of (turnN_len P) (fun i hi => ?_) (fun i j hi hj e => ?_)
  · rw [turnN_get i hi]; exact idx_lt h i hi
  · rw [turnN_get i hi, turnN_get j hj] at e
    rw [← get_idx h i hi, ← get_idx h j hj, e]
theorem listN_ext {P Q : List Nat} (hP : P.length = 24) (hQ : Q.length = 24) (h : ∀ i, i < 24 → P.getD i 0 = Q.getD i 0) : P = Q := by
  refine List.ext_getElem (hP.trans hQ.symm) fun i h1 h2 => ?_
  have := h i (by omega)
  rwa [show P.getD i 0 = P[i] by simp [h1], show Q.getD i 0 = Q[i] by simp [h2]] at this
theorem idN_get (i : Nat) (h : i < 24) : idN.getD i 0 = i := by simp [idN, h]
theorem then_turn {P : List Nat} (h : PermN P) : thenN P (turnN P) = idN := by
  refine listN_ext (by rw [thenN_len]; exact h.1) (by simp [idN]) fun i hi => ?_
  rw [thenN_get _ i (by rw [h.1]; exact hi), turnN_get _ (h.get i hi), idx_get h i hi, idN_get i hi]
theorem turn_then {P : List Nat} (h : PermN P) : thenN (turnN P) P = idN := by
  refine listN_ext (by rw [thenN_len]; exact turnN_len P) (by simp [idN]) fun i hi => ?_
  rw [thenN_get _ i (by rw [turnN_len]; exact hi), turnN_get i hi, get_idx h i hi, idN_get i hi]
theorem turn_turn {P : List Nat} (h : PermN P) : turnN (turnN P) = P := by
  refine listN_ext (turnN_len _) h.1 fun i hi => ?_
  have ht := turnN_perm h
  rw [turnN_get i hi]
  refine ht.inj (idx_lt ht i hi) (h.get i hi) ?_
  rw [get_idx ht i hi, turnN_get _ (h.get i hi), idx_get h i hi]
theorem mov_turn {P : List Nat} (h : PermN P) (v : Nat) (hv : v < 16777216) : movN (turnN P) (movN P v) = v := by
  rw [movN_movN h _ (turnN_len P), then_turn h, movN_id v hv]
theorem turn_mov {P : List Nat} (h : PermN P) (v : Nat) (hv : v < 16777216) : movN P (movN (turnN P) v) = v := by
  rw [movN_movN (turnN_perm h) _ h.1, turn_then h, movN_id v hv]

/-! ### Weights -/
theorem popN_cnt : ∀ (k v : Nat), popN k v = (List.range k).countP fun i => v.testBit i
  | 0, v => rfl
  | k + 1, v => by
    rw [List.range_succ_eq_map, List.countP_cons, List.countP_map]
    have e : ((fun i => v.testBit i) ∘ Nat.succ) = fun i => (v / 2).testBit i := by
      funext i
      exact Nat.testBit_succ v i
    rw [e, ← popN_cnt k (v / 2)]
    show v % 2 + popN k (v / 2) = _
    have : v.testBit 0 = decide (v % 2 = 1) := by simp [Nat.testBit_zero]
    rw [this]
    have h2 : v % 2 = 0 ∨ v % 2 = 1 := by omega
    rcases h2 with h2 | h2 <;> simp [h2, Nat.add_comm]
theorem pop_mov {P : List Nat} (h : PermN P) (v : Nat) : pop (movN P v) = pop v := by
  unfold pop
  rw [popN_cnt, popN_cnt]
  have h1 : (List.range 24).countP (fun i => (movN P v).testBit i) = P.countP fun i => (movN P v).testBit i := (h.perm.countP_eq _).symm
  have h2 : P = (List.range 24).map fun i => P.getD i 0 := by
    refine listN_ext h.1 (by simp) fun i hi => ?_
    simp [hi]
  rw [h1]
  conv => lhs; rw [h2]
  rw [List.countP_map]
  refine List.countP_congr fun i hi => ?_
  have := movN_bit h v i (List.mem_range.1 hi)
  simp only [Function.comp]
  rw [← h2, this]

/-! ### What keeps the code -/
def KeepsN (P : List Nat) : Prop := ∀ k, k < 12 → syn (movN P (cN (2 ^ k))) = 0
theorem lin_all_zero : ∀ (A : List Nat), (∀ a ∈ A, a = 0) → ∀ v, lin A v = 0
  | [], _, v => rfl
  | a :: A, h, v => by
    simp only [lin]
    rw [h a List.mem_cons_self, lin_all_zero A (fun x hx => h x (List.mem_cons_of_mem _ hx))]
    simp
theorem KeepsN.all {P : List Nat} (h : KeepsN P) (m : Nat) : syn (movN P (cN m)) = 0 := by
  unfold syn movN cN
  rw [lin_lin, lin_lin]
  refine lin_all_zero _ (fun a ha => ?_) m
  obtain ⟨i, hi, e⟩ := List.mem_iff_getElem.1 ha
  have hi' : i < 12 := by simpa [gB] using hi
  have := h i hi'
  unfold syn movN cN at this
  rw [lin_lin, lin_pow] at this
  rw [← e]
  rw [show gB.getD i 0 = gB[i]'(by simpa [gB] using hi') by simp [show i < gB.length by simpa [gB] using hi']] at this
  simpa using this
theorem KeepsN.word {P : List Nat} (h : KeepsN P) (v : Nat) (hv : v < 16777216) (hs : syn v = 0) : syn (movN P v) = 0 := by
  rw [in_code v hv hs]
  exact h.all _
theorem keepsN_iff {P : List Nat} : KeepsN P ↔ ∀ v, v < 16777216 → syn v = 0 → syn (movN P v) = 0 :=
  ⟨fun h v hv hs => h.word v hv hs, fun h k hk => h _ (cN_lt _) (syn_cN _)⟩
theorem KeepsN.then_ {P Q : List Nat} (hP : PermN P) (hQ : PermN Q) (h : KeepsN P) (k : KeepsN Q) : KeepsN (thenN P Q) := by
  refine keepsN_iff.2 fun v hv hs => ?_
  rw [← movN_movN hP Q hQ.1]
  exact k.word _ (movN_lt hP v) (h.word v hv hs)
theorem keeps_id : KeepsN idN := fun k hk => by rw [movN_id _ (cN_lt _)]; exact syn_cN _
def powN (P : List Nat) : Nat → List Nat
  | 0 => idN
  | n + 1 => thenN (powN P n) P
theorem powN_perm {P : List Nat} (h : PermN P) : ∀ n, PermN (powN P n)
  | 0 => idN_perm
  | n + 1 => thenN_perm (powN_perm h n) h
theorem KeepsN.pow {P : List Nat} (hP : PermN P) (h : KeepsN P) : ∀ n, KeepsN (powN P n)
  | 0 => keeps_id
  | n + 1 => KeepsN.then_ (powN_perm hP n) hP (h.pow hP n) h
end Go.Proofs.YtcfhfllcdliaoaaGreatDoor
/- Cycles of permutations of 24 places, and their orders. No program is named here. -/
namespace Go.Proofs.YtcfhfllcdliaoaaGreatDoor
set_option linter.unusedVariables false

def itN (P : List Nat) : Nat → Nat → Nat
  | 0, i => i
  | n + 1, i => P.getD (itN P n i) 0
/-- The walk along a cycle: the places seen, where it is, and how long it is so far. -/
def cyW (P : List Nat) : Nat → Nat → Nat → Nat → Nat × Nat
  | 0, s, i, n => (s, n)
  | f + 1, s, i, n => if s.testBit i then (s, n) else cyW P f (s ^^^ 2 ^ i) (P.getD i 0) (n + 1)
def cyStep (P : List Nat) (x : List Nat × Nat) (k : Nat) : List Nat × Nat :=
  if 0 < (cyW P 25 x.2 k 0).2 then (x.1 ++ [(cyW P 25 x.2 k 0).2], (cyW P 25 x.2 k 0).1) else (x.1, (cyW P 25 x.2 k 0).1)
def cyTo (P : List Nat) : Nat → List Nat × Nat
  | 0 => ([], 0)
  | k + 1 => cyStep P (cyTo P k) k
def ordI (P : List Nat) (i : Nat) : Nat := (List.range 24).findIdx (fun n => itN P (n + 1) i == i) + 1

theorem itN_lt {P : List Nat} (h : PermN P) (n i : Nat) (hi : i < 24) : itN P n i < 24 := by
  induction n with
  | zero => exact hi
  | succ n ih => exact h.get _ ih
theorem itN_add (P : List Nat) (a b i : Nat) : itN P (a + b) i = itN P a (itN P b i) := by
  induction a with
  | zero => rw [Nat.zero_add]; rfl
  | succ a ih => rw [Nat.succ_add]; show P.getD (itN P (a + b) i) 0 = _; rw [ih]; rfl
theorem itN_inj {P : List Nat} (h : PermN P) (n i j : Nat) (hi : i < 24) (hj : j < 24) (e : itN P n i = itN P n j) : i = j := by
  induction n with
  | zero => exact e
  | succ n ih => exact ih (h.inj (itN_lt h n i hi) (itN_lt h n j hj) e)
theorem powN_get {P : List Nat} (h : PermN P) (n i : Nat) (hi : i < 24) : (powN P n).getD i 0 = itN P n i := by
  induction n with
  | zero => exact idN_get i hi
  | succ n ih =>
    show (thenN (powN P n) P).getD i 0 = _
    rw [thenN_get _ i (by rw [(powN_perm h n).1]; exact hi), ih]
    rfl
theorem it_back {P : List Nat} (h : PermN P) (i a b : Nat) (hi : i < 24) (hab : a ≤ b) (e : itN P a i = itN P b i) : itN P (b - a) i = i := by
  have : b = a + (b - a) := by omega
  rw [this, itN_add] at e
  exact (itN_inj h a _ _ hi (itN_lt h _ _ hi) e).symm
theorem it_some {P : List Nat} (h : PermN P) (i : Nat) (hi : i < 24) : ∃ n, 1 ≤ n ∧ n ≤ 24 ∧ itN P n i = i := by
  apply Classical.byContradiction
  intro hn
  have hnd : ((List.range 25).map fun n => itN P n i).Nodup := by
    refine List.nodup_iff_pairwise_ne.2 (List.pairwise_iff_getElem.2 fun a b ha hb hab e => ?_)
    have hb' : b < 25 := by simpa using hb
    simp only [List.getElem_map, List.getElem_range] at e
    exact hn ⟨b - a, by omega, by omega, it_back h i a b hi (by omega) e⟩
  have := List.Nodup.length_le_of_subset hnd (l₂ := List.range 24) (fun x hx => by
    obtain ⟨n, _, rfl⟩ := List.mem_map.1 hx
    exact List.mem_range.2 (itN_lt h n i hi))
  simp at this
theorem ord_spec {P : List Nat} (h : PermN P) (i : Nat) (hi : i < 24) : itN P (ordI P i) i = i ∧ 1 ≤ ordI P i ∧ ordI P i ≤ 24 ∧ ∀ n, 1 ≤ n → n < ordI P i → itN P n i ≠ i := by
  obtain ⟨n, h1, h2, h3⟩ := it_some h i hi
  have hlt : (List.range 24).findIdx (fun n => itN P (n + 1) i == i) < (List.range 24).length := by
    refine List.findIdx_lt_length_of_exists ⟨n - 1, List.mem_range.2 (by omega), ?_⟩
    rw [show n - 1 + 1 = n by omega, h3]; simp
  have hf := List.findIdx_getElem (w := hlt)
  simp only [List.getElem_range, beq_iff_eq] at hf
  refine ⟨hf, by unfold ordI; omega, ?_, fun m hm1 hm2 => ?_⟩
  · unfold ordI
    rw [List.length_range] at hlt
    exact hlt
  · unfold ordI at hm2
    have hm : m - 1 < (List.range 24).findIdx (fun n => itN P (n + 1) i == i) := by omega
    have := List.not_of_lt_findIdx hm
    simp only [List.getElem_range, beq_eq_false_iff_ne, ne_eq] at this
    rw [show m - 1 + 1 = m by omega] at this
    exact this
theorem it_mul {P : List Nat} (i m : Nat) (e : itN P m i = i) : ∀ k, itN P (m * k) i = i
  | 0 => rfl
  | k + 1 => by rw [Nat.mul_succ, Nat.add_comm, itN_add, it_mul i m e k, e]
theorem ord_dvd {P : List Nat} (h : PermN P) (i n : Nat) (hi : i < 24) : itN P n i = i ↔ ordI P i ∣ n := by
  obtain ⟨s1, s2, _, s4⟩ := ord_spec h i hi
  constructor
  · intro e
    have hd : itN P (n % ordI P i) i = i := by
      have := Nat.div_add_mod n (ordI P i)
      rw [← this, Nat.add_comm, itN_add, it_mul i _ s1] at e
      exact e
    have hm := Nat.mod_lt n (show ordI P i > 0 by omega)
    by_cases h0 : n % ordI P i = 0
    · exact Nat.dvd_of_mod_eq_zero h0
    · exact absurd hd (s4 _ (by omega) hm)
  · rintro ⟨k, rfl⟩
    exact it_mul i _ s1 k
theorem ord_it {P : List Nat} (h : PermN P) (i a : Nat) (hi : i < 24) : ordI P (itN P a i) = ordI P i := by
  have hia := itN_lt h a i hi
  have key : ∀ n, itN P n (itN P a i) = itN P a i ↔ itN P n i = i := fun n => by
    rw [← itN_add, Nat.add_comm, itN_add]
    exact ⟨fun e => itN_inj h a _ _ (itN_lt h n i hi) hi e, fun e => by rw [e]⟩
  apply Nat.dvd_antisymm
  · exact (ord_dvd h _ _ hia).1 ((key _).2 (ord_spec h i hi).1)
  · exact (ord_dvd h _ _ hi).1 ((key _).1 (ord_spec h _ hia).1)
/-- A set of places is whole: with a place it has the next one, and the one ahead. -/
def Whole (P : List Nat) (s : Nat) : Prop := ∀ j, j < 24 → s.testBit (P.getD j 0) = s.testBit j
theorem Whole.it {P : List Nat} {s : Nat} (hs : Whole P s) (h : PermN P) (a j : Nat) (hj : j < 24) : s.testBit (itN P a j) = s.testBit j := by
  induction a with
  | zero => rfl
  | succ a ih => exact (hs _ (itN_lt h a j hj)).trans ih
theorem cyW_go {P : List Nat} (h : PermN P) (s i : Nat) (hi : i < 24) (hs : Whole P s) (hn : s.testBit i = false) :
    ∀ (d m f sm : Nat), m + d = ordI P i → d < f → (∀ q, sm.testBit q = true ↔ s.testBit q = true ∨ ∃ a, a < m ∧ itN P a i = q) →
      ∃ s', cyW P f sm (itN P m i) m = (s', ordI P i) ∧ ∀ q, s'.testBit q = true ↔ s.testBit q = true ∨ ∃ a, a < ordI P i ∧ itN P a i = q
  | 0, m, f + 1, sm, hm, hf, hb => by
    have hm' : m = ordI P i := by omega
    obtain ⟨s1, s2, _, _⟩ := ord_spec h i hi
    have ht : sm.testBit (itN P m i) = true := (hb _).2 (.inr ⟨0, by omega, by rw [hm', s1]; rfl⟩)
    refine ⟨sm, by rw [cyW, if_pos ht, hm'], by rw [hm'] at hb; exact hb⟩
  | d + 1, m, f + 1, sm, hm, hf, hb => by
    have ho := (ord_spec h i hi).2.2.2
    have ht : ¬ sm.testBit (itN P m i) = true := by
      intro ht
      rcases (hb _).1 ht with h1 | ⟨a, ha, e⟩
      · rw [hs.it h m i hi, hn] at h1; cases h1
      · exact ho (m - a) (by omega) (by omega) (it_back h i a m hi (by omega) e)
    obtain ⟨s', e1, e2⟩ := cyW_go h s i hi hs hn d (m + 1) f (sm ^^^ 2 ^ itN P m i) (by omega) (by omega) (fun q => by
      rw [Nat.testBit_xor, Nat.testBit_two_pow]
      by_cases hq : itN P m i = q
      · subst hq
        simp only [Bool.not_eq_true] at ht
        rw [ht]
        simp only [decide_true, Bool.false_bne, true_iff]
        exact .inr ⟨m, by omega, rfl⟩
      · simp only [hq, decide_false, Bool.bne_false]
        rw [hb q]
        constructor
        · rintro (h1 | ⟨a, ha, e⟩)
          · exact .inl h1
          · exact .inr ⟨a, by omega, e⟩
        · rintro (h1 | ⟨a, ha, e⟩)
          · exact .inl h1
          · by_cases ham : a = m
            · subst ham; exact absurd e hq
            · exact .inr ⟨a, by omega, e⟩)
    exact ⟨s', by rw [cyW, if_neg ht]; exact e1, e2⟩
theorem cyW_seen {P : List Nat} (s i f : Nat) (hb : s.testBit i = true) : cyW P (f + 1) s i 0 = (s, 0) := by rw [cyW, if_pos hb]
theorem cyW_new {P : List Nat} (h : PermN P) (s i : Nat) (hi : i < 24) (hs : Whole P s) (hn : s.testBit i = false) :
    ∃ s', cyW P 25 s i 0 = (s', ordI P i) ∧ ∀ q, s'.testBit q = true ↔ s.testBit q = true ∨ ∃ a, a < ordI P i ∧ itN P a i = q :=
  cyW_go h s i hi hs hn (ordI P i) 0 25 s (by omega) (by have := (ord_spec h i hi).2.2.1; omega) (fun q => by simp)
theorem it_red {P : List Nat} (h : PermN P) (i a : Nat) (hi : i < 24) : ∃ b, b < ordI P i ∧ itN P b i = itN P a i := by
  obtain ⟨s1, s2, _, _⟩ := ord_spec h i hi
  refine ⟨a % ordI P i, Nat.mod_lt _ (by omega), ?_⟩
  have := Nat.div_add_mod a (ordI P i)
  conv => rhs; rw [← this, Nat.add_comm, itN_add, it_mul i _ s1]
/-- What the walk over all places below k has seen. -/
theorem cyTo_seen {P : List Nat} (h : PermN P) : ∀ k, k ≤ 24 → ∀ q, (cyTo P k).2.testBit q = true ↔ ∃ i a, i < k ∧ itN P a i = q
  | 0, _, q => by simp [cyTo]
  | k + 1, hk, q => by
    have ih := cyTo_seen h k (by omega)
    have hw : Whole P (cyTo P k).2 := by
      intro j hj
      rw [Bool.eq_iff_iff, ih, ih]
      constructor
      · rintro ⟨i, a, hi, e⟩
        have hj' := (ord_spec h j hj)
        refine ⟨i, a + (ordI P j - 1), hi, ?_⟩
        rw [Nat.add_comm, itN_add, e]
        show itN P (ordI P j - 1) (itN P 1 j) = j
        rw [← itN_add, show ordI P j - 1 + 1 = ordI P j by omega]
        exact hj'.1
      · rintro ⟨i, a, hi, e⟩
        exact ⟨i, a + 1, hi, by show P.getD (itN P a i) 0 = _; rw [e]⟩
    have h2 : (cyTo P (k + 1)).2 = (cyW P 25 (cyTo P k).2 k 0).1 := by
      show (cyStep P (cyTo P k) k).2 = _
      unfold cyStep
      split <;> rfl
    rw [h2]
    by_cases hb : (cyTo P k).2.testBit k = true
    · rw [cyW_seen _ _ 24 hb, ih]
      obtain ⟨i0, a0, hi0, e0⟩ := (ih k).1 hb
      constructor
      · rintro ⟨i, a, hi, e⟩; exact ⟨i, a, by omega, e⟩
      · rintro ⟨i, a, hi, e⟩
        by_cases hik : i = k
        · subst hik
          exact ⟨i0, a + a0, hi0, by rw [itN_add, e0, e]⟩
        · exact ⟨i, a, by omega, e⟩
    · rw [Bool.not_eq_true] at hb
      obtain ⟨s', e1, e2⟩ := cyW_new h _ k (by omega) hw hb
      rw [e1, e2, ih]
      constructor
      · rintro (⟨i, a, hi, e⟩ | ⟨a, ha, e⟩)
        · exact ⟨i, a, by omega, e⟩
        · exact ⟨k, a, by omega, e⟩
      · rintro ⟨i, a, hi, e⟩
        by_cases hik : i = k
        · subst hik
          obtain ⟨b, hb1, hb2⟩ := it_red h i a (by omega)
          exact .inr ⟨b, hb1, hb2.trans e⟩
        · exact .inl ⟨i, a, by omega, e⟩
theorem cyTo_whole {P : List Nat} (h : PermN P) (k : Nat) (hk : k ≤ 24) : Whole P (cyTo P k).2 := by
  intro j hj
  rw [Bool.eq_iff_iff, cyTo_seen h k hk, cyTo_seen h k hk]
  constructor
  · rintro ⟨i, a, hi, e⟩
    have hj' := (ord_spec h j hj)
    refine ⟨i, a + (ordI P j - 1), hi, ?_⟩
    rw [Nat.add_comm, itN_add, e]
    show itN P (ordI P j - 1) (itN P 1 j) = j
    rw [← itN_add, show ordI P j - 1 + 1 = ordI P j by omega]
    exact hj'.1
  · rintro ⟨i, a, hi, e⟩
    exact ⟨i, a + 1, hi, by show P.getD (itN P a i) 0 = _; rw [e]⟩
/-- The first place of its cycle. -/
def isLow (P : List Nat) (k : Nat) : Bool := !(cyTo P k).2.testBit k
theorem isLow_iff {P : List Nat} (h : PermN P) (k : Nat) (hk : k < 24) : isLow P k = true ↔ ∀ i a, i < k → itN P a i ≠ k := by
  unfold isLow
  rw [Bool.not_eq_true', ← Bool.not_eq_true, cyTo_seen h k (by omega)]
  constructor
  · intro hn i a hi e; exact hn ⟨i, a, hi, e⟩
  · rintro hn ⟨i, a, hi, e⟩; exact hn i a hi e
theorem cyTo_list {P : List Nat} (h : PermN P) : ∀ k, k ≤ 24 → (cyTo P k).1 = ((List.range k).filter (isLow P)).map (ordI P)
  | 0, _ => rfl
  | k + 1, hk => by
    have ih := cyTo_list h k (by omega)
    rw [List.range_succ, List.filter_append, List.map_append, ← ih]
    show (cyStep P (cyTo P k) k).1 = _
    unfold cyStep
    by_cases hb : (cyTo P k).2.testBit k = true
    · rw [cyW_seen _ _ 24 hb]
      simp [isLow, hb]
    · have hl : isLow P k = true := by simp [isLow, hb]
      rw [Bool.not_eq_true] at hb
      obtain ⟨s', e1, _⟩ := cyW_new h _ k (by omega) (cyTo_whole h k (by omega)) hb
      have := (ord_spec h k (by omega)).2.1
      rw [e1, if_pos (show 0 < (s', ordI P k).2 by show 0 < ordI P k; omega)]
      simp [hl]
def rawC (P : List Nat) : List Nat := (cyTo P 24).1
theorem rawC_is {P : List Nat} (h : PermN P) : rawC P = ((List.range 24).filter (isLow P)).map (ordI P) := cyTo_list h 24 (by omega)
theorem rawC_mem {P : List Nat} (h : PermN P) (n : Nat) : n ∈ rawC P ↔ ∃ i, i < 24 ∧ ordI P i = n := by
  rw [rawC_is h, List.mem_map]
  constructor
  · rintro ⟨i, hi, e⟩
    exact ⟨i, List.mem_range.1 (List.mem_filter.1 hi).1, e⟩
  · rintro ⟨i, hi, e⟩
    have key : ∀ n i, i ≤ n → i < 24 → ∃ j a, j < 24 ∧ isLow P j = true ∧ itN P a j = i := by
      intro n
      induction n with
      | zero =>
        intro i hi0 hi
        refine ⟨i, 0, hi, (isLow_iff h i hi).2 (fun i' a hi' => by omega), rfl⟩
      | succ n ih =>
        intro i hi0 hi
        by_cases hl : isLow P i = true
        · exact ⟨i, 0, hi, hl, rfl⟩
        · have : ∃ i' a, i' < i ∧ itN P a i' = i := by
            apply Classical.byContradiction
            intro hc
            exact hl ((isLow_iff h i hi).2 fun i' a hi' e => hc ⟨i', a, hi', e⟩)
          obtain ⟨i', a, hi', e⟩ := this
          obtain ⟨j, b, hj, hlj, ej⟩ := ih i' (by omega) (by omega)
          exact ⟨j, a + b, hj, hlj, by rw [itN_add, ej, e]⟩
    obtain ⟨j, a, hj, hl, ej⟩ := key i i (Nat.le_refl _) hi
    refine ⟨j, List.mem_filter.2 ⟨List.mem_range.2 hj, hl⟩, ?_⟩
    rw [← e, ← ej, ord_it h j a hj]
end Go.Proofs.YtcfhfllcdliaoaaGreatDoor
/- Residues modulo 23 and moves of the line: what is moved by one and back, and how often until it is back. No program is named here. -/
namespace Go.Proofs.YtcfhfllcdliaoaaGreatDoor
set_option linter.unusedVariables false
def sqL : List Nat := [1, 2, 3, 4, 6, 8, 9, 12, 13, 16, 18]
def tnL : List Nat := [0, 1, 12, 8, 6, 14, 4, 10, 3, 18, 7, 21, 2, 16, 5, 20, 13, 19, 9, 17, 15, 11, 22]
abbrev R23 := Fin 23
def sqF (r : R23) : Bool := sqL.contains r.val
def tn (r : R23) : R23 := Fin.ofNat 23 (tnL.getD r.val 0)
theorem tn_mul : ∀ r : R23, r ≠ 0 → r * tn r = 1 := by decide
theorem sq_ne {r : R23} (h : sqF r = true) : r ≠ 0 := by rintro rfl; revert h; decide
def ovF (t b : R23) : Option R23 := if b = 0 then none else some (t * tn b)
def lmF (a b c d : R23) : Option R23 → Option R23
  | none => ovF a c
  | some x => ovF (a * x + b) (c * x + d)
theorem ne_mul {x y : R23} (hx : x ≠ 0) (hy : y ≠ 0) : x * y ≠ 0 := by
  intro h
  have h1 := tn_mul x hx
  have : tn x * (x * y) = y := by grobner
  rw [h] at this
  exact hy (by grobner)
theorem ov_of {t b y : R23} (hb : b ≠ 0) (h : y * b = t) : ovF t b = some y := by
  unfold ovF
  rw [if_neg hb, ← h]
  have := tn_mul b hb
  congr 1
  grobner
theorem ov_some {t b : R23} (hb : b ≠ 0) : ∃ y, ovF t b = some y ∧ y * b = t := by
  refine ⟨t * tn b, by simp [ovF, hb], ?_⟩
  have := tn_mul b hb
  grobner
theorem ov_none (t : R23) : ovF t 0 = none := by simp [ovF]
theorem mv_back (a b c d : R23) (hD : a * d - b * c ≠ 0) (x : Option R23) : lmF d (-b) (-c) a (lmF a b c d x) = x := by
  cases x with
  | none =>
    show lmF d (-b) (-c) a (ovF a c) = none
    by_cases hc : c = 0
    · subst hc
      rw [ov_none]
      show ovF d (-0) = none
      rw [show (-0 : R23) = 0 by decide, ov_none]
    · obtain ⟨y, hy, e⟩ := ov_some (t := a) hc
      rw [hy]
      show ovF (d * y + -b) (-c * y + a) = none
      rw [show -c * y + a = 0 by grobner, ov_none]
  | some x =>
    show lmF d (-b) (-c) a (ovF (a * x + b) (c * x + d)) = some x
    by_cases hb : c * x + d = 0
    · rw [hb, ov_none]
      show ovF d (-c) = some x
      by_cases hc : c = 0
      · exact absurd (show a * d - b * c = 0 by grobner) hD
      · exact ov_of (by grobner) (by grobner)
    · obtain ⟨y, hy, e⟩ := ov_some (t := a * x + b) hb
      rw [hy]
      show ovF (d * y + -b) (-c * y + a) = some x
      refine ov_of (fun h => hD ?_) (by grobner)
      have h1 : d * y = b := by grobner
      grobner
/-- What the vector (u, v) stands for. -/
def prF (q : R23 × R23) : Option R23 := ovF q.1 q.2
def acF (a b c d : R23) (q : R23 × R23) : R23 × R23 := (a * q.1 + b * q.2, c * q.1 + d * q.2)
theorem pr_scale (s u v : R23) (hs : s ≠ 0) : prF (s * u, s * v) = prF (u, v) := by
  unfold prF
  by_cases hv : v = 0
  · subst hv; simp only [show s * (0 : R23) = 0 by grobner, ovF, if_true]
  · obtain ⟨y, hy, e⟩ := ov_some (t := u) hv
    simp only [hy]
    exact ov_of (ne_mul hs hv) (by grobner)
theorem ac_ne (a b c d : R23) (hD : a * d - b * c ≠ 0) (q : R23 × R23) (hq : q ≠ (0, 0)) : acF a b c d q ≠ (0, 0) := by
  obtain ⟨u, v⟩ := q
  intro h
  simp only [acF, Prod.mk.injEq] at h
  have h1 : (a * d - b * c) * u = 0 := by grobner
  have h2 : (a * d - b * c) * v = 0 := by grobner
  have hu : u = 0 := Classical.byContradiction fun n => ne_mul hD n h1
  have hv : v = 0 := Classical.byContradiction fun n => ne_mul hD n h2
  exact hq (by rw [hu, hv])
theorem pr_ac (a b c d : R23) (q : R23 × R23) (hq : q ≠ (0, 0)) : lmF a b c d (prF q) = prF (acF a b c d q) := by
  obtain ⟨u, v⟩ := q
  by_cases hv : v = 0
  · subst hv
    have hu : u ≠ 0 := fun h => hq (by rw [h])
    have : prF (u, 0) = none := ov_none u
    rw [this]
    show ovF a c = prF (a * u + b * 0, c * u + d * 0)
    rw [show a * u + b * 0 = u * a by grobner, show c * u + d * 0 = u * c by grobner, pr_scale u a c hu]
    rfl
  · obtain ⟨x, hx, e⟩ := ov_some (t := u) hv
    have : prF (u, v) = some x := hx
    rw [this]
    show ovF (a * x + b) (c * x + d) = prF (a * u + b * v, c * u + d * v)
    rw [show a * u + b * v = v * (a * x + b) by grobner, show c * u + d * v = v * (c * x + d) by grobner, pr_scale v _ _ hv]
    rfl
def acN (a b c d : R23) : Nat → R23 × R23 → R23 × R23
  | 0, q => q
  | n + 1, q => acF a b c d (acN a b c d n q)
def mvN (a b c d : R23) : Nat → Option R23 → Option R23
  | 0, x => x
  | n + 1, x => lmF a b c d (mvN a b c d n x)
theorem acN_ne (a b c d : R23) (hD : a * d - b * c ≠ 0) (q : R23 × R23) (hq : q ≠ (0, 0)) : ∀ n, acN a b c d n q ≠ (0, 0)
  | 0 => hq
  | n + 1 => ac_ne a b c d hD _ (acN_ne a b c d hD q hq n)
theorem mvN_pr (a b c d : R23) (hD : a * d - b * c ≠ 0) (q : R23 × R23) (hq : q ≠ (0, 0)) : ∀ n, mvN a b c d n (prF q) = prF (acN a b c d n q)
  | 0 => rfl
  | n + 1 => by
    show lmF a b c d (mvN a b c d n (prF q)) = _
    rw [mvN_pr a b c d hD q hq n, pr_ac _ _ _ _ _ (acN_ne a b c d hD q hq n)]
    rfl
/-- The numbers p(n), p(n+1) with p(0) = 0, p(1) = 1, p(n+2) = t p(n+1) - d p(n). -/
def poF (t d : R23) : Nat → R23 × R23
  | 0 => (0, 1)
  | n + 1 => ((poF t d n).2, t * (poF t d n).2 - d * (poF t d n).1)
theorem acN_po (a b c d : R23) (u v : R23) : ∀ n, acN a b c d (n + 1) (u, v) =
    ((poF (a + d) (a * d - b * c) (n + 1)).1 * (a * u + b * v) - (a * d - b * c) * (poF (a + d) (a * d - b * c) n).1 * u,
     (poF (a + d) (a * d - b * c) (n + 1)).1 * (c * u + d * v) - (a * d - b * c) * (poF (a + d) (a * d - b * c) n).1 * v)
  | 0 => by
    simp only [acN, acF, poF, Prod.mk.injEq]
    constructor <;> grobner
  | n + 1 => by
    have ih := acN_po a b c d u v n
    show acF a b c d (acN a b c d (n + 1) (u, v)) = _
    rw [ih]
    have h2 : (poF (a + d) (a * d - b * c) (n + 1 + 1)).1 = (a + d) * (poF (a + d) (a * d - b * c) (n + 1)).1 - (a * d - b * c) * (poF (a + d) (a * d - b * c) n).1 := rfl
    rw [h2]
    generalize (poF (a + d) (a * d - b * c) (n + 1)).1 = P
    generalize (poF (a + d) (a * d - b * c) n).1 = Q
    simp only [acF, Prod.mk.injEq]
    constructor <;> grobner
def ordB (t d : R23) (n : Nat) : Bool := (poF t d n).1 == 0 && (poF t d (n - 1)).1 != 0
theorem ord_all : ∀ t d : R23, sqF d = true → (ordB t d 11 || ordB t d 12 || ordB t d 23) = true := by decide +kernel
theorem mvN_id (a b c d : R23) (hD : a * d - b * c ≠ 0) (n : Nat) (h : ordB (a + d) (a * d - b * c) (n + 1) = true) (x : Option R23) : mvN a b c d (n + 1) x = x := by
  simp only [ordB, Bool.and_eq_true, beq_iff_eq, bne_iff_ne, ne_eq, Nat.add_sub_cancel] at h
  have main : ∀ q : R23 × R23, q ≠ (0, 0) → mvN a b c d (n + 1) (prF q) = prF q := by
    rintro ⟨u, v⟩ hq
    rw [mvN_pr a b c d hD _ hq, acN_po, h.1]
    generalize (poF (a + d) (a * d - b * c) n).1 = Q at h
    have hs : -((a * d - b * c) * Q) ≠ 0 := by
      have := ne_mul hD h.2
      intro h0
      exact this (by grobner)
    have e1 : 0 * (a * u + b * v) - (a * d - b * c) * Q * u = -((a * d - b * c) * Q) * u := by grobner
    have e2 : 0 * (c * u + d * v) - (a * d - b * c) * Q * v = -((a * d - b * c) * Q) * v := by grobner
    rw [e1, e2]
    exact pr_scale _ _ _ hs
  cases x with
  | none => exact main (1, 0) (by decide)
  | some x =>
    have := main (x, 1) (by simp)
    have e : prF (x, 1) = some x := ov_of (show (1 : R23) ≠ 0 by decide) (show x * 1 = x by grobner)
    rwa [e] at this
theorem mv_ord (a b c d : R23) (hD : sqF (a * d - b * c) = true) : ∃ n, (n = 11 ∨ n = 12 ∨ n = 23) ∧ ∀ x, mvN a b c d n x = x := by
  have h := ord_all (a + d) (a * d - b * c) hD
  simp only [Bool.or_eq_true] at h
  rcases h with (h | h) | h
  · exact ⟨11, by simp, mvN_id a b c d (sq_ne hD) 10 h⟩
  · exact ⟨12, by simp, mvN_id a b c d (sq_ne hD) 11 h⟩
  · exact ⟨23, by simp, mvN_id a b c d (sq_ne hD) 22 h⟩
def lpOf (k : Nat) : Option R23 := if h : k < 23 then some ⟨k, h⟩ else none
def lpNo : Option R23 → Nat
  | none => 23
  | some x => x.val
theorem lpNo_lt (x : Option R23) : lpNo x < 24 := by
  cases x with
  | none => decide
  | some x => exact Nat.lt_succ_of_lt x.isLt
theorem lpOf_no (x : Option R23) : lpOf (lpNo x) = x := by
  cases x with
  | none => rfl
  | some x => simp [lpOf, lpNo, x.isLt]
theorem lpNo_of (k : Nat) (h : k < 24) : lpNo (lpOf k) = k := by
  unfold lpOf
  split
  · rfl
  · show 23 = k; omega
end Go.Proofs.YtcfhfllcdliaoaaGreatDoor
/- The line code: sums of generators, which words are sums, and what keeps it. No program is named here. -/
namespace Go.Proofs.YtcfhfllcdliaoaaGreatDoor
set_option linter.unusedVariables false

def gL : List Nat := [8729438, 9070268, 9751928, 11115248, 13841888, 10906561, 13424514, 10071813, 11755018, 15121428, 13465641, 10154067, 11919526, 15450444, 14123673, 11470131, 14551654, 12326093, 16263578, 15749941, 14722667, 12668119, 8559023, 0]
def gA : List Nat := [8729438, 9070268, 9751928, 11115248, 13841888, 10906561, 13424514, 10071813, 11755018, 15121428, 13465641, 10154067]
def gC : List Nat := [1, 2, 4, 8, 16, 32, 64, 128, 256, 512, 1024, 2048, 1183, 2366, 1763, 3526, 3859, 2745, 493, 986, 1972, 3944, 2639, 0]
/-- The sum of the generators of the places below 23. -/
def lsN (v : Nat) : Nat := lin gL v
def inLN (v : Nat) : Bool := lsN v == v
theorem lsN_xor (a b : Nat) : lsN (a ^^^ b) = lsN a ^^^ lsN b := lin_xor gL a b
theorem gL_lt : ∀ a ∈ gL, a < 2 ^ 24 := by decide
theorem lsN_lt (v : Nat) : lsN v < 16777216 := lin_lt 24 gL gL_lt v
theorem gL_twice : gL.map (lin gL) = gL := by decide +kernel
theorem lsN_twice (v : Nat) : lsN (lsN v) = lsN v := by
  unfold lsN
  rw [lin_lin, gL_twice]
theorem inLN_ls (v : Nat) : inLN (lsN v) = true := by simp [inLN, lsN_twice]
theorem inLN_iff (v : Nat) : inLN v = true ↔ lsN v = v := by simp [inLN]
theorem inLN_xor {a b : Nat} (ha : inLN a = true) (hb : inLN b = true) : inLN (a ^^^ b) = true := by
  rw [inLN_iff] at *
  rw [lsN_xor, ha, hb]
theorem lsN_gen (i : Nat) : lsN (2 ^ i) = gL.getD i 0 := lin_pow gL i
theorem gL_in (i : Nat) : inLN (gL.getD i 0) = true := by
  rw [← lsN_gen]
  exact inLN_ls _
theorem all_in : inLN 16777215 = true := by decide +kernel
theorem gC_is : gC.map (lin gA) = gL := by decide +kernel
set_option maxRecDepth 100000 in
theorem line_weights : ∀ m : Fin 4096, wts (pop (lin gA m.val)) = true := by decide +kernel
theorem gC_lt : ∀ a ∈ gC, a < 2 ^ 12 := by decide
theorem lsN_wts (v : Nat) : wts (pop (lsN v)) = true := by
  unfold lsN
  rw [← gC_is, ← lin_lin]
  exact line_weights ⟨lin gC v, lin_lt 12 gC gC_lt v⟩
theorem inLN_wts {v : Nat} (h : inLN v = true) : wts (pop v) = true := by
  rw [inLN_iff] at h
  rw [← h]
  exact lsN_wts v
theorem lsN_mod (w : Nat) (h : w < 16777216) : lsN (w % 8388608) = lsN w := by
  have hq : w / 8388608 = 0 ∨ w / 8388608 = 1 := by omega
  have hs : w = (w % 8388608) ^^^ (w / 8388608 * 2 ^ 23) := by
    rcases hq with e | e
    · rw [e]; simp only [Nat.zero_mul, Nat.xor_zero]; omega
    · rw [e]
      have h2 := shift_xor (w % 8388608 / 4194304) 22 0 (by omega)
      apply Nat.eq_of_testBit_eq
      intro q
      rw [Nat.testBit_xor, show (8388608 : Nat) = 2 ^ 23 by decide, Nat.testBit_mod_two_pow, Nat.one_mul, Nat.testBit_two_pow]
      by_cases hlt : q < 23
      · have h23 : ¬ (23 = q) := by omega
        simp [hlt, h23]
      · by_cases he : q = 23
        · subst he
          have : w.testBit 23 = true := by
            rw [Nat.testBit_eq_decide_div_mod_eq]
            simp only [decide_eq_true_eq]
            have : w / 2 ^ 23 = 1 := e
            rw [this]
          simp [this]
        · have : w.testBit q = false := Nat.testBit_lt_two_pow (Nat.lt_of_lt_of_le h (Nat.pow_le_pow_right (show 0 < 2 by decide) (show 24 ≤ q by omega)))
          have h23 : ¬ (23 = q) := fun e => he e.symm
          simp [this, hlt, h23]
  conv => rhs; rw [hs]
  rw [lsN_xor]
  have : lsN (w / 8388608 * 2 ^ 23) = 0 := by
    unfold lsN
    rw [lin_bit _ _ _ (by omega), lin_pow]
    rw [show gL.getD 23 0 = 0 by decide, Nat.mul_zero]
  rw [this, Nat.xor_zero]

/-! ### The words that have an even number of places in common with each generator -/
theorem popX2 : ∀ (k a b : Nat), popN k (a ^^^ b) % 2 = (popN k a + popN k b) % 2
  | 0, a, b => rfl
  | k + 1, a, b => by
    have ih := popX2 k (a / 2) (b / 2)
    have h1 := xor_mod2 a b
    have h2 : (a ^^^ b) / 2 = a / 2 ^^^ b / 2 := Nat.xor_div_two
    simp only [popN]
    rw [h2, h1]
    omega
def parN (k w h : Nat) : Nat := popN k (w &&& h) % 2
theorem parN_xor (k w a b : Nat) : parN k w (a ^^^ b) = (parN k w a + parN k w b) % 2 := by
  unfold parN
  rw [Nat.and_xor_distrib_left, popX2]
  omega
theorem parN_zero (k w : Nat) : parN k w 0 = 0 := by
  have : ∀ k, popN k 0 = 0 := by intro k; induction k with
    | zero => rfl
    | succ k ih => simp [popN, ih]
  simp [parN, this]
theorem parN_lin (k w : Nat) : ∀ (A : List Nat), (∀ a ∈ A, parN k w a = 0) → ∀ c, parN k w (lin A c) = 0
  | [], _, c => parN_zero k w
  | a :: A, h, c => by
    simp only [lin]
    rw [parN_xor, parN_lin k w A (fun x hx => h x (List.mem_cons_of_mem _ hx)) _]
    have h2 : c % 2 = 0 ∨ c % 2 = 1 := by omega
    have h3 := h a List.mem_cons_self
    rcases h2 with e | e <;> rw [e]
    · rw [Nat.zero_mul, parN_zero]
    · rw [Nat.one_mul, h3]
def colN (A : List Nat) (x : Nat) : Nat :=
  match A with
  | [] => 0
  | a :: A => a / 2 ^ x % 2 + 2 * colN A x
theorem and_half (w b c : Nat) (hb : b < 2) : (w &&& (b + 2 * c)) % 2 = w % 2 * b ∧ (w &&& (b + 2 * c)) / 2 = w / 2 &&& c := by
  constructor
  · have h1 : (w &&& (b + 2 * c)) % 2 = (w % 2) &&& ((b + 2 * c) % 2) := by
      have := @Nat.and_mod_two_pow w (b + 2 * c) 1
      simpa using this
    rw [h1, show (b + 2 * c) % 2 = b by omega]
    have h2 : w % 2 = 0 ∨ w % 2 = 1 := by omega
    have h3 : b = 0 ∨ b = 1 := by omega
    rcases h2 with e | e <;> rcases h3 with f | f <;> rw [e, f] <;> rfl
  · rw [Nat.and_div_two, show (b + 2 * c) / 2 = c by omega]
theorem lin_bit_par : ∀ (A : List Nat) (k w x : Nat), A.length ≤ k → (lin A w) / 2 ^ x % 2 = parN k w (colN A x)
  | [], k, w, x, _ => by
    rw [show colN [] x = 0 from rfl, parN_zero]
    simp [lin]
  | a :: A, 0, w, x, h => by simp at h
  | a :: A, k + 1, w, x, h => by
    have ih := lin_bit_par A k (w / 2) x (by simpa using h)
    have hb : a / 2 ^ x % 2 < 2 := Nat.mod_lt _ (by decide)
    obtain ⟨e1, e2⟩ := and_half w (a / 2 ^ x % 2) (colN A x) hb
    have hx : ∀ u v : Nat, (u ^^^ v) / 2 ^ x % 2 = (u / 2 ^ x % 2 + v / 2 ^ x % 2) % 2 := fun u v => by
      rw [Nat.xor_div_two_pow, xor_mod2]
    unfold parN at ih ⊢
    simp only [lin, colN, popN]
    rw [hx, ih, e1, e2]
    have h2 : w % 2 = 0 ∨ w % 2 = 1 := by omega
    rcases h2 with e | e <;> rw [e]
    · simp only [Nat.zero_mul, Nat.zero_div]; omega
    · simp only [Nat.one_mul]; omega
def zL : List Nat := List.zipWith (· ^^^ ·) gL (units 0 24)
theorem zL_cols : ∀ x : Fin 24, colN zL x.val = lin gL (if x.val = 23 then 8388607 else 8388607 ^^^ 2 ^ x.val) := by decide +kernel
theorem gL_self : ∀ i : Fin 24, gL.map (fun g => parN 24 g (gL.getD i.val 0)) = List.replicate 24 0 := by decide +kernel
/-- A word is a sum of generators just if it has an even number of places in common with each. -/
theorem line_dual (w : Nat) (hw : w < 16777216) : inLN w = true ↔ ∀ i, i < 23 → parN 24 w (gL.getD i 0) = 0 := by
  rw [inLN_iff]
  constructor
  · intro h i hi
    have hs : ∀ a ∈ gL, parN 24 (gL.getD i 0) a = 0 := fun a ha => by
      have := gL_self ⟨i, by omega⟩
      have h2 : parN 24 a (gL.getD i 0) ∈ gL.map (fun g => parN 24 g (gL.getD i 0)) := List.mem_map.2 ⟨a, ha, rfl⟩
      rw [this] at h2
      have h3 := (List.mem_replicate.1 h2).2
      unfold parN at h3 ⊢
      rw [Nat.and_comm]
      exact h3
    have := parN_lin 24 (gL.getD i 0) gL hs w
    rw [← h]
    unfold parN at this ⊢
    rw [Nat.and_comm]
    exact this
  · intro h
    have hall : ∀ a ∈ gL, parN 24 w a = 0 := fun a ha => by
      obtain ⟨i, hi, e⟩ := List.mem_iff_getElem.1 ha
      have hi' : i < 24 := by simpa [gL] using hi
      by_cases h23 : i < 23
      · have := h i h23
        rwa [show gL.getD i 0 = a by rw [List.getD_eq_getElem?_getD, List.getElem?_eq_getElem hi]; exact e] at this
      · obtain rfl : i = 23 := by omega
        rw [← e]
        exact parN_zero 24 w
    have hz : lsN w ^^^ w = lin zL w := by
      have : lin gL w ^^^ lin (units 0 24) w = lin zL w := lin_zip gL (units 0 24) w (by decide)
      rw [lin_units, Nat.pow_zero, Nat.one_mul, Nat.mod_eq_of_lt hw] at this
      exact this
    have h0 : lin zL w = 0 := by
      apply Nat.eq_of_testBit_eq
      intro x
      rw [Nat.zero_testBit, Nat.testBit_eq_decide_div_mod_eq]
      by_cases hx : x < 24
      · rw [lin_bit_par zL 24 w x (by decide), zL_cols ⟨x, hx⟩, parN_lin 24 w gL hall]
        simp
      · have : lin zL w < 2 ^ 24 := lin_lt 24 zL (by decide +kernel) w
        rw [Nat.div_eq_of_lt (Nat.lt_of_lt_of_le this (Nat.pow_le_pow_right (by decide) (by omega)))]
        simp
    rw [h0] at hz
    have := congrArg (fun y => y ^^^ w) hz
    simp only [Nat.zero_xor] at this
    rwa [Nat.xor_assoc, Nat.xor_self, Nat.xor_zero] at this

/-! ### The permutations of the line -/
def lpN (a b c d : R23) : List Nat := (List.range 24).map fun k => lpNo (lmF a b c d (lpOf k))
theorem lpN_get (a b c d : R23) (k : Nat) (h : k < 24) : (lpN a b c d).getD k 0 = lpNo (lmF a b c d (lpOf k)) := by simp [lpN, h]
theorem lpN_len (a b c d : R23) : (lpN a b c d).length = 24 := by simp [lpN]
theorem lpN_perm (a b c d : R23) (hD : a * d - b * c ≠ 0) : PermN (lpN a b c d) := by
  refine permN_of (lpN_len a b c d) (fun i hi => ?_) (fun i j hi hj e => ?_)
  · rw [lpN_get a b c d i hi]; exact lpNo_lt _
  · rw [lpN_get a b c d i hi, lpN_get a b c d j hj] at e
    have e2 : lmF a b c d (lpOf i) = lmF a b c d (lpOf j) := by rw [← lpOf_no (lmF a b c d (lpOf i)), e, lpOf_no]
    have h1 := mv_back a b c d hD (lpOf i)
    rw [e2, mv_back a b c d hD (lpOf j)] at h1
    rw [← lpNo_of i hi, ← h1, lpNo_of j hj]
theorem lpN_it (a b c d : R23) (k : Nat) (h : k < 24) : ∀ n, itN (lpN a b c d) n k = lpNo (mvN a b c d n (lpOf k))
  | 0 => (lpNo_of k h).symm
  | n + 1 => by
    show (lpN a b c d).getD (itN (lpN a b c d) n k) 0 = _
    rw [lpN_it a b c d k h n, lpN_get _ _ _ _ _ (lpNo_lt _), lpOf_no]
    rfl
theorem lpN_ord (a b c d : R23) (hD : sqF (a * d - b * c) = true) : ∃ n, (n = 11 ∨ n = 12 ∨ n = 23) ∧ ∀ i, i < 24 → itN (lpN a b c d) n i = i := by
  obtain ⟨n, hn, h⟩ := mv_ord a b c d hD
  exact ⟨n, hn, fun i hi => by rw [lpN_it a b c d i hi, h, lpNo_of i hi]⟩
theorem pr_all (x : Option R23) : ∃ q : R23 × R23, q ≠ (0, 0) ∧ x = prF q := by
  cases x with
  | none => exact ⟨(1, 0), by decide, rfl⟩
  | some x => exact ⟨(x, 1), by simp, (ov_of (show (1 : R23) ≠ 0 by decide) (show x * 1 = x by grobner)).symm⟩
theorem mv_mul (a b c d e f g h : R23) (h1 : a * d - b * c ≠ 0) (h2 : e * h - f * g ≠ 0) (x : Option R23) :
    lmF e f g h (lmF a b c d x) = lmF (e * a + f * c) (e * b + f * d) (g * a + h * c) (g * b + h * d) x := by
  obtain ⟨q, hq, rfl⟩ := pr_all x
  rw [pr_ac a b c d q hq, pr_ac e f g h _ (ac_ne a b c d h1 q hq), pr_ac _ _ _ _ q hq]
  congr 1
  obtain ⟨u, v⟩ := q
  simp only [acF, Prod.mk.injEq]
  constructor <;> grobner
theorem mv_scale (s a b c d : R23) (hs : s ≠ 0) (x : Option R23) : lmF (s * a) (s * b) (s * c) (s * d) x = lmF a b c d x := by
  obtain ⟨q, hq, rfl⟩ := pr_all x
  rw [pr_ac _ _ _ _ q hq, pr_ac _ _ _ _ q hq]
  obtain ⟨u, v⟩ := q
  conv => rhs; rw [← show prF (s * (acF a b c d (u, v)).1, s * (acF a b c d (u, v)).2) = prF (acF a b c d (u, v)) from pr_scale s _ _ hs]
  congr 1
  simp only [acF, Prod.mk.injEq]
  constructor <;> grobner
theorem lpN_then (a b c d e f g h : R23) (h1 : a * d - b * c ≠ 0) (h2 : e * h - f * g ≠ 0) :
    thenN (lpN a b c d) (lpN e f g h) = lpN (e * a + f * c) (e * b + f * d) (g * a + h * c) (g * b + h * d) := by
  refine listN_ext (by rw [thenN_len, lpN_len]) (lpN_len _ _ _ _) fun i hi => ?_
  rw [thenN_get _ i (by rw [lpN_len]; exact hi), lpN_get _ _ _ _ i hi, lpN_get _ _ _ _ _ (lpNo_lt _), lpOf_no, mv_mul a b c d e f g h h1 h2, lpN_get _ _ _ _ i hi]
theorem lpN_scale (s a b c d : R23) (hs : s ≠ 0) : lpN (s * a) (s * b) (s * c) (s * d) = lpN a b c d := by
  refine listN_ext (lpN_len _ _ _ _) (lpN_len _ _ _ _) fun i hi => ?_
  rw [lpN_get _ _ _ _ i hi, lpN_get _ _ _ _ i hi, mv_scale s a b c d hs]

def KeepsL (P : List Nat) : Prop := ∀ v, lsN (movN P (lsN v)) = movN P (lsN v)
def keepLB (P : List Nat) : Bool := (gL.map (lin (pws P))).map (lin gL) == gL.map (lin (pws P))
theorem keepL_of {P : List Nat} (h : keepLB P = true) : KeepsL P := fun v => by
  unfold keepLB at h
  unfold lsN movN
  rw [lin_lin (pws P), lin_lin, beq_iff_eq.1 h]
theorem KeepsL.word {P : List Nat} (h : KeepsL P) (v : Nat) (hv : inLN v = true) : inLN (movN P v) = true := by
  rw [inLN_iff] at *
  have := h v
  rwa [hv] at this
theorem KeepsL.then_ {P Q : List Nat} (hP : PermN P) (hQ : PermN Q) (h : KeepsL P) (k : KeepsL Q) : KeepsL (thenN P Q) := fun v => by
  rw [← movN_movN hP Q hQ.1]
  exact (inLN_iff _).1 (k.word _ (h.word _ (inLN_ls v)))
theorem keep_T : ∀ t : R23, keepLB (lpN 1 t 0 1) = true := by decide +kernel
theorem keep_S : ∀ s : R23, sqF s = true → keepLB (lpN s 0 0 1) = true := by decide +kernel
theorem keep_J : keepLB (lpN 0 (-1) 1 0) = true := by decide +kernel
theorem sq_over : ∀ a d : R23, sqF (a * d) = true → d ≠ 0 → sqF (a * tn d) = true := by decide +kernel
theorem sq_over2 : ∀ D c : R23, sqF D = true → c ≠ 0 → sqF (D * (tn c * tn c)) = true := by decide +kernel
theorem keeps_line (a b c d : R23) (hD : sqF (a * d - b * c) = true) : KeepsL (lpN a b c d) := by
  have hD0 := sq_ne hD
  have n1 : ∀ t : R23, (1 : R23) * 1 - t * 0 ≠ 0 := fun t => by rw [show (1 : R23) * 1 - t * 0 = 1 by grobner]; decide
  by_cases hc : c = 0
  · subst hc
    have hd : d ≠ 0 := by rintro rfl; exact hD0 (by grobner)
    have hs : sqF (a * tn d) = true := sq_over a d (by rw [show a * d = a * d - b * 0 by grobner]; exact hD) hd
    have hs0 := sq_ne hs
    have n2 : a * tn d * 1 - 0 * 0 ≠ 0 := by rw [show a * tn d * 1 - 0 * 0 = a * tn d by grobner]; exact hs0
    have h := KeepsL.then_ (lpN_perm _ _ _ _ n2) (lpN_perm _ _ _ _ (n1 (b * tn d))) (keepL_of (keep_S _ hs)) (keepL_of (keep_T (b * tn d)))
    rw [lpN_then _ _ _ _ _ _ _ _ n2 (n1 _), ← lpN_scale d _ _ _ _ hd] at h
    have ht := tn_mul d hd
    rwa [show d * (1 * (a * tn d) + b * tn d * 0) = a by grobner, show d * (1 * 0 + b * tn d * 1) = b by grobner, show d * (0 * (a * tn d) + 1 * 0) = 0 by grobner, show d * (0 * 0 + 1 * 1) = d by grobner] at h
  · have ht := tn_mul c hc
    have hs := sq_over2 _ c hD hc
    have hs0 := sq_ne hs
    generalize hu : (a * d - b * c) * (tn c * tn c) = u at hs hs0
    have n2 : u * 1 - 0 * 0 ≠ 0 := by rw [show u * 1 - 0 * 0 = u by grobner]; exact hs0
    have nJ : (0 : R23) * 0 - (-1) * 1 ≠ 0 := by decide
    have hT := keepL_of (keep_T (d * tn c))
    have h1 := KeepsL.then_ (lpN_perm _ _ _ _ (n1 (d * tn c))) (lpN_perm _ _ _ _ nJ) hT (keepL_of keep_J)
    rw [lpN_then _ _ _ _ _ _ _ _ (n1 _) nJ, show (0 : R23) * 1 + -1 * 0 = 0 by decide, show 0 * (d * tn c) + -1 * 1 = (-1 : R23) by grobner, show (1 : R23) * 1 + 0 * 0 = 1 by decide, show 1 * (d * tn c) + 0 * 1 = d * tn c by grobner] at h1
    have n3 : 0 * (d * tn c) - (-1) * 1 ≠ 0 := by rw [show 0 * (d * tn c) - (-1) * 1 = (1 : R23) by grobner]; decide
    have h2 := KeepsL.then_ (lpN_perm _ _ _ _ n3) (lpN_perm _ _ _ _ n2) h1 (keepL_of (keep_S _ hs))
    rw [lpN_then _ _ _ _ _ _ _ _ n3 n2, show u * 0 + 0 * 1 = (0 : R23) by grobner, show u * -1 + 0 * (d * tn c) = -u by grobner, show (0 : R23) * 0 + 1 * 1 = 1 by decide, show 0 * -1 + 1 * (d * tn c) = d * tn c by grobner] at h2
    have n4 : 0 * (d * tn c) - (-u) * 1 ≠ 0 := by rw [show 0 * (d * tn c) - (-u) * 1 = u by grobner]; exact hs0
    have h3 := KeepsL.then_ (lpN_perm _ _ _ _ n4) (lpN_perm _ _ _ _ (n1 (a * tn c))) h2 (keepL_of (keep_T (a * tn c)))
    rw [lpN_then _ _ _ _ _ _ _ _ n4 (n1 _), ← lpN_scale c _ _ _ _ hc] at h3
    rwa [show c * (1 * 0 + a * tn c * 1) = a by grobner, show c * (1 * -u + a * tn c * (d * tn c)) = b by grobner, show c * (0 * 0 + 1 * 1) = c by grobner, show c * (0 * -u + 1 * (d * tn c)) = d by grobner] at h3
theorem gen_moved : ∀ i : R23, movN (lpN 1 i 0 1) (gL.getD 0 0) = gL.getD i.val 0 := by decide +kernel
theorem gen_wt : ∀ i : R23, pop (gL.getD i.val 0) = 12 := by decide +kernel
end Go.Proofs.YtcfhfllcdliaoaaGreatDoor