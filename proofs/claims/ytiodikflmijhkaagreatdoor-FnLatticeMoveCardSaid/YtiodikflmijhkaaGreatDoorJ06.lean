/- Joined texts: M31 M32 M42 M43. -/
import Derived.Test.YtiodikflmijhkaaGreatDoorJ02
import Derived.Test.YtiodikflmijhkaaGreatDoorJ05
import Derived.Test.YtiodikflmijhkaaGreatDoorJ04
section
namespace Go.Proofs.YtiodikflmijhkaaGreatDoor
set_option linter.unusedVariables false

def PermN (P : List Nat) : Prop := P.length = 24 ∧ P.Nodup ∧ ∀ x ∈ P, x < 24
def pws (P : List Nat) : List Nat := P.map (2 ^ ·)
def movN (P : List Nat) (v : Nat) : Nat := lin (pws P) v
def thenN (P Q : List Nat) : List Nat := P.map fun x => Q.getD x 0
def idN : List Nat := List.range 24
def turnN (P : List Nat) : List Nat := idN.map fun j => P.idxOf j

theorem lin_pow : ∀ (A : List Nat) (i : Nat), lin A (2 ^ i) = A.getD i 0
  | [], i => by simp [lin]
  | a :: A, 0 => by simp [lin, lin_zero]
  | a :: A, i + 1 => by
    have h1 : 2 ^ (i + 1) % 2 = 0 := by rw [Nat.pow_succ]; omega
    have h2 : 2 ^ (i + 1) / 2 = 2 ^ i := by rw [Nat.pow_succ]; omega
    simp only [lin]
    rw [h1, h2, lin_pow A i]
    simp
theorem PermN.get {P : List Nat} (h : PermN P) (i : Nat) (hi : i < 24) : P.getD i 0 < 24 := by
  have : i < P.length := by rw [h.1]; exact hi
  rw [show P.getD i 0 = P[i] by simp [this]]
  exact h.2.2 _ (List.getElem_mem this)
theorem PermN.inj {P : List Nat} (h : PermN P) {i j : Nat} (hi : i < 24) (hj : j < 24) (e : P.getD i 0 = P.getD j 0) : i = j := by
  have h1 : i < P.length := by rw [h.1]; exact hi
  have h2 : j < P.length := by rw [h.1]; exact hj
  rw [show P.getD i 0 = P[i] by simp [h1], show P.getD j 0 = P[j] by simp [h2]] at e
  exact (List.getElem_inj h.2.1).1 e
theorem PermN.all {P : List Nat} (h : PermN P) (q : Nat) (hq : q < 24) : q ∈ P := by
  apply Classical.byContradiction
  intro hn
  have h1 : (q :: P).Nodup := List.nodup_cons.2 ⟨hn, h.2.1⟩
  have h2 := List.Nodup.length_le_of_subset h1 (l₂ := List.range 24) (fun x hx => by
    rcases List.mem_cons.1 hx with rfl | hx
    · exact List.mem_range.2 hq
    · exact List.mem_range.2 (h.2.2 x hx))
  simp [h.1] at h2
theorem PermN.perm {P : List Nat} (h : PermN P) : P.Perm idN :=
  (List.perm_ext_iff_of_nodup h.2.1 List.nodup_range).2 fun x => ⟨fun hx => List.mem_range.2 (h.2.2 x hx), fun hx => h.all x (List.mem_range.1 hx)⟩
theorem PermN.hit {P : List Nat} (h : PermN P) (q : Nat) (hq : q < 24) : ∃ i, i < 24 ∧ P.getD i 0 = q := by
  obtain ⟨i, hi, e⟩ := List.mem_iff_getElem.1 (h.all q hq)
  exact ⟨i, by rw [h.1] at hi; exact hi, by simp [hi, e]⟩
theorem permN_of {P : List Nat} (hl : P.length = 24) (hr : ∀ i, i < 24 → P.getD i 0 < 24) (hi : ∀ i j, i < 24 → j < 24 → P.getD i 0 = P.getD j 0 → i = j) : PermN P := by
  refine ⟨hl, List.nodup_iff_pairwise_ne.2 (List.pairwise_iff_getElem.2 fun i j hi' hj hij => ?_), fun x hx => ?_⟩
  · intro e
    have := hi i j (by omega) (by omega) (by rw [show P.getD i 0 = P[i] by simp [hi'], show P.getD j 0 = P[j] by simp [hj]]; exact e)
    omega
  · obtain ⟨i, hi', e⟩ := List.mem_iff_getElem.1 hx
    have := hr i (by omega)
    rw [show P.getD i 0 = P[i] by simp [hi'], e] at this
    exact this
theorem pws_len (P : List Nat) : (pws P).length = P.length := by simp [pws]
theorem pws_get {P : List Nat} (i : Nat) (h : i < P.length) : (pws P).getD i 0 = 2 ^ P.getD i 0 := by simp [pws, h]
theorem movN_pow {P : List Nat} (i : Nat) (h : i < P.length) : movN P (2 ^ i) = 2 ^ P.getD i 0 := by
  unfold movN
  rw [lin_pow, pws_get i h]
theorem movN_lt {P : List Nat} (h : PermN P) (v : Nat) : movN P v < 16777216 := by
  refine lin_lt 24 (pws P) (fun a ha => ?_) v
  simp only [pws, List.mem_map] at ha
  obtain ⟨x, hx, rfl⟩ := ha
  exact Nat.pow_lt_pow_right (by decide) (h.2.2 x hx)
theorem movN_movN {P : List Nat} (h : PermN P) (Q : List Nat) (hQ : Q.length = 24) (v : Nat) : movN Q (movN P v) = movN (thenN P Q) v := by
  unfold movN
  rw [lin_lin]
  congr 1
  simp only [pws, thenN, List.map_map]
  refine List.map_congr_left fun x hx => ?_
  have := movN_pow (P := Q) x (by rw [hQ]; exact h.2.2 x hx)
  exact this
theorem movN_id (v : Nat) (h : v < 16777216) : movN idN v = v := by
  have e : pws idN = units 0 24 := by decide
  unfold movN
  rw [e, lin_units]
  omega
/-- The bit at the place of i is the bit at i. -/
theorem testBit_lin : ∀ (P : List Nat) (v q : Nat), P.Nodup → ((lin (pws P) v).testBit q = true ↔ ∃ i, i < P.length ∧ P.getD i 0 = q ∧ v.testBit i = true)
  | [], v, q, _ => by simp [pws, lin]
  | a :: P, v, q, hn => by
    have hn' := List.nodup_cons.1 hn
    have ih := testBit_lin P (v / 2) q hn'.2
    have hv : v.testBit 0 = decide (v % 2 = 1) := by simp [Nat.testBit_zero]
    have h0 : (v % 2 * 2 ^ a).testBit q = true ↔ (a = q ∧ v.testBit 0 = true) := by
      have : v % 2 = 0 ∨ v % 2 = 1 := by omega
      rcases this with e | e
      · rw [e, hv]; simp [e]
      · rw [e, hv, Nat.one_mul, Nat.testBit_two_pow]; simp [e]
    have hs : (lin (pws (a :: P)) v) = (v % 2 * 2 ^ a) ^^^ lin (pws P) (v / 2) := rfl
    rw [hs, Nat.testBit_xor]
    have hshift : ∀ i, (v / 2).testBit i = v.testBit (i + 1) := fun i => (Nat.testBit_succ v i).symm
    constructor
    · intro h
      by_cases hx : (v % 2 * 2 ^ a).testBit q = true
      · exact ⟨0, by simp, by simpa using (h0.1 hx).1, (h0.1 hx).2⟩
      · rw [Bool.not_eq_true] at hx
        rw [hx] at h
        obtain ⟨i, hi, e, hb⟩ := ih.1 (by simpa using h)
        exact ⟨i + 1, by simpa using hi, by simpa using e, by rw [← hshift]; exact hb⟩
    · rintro ⟨i, hi, e, hb⟩
      match i, hi, e, hb with
      | 0, _, e, hb =>
        have e' : a = q := by simpa using e
        have h1 := h0.2 ⟨e', hb⟩
        have h2 : (lin (pws P) (v / 2)).testBit q = false := by
          rw [← Bool.not_eq_true]
          intro h3
          obtain ⟨j, hj, ej, _⟩ := ih.1 h3
          refine hn'.1 ?_
          rw [e', ← ej, show P.getD j 0 = P[j] by simp [hj]]
          exact List.getElem_mem hj
        rw [h1, h2]; rfl
      | i + 1, hi, e, hb =>
        have hi' : i < P.length := by simpa using hi
        have h2 := ih.2 ⟨i, hi', by simpa using e, by rw [hshift]; exact hb⟩
        have h1 : (v % 2 * 2 ^ a).testBit q = false := by
          rw [← Bool.not_eq_true]
          intro h3
          have ea := (h0.1 h3).1
          refine hn'.1 ?_
          have e2 : P.getD i 0 = q := by simpa using e
          rw [ea, ← e2, show P.getD i 0 = P[i] by simp [hi']]
          exact List.getElem_mem hi'
        rw [h1, h2]; rfl
theorem movN_bit {P : List Nat} (h : PermN P) (v : Nat) (i : Nat) (hi : i < 24) : (movN P v).testBit (P.getD i 0) = v.testBit i := by
  have hb := testBit_lin P v (P.getD i 0) h.2.1
  rw [Bool.eq_iff_iff]
  constructor
  · intro h1
    obtain ⟨j, hj, e, hv⟩ := hb.1 h1
    rw [h.inj (by rw [h.1] at hj; exact hj) hi e] at hv
    exact hv
  · intro h1
    exact hb.2 ⟨i, by rw [h.1]; exact hi, rfl, h1⟩
theorem thenN_len (P Q : List Nat) : (thenN P Q).length = P.length := by simp [thenN]
theorem thenN_get {P : List Nat} (Q : List Nat) (i : Nat) (h : i < P.length) : (thenN P Q).getD i 0 = Q.getD (P.getD i 0) 0 := by simp [thenN, h]
theorem turnN_len (P : List Nat) : (turnN P).length = 24 := by simp [turnN, idN]
theorem turnN_get {P : List Nat} (j : Nat) (h : j < 24) : (turnN P).getD j 0 = P.idxOf j := by simp [turnN, idN, h]
theorem idx_lt {P : List Nat} (h : PermN P) (j : Nat) (hj : j < 24) : P.idxOf j < 24 := by
  have := List.idxOf_lt_length_of_mem (h.all j hj)
  rw [h.1] at this
  exact this
theorem get_idx {P : List Nat} (h : PermN P) (j : Nat) (hj : j < 24) : P.getD (P.idxOf j) 0 = j := by
  have hl := List.idxOf_lt_length_of_mem (h.all j hj)
  rw [show P.getD (P.idxOf j) 0 = P[P.idxOf j] by simp [hl]]
  exact List.getElem_idxOf hl
theorem idx_get {P : List Nat} (h : PermN P) (i : Nat) (hi : i < 24) : P.idxOf (P.getD i 0) = i :=
  h.inj (idx_lt h _ (h.get i hi)) hi (get_idx h _ (h.get i hi))
theorem turnN_perm {P : List Nat} (h : PermN P) : PermN (turnN P) := by
  refine permN_of (turnN_len P) (fun i hi => ?_) (fun i j hi hj e => ?_)
  · rw [turnN_get i hi]; exact idx_lt h i hi
  · rw [turnN_get i hi, turnN_get j hj] at e
    rw [← get_idx h i hi, ← get_idx h j hj, e]
theorem listN_ext {P Q : List Nat} (hP : P.length = 24) (hQ : Q.length = 24) (h : ∀ i, i < 24 → P.getD i 0 = Q.getD i 0) : P = Q := by
  refine List.ext_getElem (hP.trans hQ.symm) fun i h1 h2 => ?_
  have := h i (by omega)
  rwa [show P.getD i 0 = P[i] by simp [h1], show Q.getD i 0 = Q[i] by simp [h2]] at this
theorem idN_get (i : Nat) (h : i < 24) : idN.getD i 0 = i := by simp [idN, h]
theorem then_turn {P : List Nat} (h : PermN P) : thenN P (turnN P) = idN := by
  refine listN_ext (by rw [thenN_len]; exact h.1) (by simp [idN]) fun i hi => ?_
  rw [thenN_get _ i (by rw [h.1]; exact hi), turnN_get _ (h.get i hi), idx_get h i hi, idN_get i hi]
theorem mov_turn {P : List Nat} (h : PermN P) (v : Nat) (hv : v < 16777216) : movN (turnN P) (movN P v) = v := by
  rw [movN_movN h _ (turnN_len P), then_turn h, movN_id v hv]
def KeepsN (P : List Nat) : Prop := ∀ k, k < 12 → syn (movN P (cN (2 ^ k))) = 0
theorem lin_all_zero : ∀ (A : List Nat), (∀ a ∈ A, a = 0) → ∀ v, lin A v = 0
  | [], _, v => rfl
  | a :: A, h, v => by
    simp only [lin]
    rw [h a List.mem_cons_self, lin_all_zero A (fun x hx => h x (List.mem_cons_of_mem _ hx))]
    simp
theorem KeepsN.all {P : List Nat} (h : KeepsN P) (m : Nat) : syn (movN P (cN m)) = 0 := by
  unfold syn movN cN
  rw [lin_lin, lin_lin]
  refine lin_all_zero _ (fun a ha => ?_) m
  obtain ⟨i, hi, e⟩ := List.mem_iff_getElem.1 ha
  have hi' : i < 12 := by simpa [gB] using hi
  have := h i hi'
  unfold syn movN cN at this
  rw [lin_lin, lin_pow] at this
  rw [← e]
  rw [show gB.getD i 0 = gB[i]'(by simpa [gB] using hi') by simp [show i < gB.length by simpa [gB] using hi']] at this
  simpa using this
theorem KeepsN.word {P : List Nat} (h : KeepsN P) (v : Nat) (hv : v < 16777216) (hs : syn v = 0) : syn (movN P v) = 0 := by
  rw [in_code v hv hs]
  exact h.all _
theorem keepsN_iff {P : List Nat} : KeepsN P ↔ ∀ v, v < 16777216 → syn v = 0 → syn (movN P v) = 0 :=
  ⟨fun h v hv hs => h.word v hv hs, fun h k hk => h _ (cN_lt _) (syn_cN _)⟩
end Go.Proofs.YtiodikflmijhkaaGreatDoor
end

section
namespace Go.Proofs.YtiodikflmijhkaaGreatDoor
set_option linter.unusedVariables false

def itN (P : List Nat) : Nat → Nat → Nat
  | 0, i => i
  | n + 1, i => P.getD (itN P n i) 0
theorem itN_lt {P : List Nat} (h : PermN P) (n i : Nat) (hi : i < 24) : itN P n i < 24 := by
  induction n with
  | zero => exact hi
  | succ n ih => exact h.get _ ih
/-- A set of places is whole: with a place it has the next one, and the one ahead. -/
def Whole (P : List Nat) (s : Nat) : Prop := ∀ j, j < 24 → s.testBit (P.getD j 0) = s.testBit j
theorem Whole.it {P : List Nat} {s : Nat} (hs : Whole P s) (h : PermN P) (a j : Nat) (hj : j < 24) : s.testBit (itN P a j) = s.testBit j := by
  induction a with
  | zero => rfl
  | succ a ih => exact (hs _ (itN_lt h a j hj)).trans ih
end Go.Proofs.YtiodikflmijhkaaGreatDoor
end

section
namespace Go.Proofs.YtiodikflmijhkaaGreatDoor
set_option linter.unusedVariables false
attribute [local irreducible] cN syn

/-! ### Sums -/
def sumZ : Nat → (Nat → Int) → Int
  | 0, _ => 0
  | n + 1, f => sumZ n f + f n
theorem sumZ_ext (n : Nat) (f g : Nat → Int) (h : ∀ p, p < n → f p = g p) : sumZ n f = sumZ n g := by
  induction n with
  | zero => rfl
  | succ n ih => simp only [sumZ]; rw [ih fun p hp => h p (by omega), h n (by omega)]
theorem sumZ_add (n : Nat) (f g : Nat → Int) : sumZ n (fun p => f p + g p) = sumZ n f + sumZ n g := by
  induction n with
  | zero => rfl
  | succ n ih => simp only [sumZ]; omega
theorem sumZ_mul (n : Nat) (c : Int) (f : Nat → Int) : sumZ n (fun p => c * f p) = c * sumZ n f := by
  induction n with
  | zero => simp [sumZ]
  | succ n ih => simp only [sumZ]; rw [ih, Int.mul_add]
theorem sumZ_const (n : Nat) (c : Int) : sumZ n (fun _ => c) = n * c := by
  induction n with
  | zero => simp [sumZ]
  | succ n ih => simp only [sumZ]; rw [ih]; push_cast; grobner
theorem sumZ_nat (n : Nat) (f : Nat → Nat) : sumZ n (fun p => ((f p : Nat) : Int)) = ((sumR n f : Nat) : Int) := by
  induction n with
  | zero => rfl
  | succ n ih => simp only [sumZ, sumR]; rw [ih]; push_cast; rfl
theorem sumZ_one (n q : Nat) (c : Int) (h : q < n) : sumZ n (fun p => if p = q then c else 0) = c := by
  induction n with
  | zero => omega
  | succ n ih =>
    simp only [sumZ]
    by_cases hp : n = q
    · rw [if_pos hp, sumZ_ext n _ (fun _ => 0) (fun p hq => if_neg (by omega)), sumZ_const]; omega
    · rw [if_neg hp, ih (by omega)]; omega
def codeN (c : Nat) : Prop := c < 16777216 ∧ codeInB (c : Int) = true
theorem codeN_zero : codeN 0 := ⟨by omega, by decide +kernel⟩
theorem codeN_all : codeN 16777215 := ⟨by omega, code_all⟩
theorem codeN.xor {a b : Nat} (ha : codeN a) (hb : codeN b) : codeN (a ^^^ b) := by
  refine ⟨Nat.xor_lt_two_pow (n := 24) ha.1 hb.1, ?_⟩
  have := code_sum (a : Int) (b : Int) (by omega) (by have := ha.1; omega) (by omega) (by have := hb.1; omega) ha.2 hb.2
  simpa [xorI] using this
theorem codeN.wt {c : Nat} (h : codeN c) : pop c = 0 ∨ pop c = 8 ∨ pop c = 12 ∨ pop c = 16 ∨ pop c = 24 := by
  have := code_wtI (c : Int) (by omega) (by have := h.1; omega) h.2
  rw [wt_pop] at this
  omega
def bZ (c p : Nat) : Int := ((bN c p : Nat) : Int)
theorem bZ_01 (c p : Nat) : bZ c p = 0 ∨ bZ c p = 1 := by unfold bZ; have := bN_le c p; omega
theorem bZ_yes {c p : Nat} (h : c.testBit p = true) : bZ c p = 1 := by simp [bZ, bN, h]
theorem bZ_no {c p : Nat} (h : c.testBit p = false) : bZ c p = 0 := by simp [bZ, bN, h]
theorem bZ_sum (c : Nat) : sumZ 24 (bZ c) = ((pop c : Nat) : Int) := by rw [pop_sum]; exact sumZ_nat 24 (bN c)
theorem codeN.sum {c : Nat} (h : codeN c) : sumZ 24 (bZ c) % 4 = 0 := by rw [bZ_sum]; have := h.wt; omega
theorem bZ_xor (a b p : Nat) : bZ (a ^^^ b) p = bZ a p + bZ b p - 2 * (bZ a p * bZ b p) := by
  unfold bZ bN
  rw [Nat.testBit_xor]
  cases a.testBit p <;> cases b.testBit p <;> simp
theorem codeN.meet {a b : Nat} (ha : codeN a) (hb : codeN b) : sumZ 24 (fun p => bZ a p * bZ b p) % 2 = 0 := by
  have h1 := (ha.xor hb).sum
  have e : sumZ 24 (bZ (a ^^^ b)) = sumZ 24 (bZ a) + sumZ 24 (bZ b) + (-2) * sumZ 24 (fun p => bZ a p * bZ b p) := by
    rw [← sumZ_mul, ← sumZ_add, ← sumZ_add]
    exact sumZ_ext 24 _ _ fun p _ => by rw [bZ_xor]; omega
  have := ha.sum
  have := hb.sum
  omega
theorem testBit_all (p : Nat) : (16777215 : Nat).testBit p = decide (p < 24) := by
  have := Nat.testBit_two_pow_sub_one 24 p
  rw [show (2 : Nat) ^ 24 - 1 = 16777215 by decide] at this
  exact this
theorem lt_bit {c p : Nat} (h : c < 16777216) (hp : 24 ≤ p) : c.testBit p = false :=
  Nat.testBit_lt_two_pow (Nat.lt_of_lt_of_le h (by rw [show 16777216 = 2 ^ 24 by decide]; exact Nat.pow_le_pow_right (by decide) hp))

/-! ### The lattice -/
def LatOf (v : Nat → Int) (m c : Nat) (x : Nat → Int) : Prop :=
  (m = 0 ∨ m = 1) ∧ codeN c ∧ (∀ p, p < 24 → v p = m + 2 * bZ c p + 4 * x p) ∧ sumZ 24 x % 2 = m
def LatF (v : Nat → Int) : Prop := ∃ m c x, LatOf v m c x
theorem LatF.congr {u v : Nat → Int} (h : LatF u) (e : ∀ p, p < 24 → v p = u p) : LatF v := by
  obtain ⟨m, c, x, h1, h2, h3, h4⟩ := h
  exact ⟨m, c, x, h1, h2, fun p hp => (e p hp).trans (h3 p hp), h4⟩
/-- The places whose number has a rest. -/
def restN (v : Nat → Int) (r : Int) : Nat → Nat
  | 0 => 0
  | k + 1 => restN v r k + if v k % 4 = r then 2 ^ k else 0
theorem restN_lt (v : Nat → Int) (r : Int) : ∀ k, restN v r k < 2 ^ k
  | 0 => by simp [restN]
  | k + 1 => by
    have := restN_lt v r k
    rw [restN, Nat.pow_succ]
    split <;> omega
theorem restN_bit (v : Nat → Int) (r : Int) : ∀ k p, (restN v r k).testBit p = decide (p < k ∧ v p % 4 = r)
  | 0, p => by simp [restN]
  | k + 1, p => by
    have ih := restN_bit v r k
    have hl := restN_lt v r k
    rw [restN]
    by_cases h : v k % 4 = r
    · rw [if_pos h, Nat.add_comm]
      by_cases e : p = k
      · subst e
        rw [Nat.testBit_two_pow_add_eq, Nat.testBit_lt_two_pow hl]
        simp [h]
      · by_cases hp : p < k
        · rw [Nat.testBit_two_pow_add_gt hp, ih]
          simp [hp, show p < k + 1 by omega]
        · have h1 : (2 ^ k + restN v r k).testBit p = false := Nat.testBit_lt_two_pow (Nat.lt_of_lt_of_le (show 2 ^ k + restN v r k < 2 ^ (k + 1) by rw [Nat.pow_succ]; omega) (Nat.pow_le_pow_right (by decide) (by omega)))
          rw [h1]
          simp [show ¬ p < k + 1 by omega]
    · rw [if_neg h, Nat.add_zero, ih]
      by_cases e : p = k
      · subst e; simp [h]
      · simp [show p < k + 1 ↔ p < k by omega]
theorem restN_lt24 (v : Nat → Int) (r : Int) : restN v r 24 < 16777216 := restN_lt v r 24
theorem bits_eq {a b : Nat} (ha : a < 16777216) (hb : b < 16777216) (h : ∀ p, p < 24 → a.testBit p = b.testBit p) : a = b := by
  refine Nat.eq_of_testBit_eq fun p => ?_
  by_cases hp : p < 24
  · exact h p hp
  · rw [lt_bit ha (by omega), lt_bit hb (by omega)]
def inF (v : Nat → Int) : Bool :=
  codeInB (restN v 0 24 : Nat) && codeInB (restN v 1 24 : Nat) && codeInB (restN v 2 24 : Nat) && codeInB (restN v 3 24 : Nat) &&
  (if restN v 1 24 ^^^ restN v 3 24 = 0 then decide (sumZ 24 v % 8 = 0) else if restN v 1 24 ^^^ restN v 3 24 = 16777215 then decide (sumZ 24 v % 8 = 4) else false)
theorem lat_sum {v : Nat → Int} {m c : Nat} {x : Nat → Int} (h : ∀ p, p < 24 → v p = m + 2 * bZ c p + 4 * x p) : sumZ 24 v = 24 * m + 2 * sumZ 24 (bZ c) + 4 * sumZ 24 x := by
  rw [sumZ_ext 24 v (fun p => (m + 2 * bZ c p) + 4 * x p) h, sumZ_add, sumZ_add, sumZ_mul, sumZ_mul, sumZ_const]
  rfl
theorem rest13 (v : Nat → Int) (p : Nat) (hp : p < 24) : (restN v 1 24 ^^^ restN v 3 24).testBit p = decide (v p % 2 = 1) := by
  rw [Nat.testBit_xor, restN_bit, restN_bit]
  have h : v p % 4 = 0 ∨ v p % 4 = 1 ∨ v p % 4 = 2 ∨ v p % 4 = 3 := by omega
  have h2 : v p % 2 = v p % 4 % 2 := by omega
  rcases h with h | h | h | h <;> simp [h2, h, hp]
theorem inF_iff (v : Nat → Int) : inF v = true ↔ LatF v := by
  have b13 := rest13 v
  have l13 : restN v 1 24 ^^^ restN v 3 24 < 16777216 := Nat.xor_lt_two_pow (n := 24) (restN_lt24 v 1) (restN_lt24 v 3)
  constructor
  · intro h
    simp only [inF, Bool.and_eq_true] at h
    obtain ⟨⟨⟨⟨c0, c1⟩, c2⟩, c3⟩, hs⟩ := h
    by_cases e0 : restN v 1 24 ^^^ restN v 3 24 = 0
    · rw [if_pos e0, decide_eq_true_eq] at hs
      have hev : ∀ p, p < 24 → v p % 2 = 0 := fun p hp => by
        have := b13 p hp
        rw [e0, Nat.zero_testBit] at this
        have := of_decide_eq_false this.symm
        omega
      have hx : ∀ p, p < 24 → v p = ((0 : Nat) : Int) + 2 * bZ (restN v 2 24) p + 4 * ((v p - 2 * bZ (restN v 2 24) p) / 4) := fun p hp => by
        have h1 := hev p hp
        by_cases h2 : v p % 4 = 2
        · rw [bZ_yes (by rw [restN_bit]; simp [hp, h2])]; omega
        · rw [bZ_no (by rw [restN_bit]; simp [hp, h2])]; omega
      have hc : codeN (restN v 2 24) := ⟨restN_lt24 v 2, c2⟩
      refine ⟨0, restN v 2 24, _, .inl rfl, hc, hx, ?_⟩
      have := lat_sum hx
      have := hc.sum
      omega
    · rw [if_neg e0] at hs
      by_cases e1 : restN v 1 24 ^^^ restN v 3 24 = 16777215
      · rw [if_pos e1, decide_eq_true_eq] at hs
        have hod : ∀ p, p < 24 → v p % 2 = 1 := fun p hp => by
          have := b13 p hp
          rw [e1, testBit_all, decide_eq_true hp] at this
          exact of_decide_eq_true this.symm
        have hx : ∀ p, p < 24 → v p = ((1 : Nat) : Int) + 2 * bZ (restN v 3 24) p + 4 * ((v p - 1 - 2 * bZ (restN v 3 24) p) / 4) := fun p hp => by
          have h1 := hod p hp
          by_cases h2 : v p % 4 = 3
          · rw [bZ_yes (by rw [restN_bit]; simp [hp, h2])]; omega
          · rw [bZ_no (by rw [restN_bit]; simp [hp, h2])]; omega
        have hc : codeN (restN v 3 24) := ⟨restN_lt24 v 3, c3⟩
        refine ⟨1, restN v 3 24, _, .inr rfl, hc, hx, ?_⟩
        have := lat_sum hx
        have := hc.sum
        omega
      · rw [if_neg e1] at hs
        exact absurd hs (by simp)
  · rintro ⟨m, c, x, hm, hc, hx, hs⟩
    have hsum := lat_sum hx
    have hcs := hc.sum
    have hco : codeN (c ^^^ 16777215) := hc.xor codeN_all
    have hcb : ∀ p, p < 24 → bZ c p = if c.testBit p then 1 else 0 := fun p hp => by
      cases h : c.testBit p
      · rw [bZ_no h]; rfl
      · rw [bZ_yes h]; rfl
    rcases hm with rfl | rfl
    · have r0 : restN v 0 24 = c ^^^ 16777215 := bits_eq (restN_lt24 v 0) hco.1 fun p hp => by
        have := hx p hp
        rw [hcb p hp] at this
        rw [restN_bit, Nat.testBit_xor, testBit_all]
        cases h : c.testBit p <;> simp [h, hp] at this ⊢ <;> omega
      have r1 : restN v 1 24 = 0 := bits_eq (restN_lt24 v 1) (by omega) fun p hp => by
        have := hx p hp
        rw [hcb p hp] at this
        rw [restN_bit, Nat.zero_testBit]
        cases h : c.testBit p <;> simp [h, hp] at this ⊢ <;> omega
      have r2 : restN v 2 24 = c := bits_eq (restN_lt24 v 2) hc.1 fun p hp => by
        have := hx p hp
        rw [hcb p hp] at this
        rw [restN_bit]
        cases h : c.testBit p <;> simp [h, hp] at this ⊢ <;> omega
      have r3 : restN v 3 24 = 0 := bits_eq (restN_lt24 v 3) (by omega) fun p hp => by
        have := hx p hp
        rw [hcb p hp] at this
        rw [restN_bit, Nat.zero_testBit]
        cases h : c.testBit p <;> simp [h, hp] at this ⊢ <;> omega
      simp only [inF, r0, r1, r2, r3, hco.2, codeN_zero.2, hc.2, Bool.true_and, Nat.xor_self, if_true, decide_eq_true_eq]
      omega
    · have r0 : restN v 0 24 = 0 := bits_eq (restN_lt24 v 0) (by omega) fun p hp => by
        have := hx p hp
        rw [hcb p hp] at this
        rw [restN_bit, Nat.zero_testBit]
        cases h : c.testBit p <;> simp [h, hp] at this ⊢ <;> omega
      have r1 : restN v 1 24 = c ^^^ 16777215 := bits_eq (restN_lt24 v 1) hco.1 fun p hp => by
        have := hx p hp
        rw [hcb p hp] at this
        rw [restN_bit, Nat.testBit_xor, testBit_all]
        cases h : c.testBit p <;> simp [h, hp] at this ⊢ <;> omega
      have r2 : restN v 2 24 = 0 := bits_eq (restN_lt24 v 2) (by omega) fun p hp => by
        have := hx p hp
        rw [hcb p hp] at this
        rw [restN_bit, Nat.zero_testBit]
        cases h : c.testBit p <;> simp [h, hp] at this ⊢ <;> omega
      have r3 : restN v 3 24 = c := bits_eq (restN_lt24 v 3) hc.1 fun p hp => by
        have := hx p hp
        rw [hcb p hp] at this
        rw [restN_bit]
        cases h : c.testBit p <;> simp [h, hp] at this ⊢ <;> omega
      have e : c ^^^ 16777215 ^^^ c = 16777215 := by rw [Nat.xor_comm c, Nat.xor_assoc, Nat.xor_self, Nat.xor_zero]
      simp only [inF, r0, r1, r2, r3, hco.2, codeN_zero.2, hc.2, Bool.true_and, e]
      rw [if_neg (by omega), if_pos trivial, decide_eq_true_eq]
      omega
theorem LatF.add {u v : Nat → Int} (hu : LatF u) (hv : LatF v) : LatF (fun p => u p + v p) := by
  obtain ⟨m, c, x, hm, hc, hx, hs⟩ := hu
  obtain ⟨m', c', x', hm', hc', hx', hs'⟩ := hv
  have key : ∀ (j c'' : Nat), (j = 0 ∨ j = 1) → codeN c'' → (∀ p, p < 24 → (bZ c p + bZ c' p + j) % 2 = bZ c'' p) → ∀ m'' : Nat, m'' + 2 * j = m + m' → (m'' = 0 ∨ m'' = 1) → LatF (fun p => u p + v p) := fun j c'' hj hc'' hb m'' hm2 hm01 => by
    refine ⟨m'', c'', fun p => x p + x' p + (bZ c p + bZ c' p + j) / 2, hm01, hc'', fun p hp => ?_, ?_⟩
    · have h1 := hx p hp
      have h2 := hx' p hp
      have h3 := hb p hp
      show u p + v p = (m'' : Int) + 2 * bZ c'' p + 4 * (x p + x' p + (bZ c p + bZ c' p + j) / 2)
      omega
    · have e : sumZ 24 (bZ c) + sumZ 24 (bZ c') + 24 * j = sumZ 24 (bZ c'') + 2 * sumZ 24 (fun p => (bZ c p + bZ c' p + j) / 2) := by
        rw [← sumZ_mul, ← sumZ_add, ← sumZ_add]
        have := sumZ_add 24 (fun p => bZ c p + bZ c' p) (fun _ => (j : Int))
        rw [sumZ_const] at this
        rw [← show ((24 : Nat) : Int) = 24 from rfl, ← this]
        exact sumZ_ext 24 _ _ fun p hp => by have := hb p hp; omega
      rw [sumZ_add, sumZ_add]
      have h1 := hc.sum
      have h2 := hc'.sum
      have h3 := hc''.sum
      omega
  by_cases h2 : m = 1 ∧ m' = 1
  · refine key 1 (c ^^^ c' ^^^ 16777215) (.inr rfl) ((hc.xor hc').xor codeN_all) (fun p hp => ?_) 0 (by omega) (.inl rfl)
    rw [bZ_xor, bZ_xor, bZ_yes (c := 16777215) (by rw [testBit_all]; simp [hp])]
    rcases bZ_01 c p with h | h <;> rcases bZ_01 c' p with h' | h' <;> rw [h, h'] <;> decide
  · refine key 0 (c ^^^ c') (.inl rfl) (hc.xor hc') (fun p hp => ?_) (m + m') (by omega) (by omega)
    rw [bZ_xor]
    rcases bZ_01 c p with h | h <;> rcases bZ_01 c' p with h' | h' <;> rw [h, h'] <;> decide
def flipF (f : Nat) (v : Nat → Int) (p : Nat) : Int := if f.testBit p then -v p else v p
theorem LatF.inner {u v : Nat → Int} (hu : LatF u) (hv : LatF v) : sumZ 24 (fun p => u p * v p) % 8 = 0 := by
  obtain ⟨m, c, x, hm, hc, hx, hs⟩ := hu
  obtain ⟨m', c', x', hm', hc', hx', hs'⟩ := hv
  have e : sumZ 24 (fun p => u p * v p) = 24 * (m * m') + 2 * (m * sumZ 24 (bZ c')) + 4 * (m * sumZ 24 x') + 2 * (m' * sumZ 24 (bZ c)) + 4 * (m' * sumZ 24 x) + 4 * sumZ 24 (fun p => bZ c p * bZ c' p) + 8 * sumZ 24 (fun p => bZ c p * x' p + x p * bZ c' p + 2 * (x p * x' p)) := by
    have hk : (24 : Int) * (m * m') = sumZ 24 (fun _ => (m : Int) * m') := by rw [sumZ_const]; rfl
    rw [hk]
    simp only [← sumZ_mul, ← sumZ_add]
    exact sumZ_ext 24 _ _ fun p hp => by
      show u p * v p = _
      rw [hx p hp, hx' p hp]
      grobner
  rw [e]
  have h1 := hc.sum
  have h2 := hc'.sum
  have h3 := hc.meet hc'
  rcases hm with rfl | rfl <;> rcases hm' with rfl | rfl <;> simp only [Int.natCast_zero, Int.natCast_one, Int.zero_mul, Int.one_mul, Int.mul_zero, Int.mul_one] <;> simp only [Int.natCast_zero, Int.natCast_one] at hs hs' <;> omega
theorem LatF.zero : LatF (fun _ => 0) := ⟨0, 0, fun _ => 0, .inl rfl, codeN_zero, fun p hp => by simp [bZ, bN], by rw [sumZ_const]; rfl⟩
theorem LatF.octad {w : Nat} {e : Nat → Int} (hw : codeN w) (hs : sumZ 24 (fun p => bZ w p * e p) % 2 = 0) : LatF (fun p => 2 * bZ w p - 4 * (bZ w p * e p)) := by
  refine ⟨0, w, fun p => (-1) * (bZ w p * e p), .inl rfl, hw, fun p hp => ?_, ?_⟩
  · show 2 * bZ w p - 4 * (bZ w p * e p) = ((0 : Nat) : Int) + 2 * bZ w p + 4 * ((-1) * (bZ w p * e p))
    omega
  · rw [sumZ_mul]; omega
theorem LatF.four {a b : Nat} (ha : a < 24) (hb : b < 24) (hab : a ≠ b) (x y : Int) (hx : x = 4 ∨ x = -4) (hy : y = 4 ∨ y = -4) : LatF (fun p => if p = b then y else if p = a then x else 0) := by
  refine ⟨0, 0, fun p => (if p = b then y / 4 else 0) + (if p = a then x / 4 else 0), .inl rfl, codeN_zero, fun p hp => ?_, ?_⟩
  · show (if p = b then y else if p = a then x else 0) = _
    by_cases h : p = b
    · have h2 : p ≠ a := by omega
      simp only [h, if_true, if_neg (Ne.symm hab), bZ, bN]
      simp
      omega
    · by_cases h2 : p = a
      · simp only [h2, if_true, if_neg hab, bZ, bN]
        simp
        omega
      · simp [h, h2, bZ, bN]
  · rw [sumZ_add, sumZ_one 24 b _ hb, sumZ_one 24 a _ ha]
    omega
end Go.Proofs.YtiodikflmijhkaaGreatDoor
end

section
namespace Go.Proofs.YtiodikflmijhkaaGreatDoor
set_option linter.unusedVariables false
attribute [local irreducible] cN syn

def atL (xs : List Int) (p : Nat) : Int := xs.getD p 0
def vL (f : Nat → Int) : List Int := (List.range 24).map f
theorem vL_len (f : Nat → Int) : (vL f).length = 24 := by simp [vL]
theorem vL_get (f : Nat → Int) (p : Nat) (h : p < 24) : (vL f).getD p 0 = f p := by simp [vL, h]
theorem atL_vL (f : Nat → Int) (p : Nat) (h : p < 24) : atL (vL f) p = f p := vL_get f p h
theorem vL_ext (f g : Nat → Int) (h : ∀ p, p < 24 → f p = g p) : vL f = vL g := List.map_congr_left fun p hp => h p (List.mem_range.1 hp)
theorem listI_ext {a b : List Int} (ha : a.length = 24) (hb : b.length = 24) (h : ∀ p, p < 24 → a.getD p 0 = b.getD p 0) : a = b := by
  refine List.ext_getElem (by omega) fun i h1 h2 => ?_
  have := h i (by omega)
  simpa [h1, h2] using this
def okN (x : Int) : Bool := decide (-100000 ≤ x ∧ x ≤ 100000)
def vecB (xs : List Int) : Bool := decide (xs.length = 24) && xs.all okN
theorem vecB_len {xs : List Int} (h : vecB xs = true) : xs.length = 24 := by
  simp only [vecB, Bool.and_eq_true, decide_eq_true_eq] at h
  exact h.1
theorem vecB_rng {xs : List Int} (h : vecB xs = true) (p : Nat) : -100000 ≤ atL xs p ∧ atL xs p ≤ 100000 := by
  simp only [vecB, Bool.and_eq_true, decide_eq_true_eq, List.all_eq_true] at h
  by_cases hp : p < xs.length
  · have := h.2 xs[p] (List.getElem_mem hp)
    simp only [okN, decide_eq_true_eq] at this
    have e : atL xs p = xs[p] := by simp [atL, hp]
    rw [e]; exact this
  · have e : atL xs p = 0 := by simp [atL, List.getD, List.getElem?_eq_none (show xs.length ≤ p by omega)]
    omega
theorem vecB_of {xs : List Int} (h : xs.length = 24) (hr : ∀ p, p < 24 → -100000 ≤ atL xs p ∧ atL xs p ≤ 100000) : vecB xs = true := by
  simp only [vecB, Bool.and_eq_true, decide_eq_true_eq, List.all_eq_true]
  refine ⟨h, fun x hx => ?_⟩
  obtain ⟨p, hp, rfl⟩ := List.getElem_of_mem hx
  have := hr p (by omega)
  have e : atL xs p = xs[p] := by simp [atL, hp]
  rw [e] at this
  simpa [okN] using this
def latB (xs : List Int) : Bool := vecB xs && inF (atL xs)
/-- The signs of an octad: the last one makes the minus signs even. -/
def sgnN (s : Nat) : Nat := s + pop s % 2 * 128
def octV (w s p : Nat) : Int := if w.testBit p then (if (sgnN s).testBit (popN p w) then -2 else 2) else 0
def threeV (q p : Nat) : Int := if p = q then -3 else 1
def fourS (b : Bool) : Int := if b then -4 else 4
def fourV (a b : Nat) (f g : Bool) (p : Nat) : Int := if p = b then fourS g else if p = a then fourS f else 0
def shapeL (xs : List Int) : List Int := (vL fun p => max (atL xs p) (-atL xs p)).mergeSort fun x y => decide (x ≤ y)
def lvOct (w s : Int) : List Int × Bool := if (cIn w && decide (wt w = 8)) && decide (0 ≤ s ∧ s ≤ 127) then (vL (octV w.toNat s.toNat), true) else ([], false)
def lvThree (w q : Int) : List Int × Bool := if cIn w && decide (0 ≤ q ∧ q ≤ 23) then (vL (flipF w.toNat (threeV q.toNat)), true) else ([], false)
def lvFour (a b : Int) (f g : Bool) : List Int × Bool := if decide (0 ≤ a ∧ a ≤ 23) && decide (0 ≤ b ∧ b ≤ 23) && decide (a ≠ b) then (vL (fourV a.toNat b.toNat f g), true) else ([], false)
def lvShape (xs : List Int) : List Int × Bool := if vecB xs then (shapeL xs, true) else ([], false)

/-! ### What the laws ask -/
theorem shape_len (xs : List Int) : (shapeL xs).length = 24 := by unfold shapeL; rw [List.length_mergeSort, vL_len]
end Go.Proofs.YtiodikflmijhkaaGreatDoor
end
