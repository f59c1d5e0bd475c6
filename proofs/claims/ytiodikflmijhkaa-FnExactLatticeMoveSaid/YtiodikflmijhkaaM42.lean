/- The lattice: vectors as functions of 24 places; when one is in it; sums, signs, inner products, squares. No program is named here. -/
import Derived.Test.YtiodikflmijhkaaP3
namespace Go.Proofs.Ytiodikflmijhkaa
set_option linter.unusedVariables false
attribute [local irreducible] cN syn

/-! ### Sums -/
def sumZ : Nat → (Nat → Int) → Int
  | 0, _ => 0
  | n + 1, f => sumZ n f + f n
theorem sumZ_ext (n : Nat) (f g : Nat → Int) (h : ∀ p, p < n → f p = g p) : sumZ n f = sumZ n g := by
  induction n with
  | zero => rfl
  | succ n ih => simp only [sumZ]; rw [ih fun p hp => h p (by omega), h n (by omega)]
theorem sumZ_add (n : Nat) (f g : Nat → Int) : sumZ n (fun p => f p + g p) = sumZ n f + sumZ n g := by
  induction n with
  | zero => rfl
  | succ n ih => simp only [sumZ]; omega
theorem sumZ_mul (n : Nat) (c : Int) (f : Nat → Int) : sumZ n (fun p => c * f p) = c * sumZ n f := by
  induction n with
  | zero => simp [sumZ]
  | succ n ih => simp only [sumZ]; rw [ih, Int.mul_add]
theorem sumZ_const (n : Nat) (c : Int) : sumZ n (fun _ => c) = n * c := by
  induction n with
  | zero => simp [sumZ]
  | succ n ih => simp only [sumZ]; rw [ih]; push_cast; grobner
theorem sumZ_nat (n : Nat) (f : Nat → Nat) : sumZ n (fun p => ((f p : Nat) : Int)) = ((sumR n f : Nat) : Int) := by
  induction n with
  | zero => rfl
  | succ n ih => simp only [sumZ, sumR]; rw [ih]; push_cast; rfl
theorem sumZ_nonneg (n : Nat) (f : Nat → Int) (h : ∀ p, p < n → 0 ≤ f p) : 0 ≤ sumZ n f := by
  induction n with
  | zero => simp [sumZ]
  | succ n ih => simp only [sumZ]; have := ih fun p hp => h p (by omega); have := h n (by omega); omega
theorem sumZ_le (n : Nat) (f g : Nat → Int) (h : ∀ p, p < n → f p ≤ g p) : sumZ n f ≤ sumZ n g := by
  induction n with
  | zero => simp [sumZ]
  | succ n ih => simp only [sumZ]; have := ih fun p hp => h p (by omega); have := h n (by omega); omega
theorem sumZ_at (n : Nat) (f : Nat → Int) (h : ∀ p, p < n → 0 ≤ f p) (q : Nat) (hq : q < n) : f q ≤ sumZ n f := by
  induction n with
  | zero => omega
  | succ n ih =>
    simp only [sumZ]
    have h0 := sumZ_nonneg n f fun p hp => h p (by omega)
    have h1 := h n (by omega)
    by_cases e : q = n
    · subst e; omega
    · have := ih (fun p hp => h p (by omega)) (by omega); omega
theorem sumZ_one (n q : Nat) (c : Int) (h : q < n) : sumZ n (fun p => if p = q then c else 0) = c := by
  induction n with
  | zero => omega
  | succ n ih =>
    simp only [sumZ]
    by_cases hp : n = q
    · rw [if_pos hp, sumZ_ext n _ (fun _ => 0) (fun p hq => if_neg (by omega)), sumZ_const]; omega
    · rw [if_neg hp, ih (by omega)]; omega
theorem sq_nonneg (x : Int) : 0 ≤ x * x := by
  rcases Int.le_total 0 x with h | h
  · exact Int.mul_nonneg h h
  · have := Int.mul_nonneg (show 0 ≤ -x by omega) (show 0 ≤ -x by omega)
    rwa [Int.neg_mul_neg] at this
/-- The square of an inner product is at most the product of both squares. -/
theorem cauchy (n : Nat) (f g : Nat → Int) : sumZ n (fun p => f p * g p) * sumZ n (fun p => f p * g p) ≤ sumZ n (fun p => f p * f p) * sumZ n (fun p => g p * g p) := by
  induction n with
  | zero => simp [sumZ]
  | succ n ih =>
    have hd : ∀ (a b : Int), 0 ≤ sumZ n (fun p => f p * f p) * (b * b) - 2 * (a * b * sumZ n (fun p => f p * g p)) + a * a * sumZ n (fun p => g p * g p) := fun a b => by
      have e : sumZ n (fun p => (f p * b - a * g p) * (f p * b - a * g p)) = sumZ n (fun p => f p * f p) * (b * b) - 2 * (a * b * sumZ n (fun p => f p * g p)) + a * a * sumZ n (fun p => g p * g p) := by
        clear ih
        induction n with
        | zero => simp [sumZ]
        | succ n ih => simp only [sumZ]; rw [ih]; grobner
      rw [← e]
      exact sumZ_nonneg n _ fun p _ => sq_nonneg _
    have h := hd (f n) (g n)
    simp only [sumZ]
    generalize sumZ n (fun p => f p * f p) = A at *
    generalize sumZ n (fun p => g p * g p) = B at *
    generalize sumZ n (fun p => f p * g p) = C at *
    generalize f n = a at *
    generalize g n = b at *
    have e : (A + a * a) * (B + b * b) - (C + a * b) * (C + a * b) = (A * B - C * C) + (A * (b * b) - 2 * (a * b * C) + a * a * B) := by grobner
    have h2 : 0 ≤ A * B - C * C := by omega
    have h3 : 0 ≤ (A + a * a) * (B + b * b) - (C + a * b) * (C + a * b) := by rw [e]; exact Int.add_nonneg h2 h
    omega

/-! ### Words of the code as numbers -/
def codeN (c : Nat) : Prop := c < 16777216 ∧ codeInB (c : Int) = true
theorem codeN_zero : codeN 0 := ⟨by omega, by decide +kernel⟩
theorem codeN_all : codeN 16777215 := ⟨by omega, code_all⟩
theorem codeN.xor {a b : Nat} (ha : codeN a) (hb : codeN b) : codeN (a ^^^ b) := by
  refine ⟨Nat.xor_lt_two_pow (n := 24) ha.1 hb.1, ?_⟩
  have := code_sum (a : Int) (b : Int) (by omega) (by have := ha.1; omega) (by omega) (by have := hb.1; omega) ha.2 hb.2
  simpa [xorI] using this
theorem codeN.wt {c : Nat} (h : codeN c) : pop c = 0 ∨ pop c = 8 ∨ pop c = 12 ∨ pop c = 16 ∨ pop c = 24 := by
  have := code_wtI (c : Int) (by omega) (by have := h.1; omega) h.2
  rw [wt_pop] at this
  omega
def bZ (c p : Nat) : Int := ((bN c p : Nat) : Int)
theorem bZ_01 (c p : Nat) : bZ c p = 0 ∨ bZ c p = 1 := by unfold bZ; have := bN_le c p; omega
theorem bZ_yes {c p : Nat} (h : c.testBit p = true) : bZ c p = 1 := by simp [bZ, bN, h]
theorem bZ_no {c p : Nat} (h : c.testBit p = false) : bZ c p = 0 := by simp [bZ, bN, h]
theorem bZ_sum (c : Nat) : sumZ 24 (bZ c) = ((pop c : Nat) : Int) := by rw [pop_sum]; exact sumZ_nat 24 (bN c)
theorem codeN.sum {c : Nat} (h : codeN c) : sumZ 24 (bZ c) % 4 = 0 := by rw [bZ_sum]; have := h.wt; omega
theorem bZ_xor (a b p : Nat) : bZ (a ^^^ b) p = bZ a p + bZ b p - 2 * (bZ a p * bZ b p) := by
  unfold bZ bN
  rw [Nat.testBit_xor]
  cases a.testBit p <;> cases b.testBit p <;> simp
theorem codeN.meet {a b : Nat} (ha : codeN a) (hb : codeN b) : sumZ 24 (fun p => bZ a p * bZ b p) % 2 = 0 := by
  have h1 := (ha.xor hb).sum
  have e : sumZ 24 (bZ (a ^^^ b)) = sumZ 24 (bZ a) + sumZ 24 (bZ b) + (-2) * sumZ 24 (fun p => bZ a p * bZ b p) := by
    rw [← sumZ_mul, ← sumZ_add, ← sumZ_add]
    exact sumZ_ext 24 _ _ fun p _ => by rw [bZ_xor]; omega
  have := ha.sum
  have := hb.sum
  omega
theorem testBit_all (p : Nat) : (16777215 : Nat).testBit p = decide (p < 24) := by
  have := Nat.testBit_two_pow_sub_one 24 p
  rw [show (2 : Nat) ^ 24 - 1 = 16777215 by decide] at this
  exact this
theorem lt_bit {c p : Nat} (h : c < 16777216) (hp : 24 ≤ p) : c.testBit p = false :=
  Nat.testBit_lt_two_pow (Nat.lt_of_lt_of_le h (by rw [show 16777216 = 2 ^ 24 by decide]; exact Nat.pow_le_pow_right (by decide) hp))

/-! ### The lattice -/
def LatOf (v : Nat → Int) (m c : Nat) (x : Nat → Int) : Prop :=
  (m = 0 ∨ m = 1) ∧ codeN c ∧ (∀ p, p < 24 → v p = m + 2 * bZ c p + 4 * x p) ∧ sumZ 24 x % 2 = m
def LatF (v : Nat → Int) : Prop := ∃ m c x, LatOf v m c x
theorem LatF.congr {u v : Nat → Int} (h : LatF u) (e : ∀ p, p < 24 → v p = u p) : LatF v := by
  obtain ⟨m, c, x, h1, h2, h3, h4⟩ := h
  exact ⟨m, c, x, h1, h2, fun p hp => (e p hp).trans (h3 p hp), h4⟩
/-- The places whose number has a rest. -/
def restN (v : Nat → Int) (r : Int) : Nat → Nat
  | 0 => 0
  | k + 1 => restN v r k + if v k % 4 = r then 2 ^ k else 0
theorem restN_lt (v : Nat → Int) (r : Int) : ∀ k, restN v r k < 2 ^ k
  | 0 => by simp [restN]
  | k + 1 => by
    have := restN_lt v r k
    rw [restN, Nat.pow_succ]
    split <;> omega
theorem restN_bit (v : Nat → Int) (r : Int) : ∀ k p, (restN v r k).testBit p = decide (p < k ∧ v p % 4 = r)
  | 0, p => by simp [restN]
  | k + 1, p => by
    have ih := restN_bit v r k
    have hl := restN_lt v r k
    rw [restN]
    by_cases h : v k % 4 = r
    · rw [if_pos h, Nat.add_comm]
      by_cases e : p = k
      · subst e
        rw [Nat.testBit_two_pow_add_eq, Nat.testBit_lt_two_pow hl]
        simp [h]
      · by_cases hp : p < k
        · rw [Nat.testBit_two_pow_add_gt hp, ih]
          simp [hp, show p < k + 1 by omega]
        · have h1 : (2 ^ k + restN v r k).testBit p = false := Nat.testBit_lt_two_pow (Nat.lt_of_lt_of_le (show 2 ^ k + restN v r k < 2 ^ (k + 1) by rw [Nat.pow_succ]; omega) (Nat.pow_le_pow_right (by decide) (by omega)))
          rw [h1]
          simp [show ¬ p < k + 1 by omega]
    · rw [if_neg h, Nat.add_zero, ih]
      by_cases e : p = k
      · subst e; simp [h]
      · simp [show p < k + 1 ↔ p < k by omega]
theorem restN_lt24 (v : Nat → Int) (r : Int) : restN v r 24 < 16777216 := restN_lt v r 24
theorem bits_eq {a b : Nat} (ha : a < 16777216) (hb : b < 16777216) (h : ∀ p, p < 24 → a.testBit p = b.testBit p) : a = b := by
  refine Nat.eq_of_testBit_eq fun p => ?_
  by_cases hp : p < 24
  · exact h p hp
  · rw [lt_bit ha (by omega), lt_bit hb (by omega)]
def inF (v : Nat → Int) : Bool :=
  codeInB (restN v 0 24 : Nat) && codeInB (restN v 1 24 : Nat) && codeInB (restN v 2 24 : Nat) && codeInB (restN v 3 24 : Nat) &&
  (if restN v 1 24 ^^^ restN v 3 24 = 0 then decide (sumZ 24 v % 8 = 0) else if restN v 1 24 ^^^ restN v 3 24 = 16777215 then decide (sumZ 24 v % 8 = 4) else false)
theorem lat_sum {v : Nat → Int} {m c : Nat} {x : Nat → Int} (h : ∀ p, p < 24 → v p = m + 2 * bZ c p + 4 * x p) : sumZ 24 v = 24 * m + 2 * sumZ 24 (bZ c) + 4 * sumZ 24 x := by
  rw [sumZ_ext 24 v (fun p => (m + 2 * bZ c p) + 4 * x p) h, sumZ_add, sumZ_add, sumZ_mul, sumZ_mul, sumZ_const]
  rfl
theorem rest13 (v : Nat → Int) (p : Nat) (hp : p < 24) : (restN v 1 24 ^^^ restN v 3 24).testBit p = decide (v p % 2 = 1) := by
  rw [Nat.testBit_xor, restN_bit, restN_bit]
  have h : v p % 4 = 0 ∨ v p % 4 = 1 ∨ v p % 4 = 2 ∨ v p % 4 = 3 := by omega
  have h2 : v p % 2 = v p % 4 % 2 := by omega
  rcases h with h | h | h | h <;> simp [h2, h, hp]
theorem inF_iff (v : Nat → Int) : inF v = true ↔ LatF v := by
  have b13 := rest13 v
  have l13 : restN v 1 24 ^^^ restN v 3 24 < 16777216 := Nat.xor_lt_two_pow (n := 24) (restN_lt24 v 1) (restN_lt24 v 3)
  constructor
  · intro h
    simp only [inF, Bool.and_eq_true] at h
    obtain ⟨⟨⟨⟨c0, c1⟩, c2⟩, c3⟩, hs⟩ := h
    by_cases e0 : restN v 1 24 ^^^ restN v 3 24 = 0
    · rw [if_pos e0, decide_eq_true_eq] at hs
      have hev : ∀ p, p < 24 → v p % 2 = 0 := fun p hp => by
        have := b13 p hp
        rw [e0, Nat.zero_testBit] at this
        have := of_decide_eq_false this.symm
        omega
      have hx : ∀ p, p < 24 → v p = ((0 : Nat) : Int) + 2 * bZ (restN v 2 24) p + 4 * ((v p - 2 * bZ (restN v 2 24) p) / 4) := fun p hp => by
        have h1 := hev p hp
        by_cases h2 : v p % 4 = 2
        · rw [bZ_yes (by rw [restN_bit]; simp [hp, h2])]; omega
        · rw [bZ_no (by rw [restN_bit]; simp [hp, h2])]; omega
      have hc : codeN (restN v 2 24) := ⟨restN_lt24 v 2, c2⟩
      refine ⟨0, restN v 2 24, _, .inl rfl, hc, hx, ?_⟩
      have := lat_sum hx
      have := hc.sum
      omega
    · rw [if_neg e0] at hs
      by_cases e1 : restN v 1 24 ^^^ restN v 3 24 = 16777215
      · rw [if_pos e1, decide_eq_true_eq] at hs
        have hod : ∀ p, p < 24 → v p % 2 = 1 := fun p hp => by
          have := b13 p hp
          rw [e1, testBit_all, decide_eq_true hp] at this
          exact of_decide_eq_true this.symm
        have hx : ∀ p, p < 24 → v p = ((1 : Nat) : Int) + 2 * bZ (restN v 3 24) p + 4 * ((v p - 1 - 2 * bZ (restN v 3 24) p) / 4) := fun p hp => by
          have h1 := hod p hp
          by_cases h2 : v p % 4 = 3
          · rw [bZ_yes (by rw [restN_bit]; simp [hp, h2])]; omega
          · rw [bZ_no (by rw [restN_bit]; simp [hp, h2])]; omega
        have hc : codeN (restN v 3 24) := ⟨restN_lt24 v 3, c3⟩
        refine ⟨1, restN v 3 24, _, .inr rfl, hc, hx, ?_⟩
        have := lat_sum hx
        have := hc.sum
        omega
      · rw [if_neg e1] at hs
        exact absurd hs (by simp)
  · rintro ⟨m, c, x, hm, hc, hx, hs⟩
    have hsum := lat_sum hx
    have hcs := hc.sum
    have hco : codeN (c ^^^ 16777215) := hc.xor codeN_all
    have hcb : ∀ p, p < 24 → bZ c p = if c.testBit p then 1 else 0 := fun p hp => by
      cases h : c.testBit p
      · rw [bZ_no h]; rfl
      · rw [bZ_yes h]; rfl
    rcases hm with rfl | rfl
    · have r0 : restN v 0 24 = c ^^^ 16777215 := bits_eq (restN_lt24 v 0) hco.1 fun p hp => by
        have := hx p hp
        rw [hcb p hp] at this
        rw [restN_bit, Nat.testBit_xor, testBit_all]
        cases h : c.testBit p <;> simp [h, hp] at this ⊢ <;> omega
      have r1 : restN v 1 24 = 0 := bits_eq (restN_lt24 v 1) (by omega) fun p hp => by
        have := hx p hp
        rw [hcb p hp] at this
        rw [restN_bit, Nat.zero_testBit]
        cases h : c.testBit p <;> simp [h, hp] at this ⊢ <;> omega
      have r2 : restN v 2 24 = c := bits_eq (restN_lt24 v 2) hc.1 fun p hp => by
        have := hx p hp
        rw [hcb p hp] at this
        rw [restN_bit]
        cases h : c.testBit p <;> simp [h, hp] at this ⊢ <;> omega
      have r3 : restN v 3 24 = 0 := bits_eq (restN_lt24 v 3) (by omega) fun p hp => by
        have := hx p hp
        rw [hcb p hp] at this
        rw [restN_bit, Nat.zero_testBit]
        cases h : c.testBit p <;> simp [h, hp] at this ⊢ <;> omega
      simp only [inF, r0, r1, r2, r3, hco.2, codeN_zero.2, hc.2, Bool.true_and, Nat.xor_self, if_true, decide_eq_true_eq]
      omega
    · have r0 : restN v 0 24 = 0 := bits_eq (restN_lt24 v 0) (by omega) fun p hp => by
        have := hx p hp
        rw [hcb p hp] at this
        rw [restN_bit, Nat.zero_testBit]
        cases h : c.testBit p <;> simp [h, hp] at this ⊢ <;> omega
      have r1 : restN v 1 24 = c ^^^ 16777215 := bits_eq (restN_lt24 v 1) hco.1 fun p hp => by
        have := hx p hp
        rw [hcb p hp] at this
        rw [restN_bit, Nat.testBit_xor, testBit_all]
        cases h : c.testBit p <;> simp [h, hp] at this ⊢ <;> omega
      have r2 : restN v 2 24 = 0 := bits_eq (restN_lt24 v 2) (by omega) fun p hp => by
        have := hx p hp
        rw [hcb p hp] at this
        rw [restN_bit, Nat.zero_testBit]
        cases h : c.testBit p <;> simp [h, hp] at this ⊢ <;> omega
      have r3 : restN v 3 24 = c := bits_eq (restN_lt24 v 3) hc.1 fun p hp => by
        have := hx p hp
        rw [hcb p hp] at this
        rw [restN_bit]
        cases h : c.testBit p <;> simp [h, hp] at this ⊢ <;> omega
      have e : c ^^^ 16777215 ^^^ c = 16777215 := by rw [Nat.xor_comm c, Nat.xor_assoc, Nat.xor_self, Nat.xor_zero]
      simp only [inF, r0, r1, r2, r3, hco.2, codeN_zero.2, hc.2, Bool.true_and, e]
      rw [if_neg (by omega), if_pos trivial, decide_eq_true_eq]
      omega
/-- The model asks the first number's rest first. -/
def modF (v : Nat → Int) : Bool :=
  if v 0 % 2 = 0 then decide (restN v 1 24 = 0) && decide (restN v 3 24 = 0) && (codeInB (restN v 0 24 : Nat) && codeInB (restN v 2 24 : Nat) && decide (sumZ 24 v % 8 = 0))
  else decide (restN v 0 24 = 0) && decide (restN v 2 24 = 0) && (codeInB (restN v 1 24 : Nat) && codeInB (restN v 3 24 : Nat) && decide (sumZ 24 v % 8 = 4))
theorem modF_is (v : Nat → Int) : modF v = inF v := by
  have b13 := rest13 v
  have z0 : codeInB ((0 : Nat) : Int) = true := codeN_zero.2
  unfold modF
  by_cases h0 : v 0 % 2 = 0
  · rw [if_pos h0]
    have hb : (restN v 1 24 ^^^ restN v 3 24).testBit 0 = false := by rw [b13 0 (by omega)]; simp [h0]
    have hn : restN v 1 24 ^^^ restN v 3 24 ≠ 16777215 := fun e => by rw [e] at hb; simp at hb
    by_cases e : restN v 1 24 ^^^ restN v 3 24 = 0
    · have hz : ∀ p, p < 24 → v p % 2 = 0 := fun p hp => by
        have := b13 p hp
        rw [e, Nat.zero_testBit] at this
        have := of_decide_eq_false this.symm
        omega
      have r1 : restN v 1 24 = 0 := bits_eq (restN_lt24 v 1) (by omega) fun p hp => by
        rw [restN_bit, Nat.zero_testBit]; have := hz p hp; simp; omega
      have r3 : restN v 3 24 = 0 := bits_eq (restN_lt24 v 3) (by omega) fun p hp => by
        rw [restN_bit, Nat.zero_testBit]; have := hz p hp; simp; omega
      have z1 : codeInB 0 = true := z0
      simp [inF, r1, r3, z1, Bool.and_assoc]
    · have : ¬ (restN v 1 24 = 0 ∧ restN v 3 24 = 0) := fun ⟨a, b⟩ => e (by rw [a, b]; rfl)
      simp only [inF, if_neg e, if_neg hn, Bool.and_false]
      simp only [Bool.and_eq_false_iff, decide_eq_false_iff_not]
      by_cases a : restN v 1 24 = 0
      · exact .inl (.inr fun b => this ⟨a, b⟩)
      · exact .inl (.inl a)
  · rw [if_neg h0]
    have hb : (restN v 1 24 ^^^ restN v 3 24).testBit 0 = true := by rw [b13 0 (by omega)]; simp; omega
    have hn : restN v 1 24 ^^^ restN v 3 24 ≠ 0 := fun e => by rw [e] at hb; simp at hb
    by_cases e : restN v 1 24 ^^^ restN v 3 24 = 16777215
    · have hz : ∀ p, p < 24 → v p % 2 = 1 := fun p hp => by
        have := b13 p hp
        rw [e, testBit_all, decide_eq_true hp] at this
        exact of_decide_eq_true this.symm
      have r1 : restN v 0 24 = 0 := bits_eq (restN_lt24 v 0) (by omega) fun p hp => by
        rw [restN_bit, Nat.zero_testBit]; have := hz p hp; simp; omega
      have r3 : restN v 2 24 = 0 := bits_eq (restN_lt24 v 2) (by omega) fun p hp => by
        rw [restN_bit, Nat.zero_testBit]; have := hz p hp; simp; omega
      have z1 : codeInB 0 = true := z0
      simp [inF, r1, r3, z1, e, Bool.and_assoc]
    · have : ¬ (restN v 0 24 = 0 ∧ restN v 2 24 = 0) := fun ⟨a, b⟩ => e (by
        refine bits_eq (Nat.xor_lt_two_pow (n := 24) (restN_lt24 v 1) (restN_lt24 v 3)) (by omega) fun p hp => ?_
        rw [b13 p hp, testBit_all]
        have h1 := restN_bit v 0 24 p
        have h2 := restN_bit v 2 24 p
        rw [a, Nat.zero_testBit] at h1
        rw [b, Nat.zero_testBit] at h2
        have h1 := of_decide_eq_false h1.symm
        have h2 := of_decide_eq_false h2.symm
        simp [hp] at h1 h2 ⊢
        omega)
      simp only [inF, if_neg e, if_neg hn, Bool.and_false]
      simp only [Bool.and_eq_false_iff, decide_eq_false_iff_not]
      by_cases a : restN v 0 24 = 0
      · exact .inl (.inr fun b => this ⟨a, b⟩)
      · exact .inl (.inl a)

/-! ### What is made of vectors of the lattice -/
theorem LatF.add {u v : Nat → Int} (hu : LatF u) (hv : LatF v) : LatF (fun p => u p + v p) := by
  obtain ⟨m, c, x, hm, hc, hx, hs⟩ := hu
  obtain ⟨m', c', x', hm', hc', hx', hs'⟩ := hv
  have key : ∀ (j c'' : Nat), (j = 0 ∨ j = 1) → codeN c'' → (∀ p, p < 24 → (bZ c p + bZ c' p + j) % 2 = bZ c'' p) → ∀ m'' : Nat, m'' + 2 * j = m + m' → (m'' = 0 ∨ m'' = 1) → LatF (fun p => u p + v p) := fun j c'' hj hc'' hb m'' hm2 hm01 => by
    refine ⟨m'', c'', fun p => x p + x' p + (bZ c p + bZ c' p + j) / 2, hm01, hc'', fun p hp => ?_, ?_⟩
    · have h1 := hx p hp
      have h2 := hx' p hp
      have h3 := hb p hp
      show u p + v p = (m'' : Int) + 2 * bZ c'' p + 4 * (x p + x' p + (bZ c p + bZ c' p + j) / 2)
      omega
    · have e : sumZ 24 (bZ c) + sumZ 24 (bZ c') + 24 * j = sumZ 24 (bZ c'') + 2 * sumZ 24 (fun p => (bZ c p + bZ c' p + j) / 2) := by
        rw [← sumZ_mul, ← sumZ_add, ← sumZ_add]
        have := sumZ_add 24 (fun p => bZ c p + bZ c' p) (fun _ => (j : Int))
        rw [sumZ_const] at this
        rw [← show ((24 : Nat) : Int) = 24 from rfl, ← this]
        exact sumZ_ext 24 _ _ fun p hp => by have := hb p hp; omega
      rw [sumZ_add, sumZ_add]
      have h1 := hc.sum
      have h2 := hc'.sum
      have h3 := hc''.sum
      omega
  by_cases h2 : m = 1 ∧ m' = 1
  · refine key 1 (c ^^^ c' ^^^ 16777215) (.inr rfl) ((hc.xor hc').xor codeN_all) (fun p hp => ?_) 0 (by omega) (.inl rfl)
    rw [bZ_xor, bZ_xor, bZ_yes (c := 16777215) (by rw [testBit_all]; simp [hp])]
    rcases bZ_01 c p with h | h <;> rcases bZ_01 c' p with h' | h' <;> rw [h, h'] <;> decide
  · refine key 0 (c ^^^ c') (.inl rfl) (hc.xor hc') (fun p hp => ?_) (m + m') (by omega) (by omega)
    rw [bZ_xor]
    rcases bZ_01 c p with h | h <;> rcases bZ_01 c' p with h' | h' <;> rw [h, h'] <;> decide
def flipF (f : Nat) (v : Nat → Int) (p : Nat) : Int := if f.testBit p then -v p else v p
theorem flipF_twice (f : Nat) (v : Nat → Int) (p : Nat) : flipF f (flipF f v) p = v p := by
  unfold flipF
  cases f.testBit p <;> simp
theorem flipF_sq (f : Nat) (v : Nat → Int) (p : Nat) : flipF f v p * flipF f v p = v p * v p := by
  unfold flipF
  cases f.testBit p
  · simp
  · simp only [if_true]; exact Int.neg_mul_neg _ _
theorem LatF.flip {v : Nat → Int} {f : Nat} (hv : LatF v) (hf : codeN f) : LatF (flipF f v) := by
  obtain ⟨m, c, x, hm, hc, hx, hs⟩ := hv
  have hmt := hc.meet hf
  have hfs := hf.sum
  rcases hm with rfl | rfl
  · refine ⟨0, c, fun p => x p + (-1) * (bZ c p * bZ f p) + 2 * ((-1) * (bZ f p * x p)), .inl rfl, hc, fun p hp => ?_, ?_⟩
    · have := hx p hp
      show (if f.testBit p then -v p else v p) = ((0 : Nat) : Int) + 2 * bZ c p + 4 * (x p + (-1) * (bZ c p * bZ f p) + 2 * ((-1) * (bZ f p * x p)))
      cases h : f.testBit p
      · rw [bZ_no h]; simp; omega
      · rw [bZ_yes h]; simp; omega
    · rw [sumZ_add, sumZ_add, sumZ_mul, sumZ_mul]
      omega
  · refine ⟨1, c ^^^ f, fun p => x p + (-1) * bZ f p + 2 * ((-1) * (bZ f p * x p)), .inr rfl, hc.xor hf, fun p hp => ?_, ?_⟩
    · have := hx p hp
      show (if f.testBit p then -v p else v p) = ((1 : Nat) : Int) + 2 * bZ (c ^^^ f) p + 4 * (x p + (-1) * bZ f p + 2 * ((-1) * (bZ f p * x p)))
      rw [bZ_xor]
      cases h : f.testBit p
      · rw [bZ_no h]; simp; omega
      · rw [bZ_yes h]; simp; omega
    · rw [sumZ_add, sumZ_add, sumZ_mul, sumZ_mul]
      omega
theorem LatF.flip_iff (v : Nat → Int) {f : Nat} (hf : codeN f) : LatF (flipF f v) ↔ LatF v :=
  ⟨fun h => (h.flip hf).congr fun p _ => (flipF_twice f v p).symm, fun h => h.flip hf⟩
theorem inF_congr {u v : Nat → Int} (e : ∀ p, p < 24 → v p = u p) : inF v = inF u := by
  rw [Bool.eq_iff_iff, inF_iff, inF_iff]
  exact ⟨fun h => h.congr fun p hp => (e p hp).symm, fun h => h.congr e⟩
theorem inF_flip (v : Nat → Int) {f : Nat} (hf : codeN f) : inF (flipF f v) = inF v := by
  rw [Bool.eq_iff_iff, inF_iff, inF_iff]
  exact LatF.flip_iff v hf
theorem LatF.inner {u v : Nat → Int} (hu : LatF u) (hv : LatF v) : sumZ 24 (fun p => u p * v p) % 8 = 0 := by
  obtain ⟨m, c, x, hm, hc, hx, hs⟩ := hu
  obtain ⟨m', c', x', hm', hc', hx', hs'⟩ := hv
  have e : sumZ 24 (fun p => u p * v p) = 24 * (m * m') + 2 * (m * sumZ 24 (bZ c')) + 4 * (m * sumZ 24 x') + 2 * (m' * sumZ 24 (bZ c)) + 4 * (m' * sumZ 24 x) + 4 * sumZ 24 (fun p => bZ c p * bZ c' p) + 8 * sumZ 24 (fun p => bZ c p * x' p + x p * bZ c' p + 2 * (x p * x' p)) := by
    have hk : (24 : Int) * (m * m') = sumZ 24 (fun _ => (m : Int) * m') := by rw [sumZ_const]; rfl
    rw [hk]
    simp only [← sumZ_mul, ← sumZ_add]
    exact sumZ_ext 24 _ _ fun p hp => by
      show u p * v p = _
      rw [hx p hp, hx' p hp]
      grobner
  rw [e]
  have h1 := hc.sum
  have h2 := hc'.sum
  have h3 := hc.meet hc'
  rcases hm with rfl | rfl <;> rcases hm' with rfl | rfl <;> simp only [Int.natCast_zero, Int.natCast_one, Int.zero_mul, Int.one_mul, Int.mul_zero, Int.mul_one] <;> simp only [Int.natCast_zero, Int.natCast_one] at hs hs' <;> omega
theorem sq_par (x : Int) : x * x % 2 = x % 2 := by
  have h : x % 2 = 0 ∨ x % 2 = 1 := by omega
  rw [Int.mul_emod]
  rcases h with h | h <;> rw [h] <;> rfl
theorem sumZ_sq_par (n : Nat) (x : Nat → Int) : sumZ n (fun p => x p * x p) % 2 = sumZ n x % 2 := by
  induction n with
  | zero => rfl
  | succ n ih => simp only [sumZ]; have := sq_par (x n); omega
theorem LatF.square {v : Nat → Int} (hv : LatF v) : sumZ 24 (fun p => v p * v p) % 16 = 0 ∧ sumZ 24 (fun p => v p * v p) ≠ 16 := by
  obtain ⟨m, c, x, hm, hc, hx, hs⟩ := hv
  have e : sumZ 24 (fun p => v p * v p) = 24 * (m * m) + 4 * sumZ 24 (bZ c) + 4 * (m * sumZ 24 (bZ c)) + 8 * (m * sumZ 24 x) + 16 * sumZ 24 (fun p => x p * x p + bZ c p * x p) := by
    have hk : (24 : Int) * (m * m) = sumZ 24 (fun _ => (m : Int) * m) := by rw [sumZ_const]; rfl
    rw [hk]
    simp only [← sumZ_mul, ← sumZ_add]
    exact sumZ_ext 24 _ _ fun p hp => by
      show v p * v p = _
      have hb : bZ c p * bZ c p = bZ c p := by rcases bZ_01 c p with h | h <;> rw [h] <;> rfl
      rw [hx p hp]
      generalize bZ c p = b at *
      grobner
  have h1 := hc.sum
  refine ⟨?_, fun e16 => ?_⟩
  · rw [e]
    rcases hm with rfl | rfl <;> simp only [Int.natCast_zero, Int.natCast_one, Int.zero_mul, Int.one_mul, Int.mul_zero, Int.mul_one] <;> simp only [Int.natCast_zero, Int.natCast_one] at hs <;> omega
  · rcases hm with rfl | rfl
    · have hge : sumZ 24 (fun p => 4 * bZ c p) ≤ sumZ 24 (fun p => v p * v p) := sumZ_le 24 _ _ fun p hp => by
        have hv := hx p hp
        rcases bZ_01 c p with h | h
        · rw [h]; have := sq_nonneg (v p); omega
        · rw [h] at hv ⊢
          have ev : v p = 2 + 4 * x p := by omega
          have e1 : v p * v p = 4 + 16 * (x p * x p + x p) := by rw [ev]; grobner
          have e2 : 0 ≤ x p * x p + x p := by
            rcases Int.lt_or_le (x p) 0 with h | h
            · have := Int.mul_nonneg (show 0 ≤ -x p by omega) (show 0 ≤ -x p - 1 by omega)
              have e3 : -x p * (-x p - 1) = x p * x p + x p := by grobner
              omega
            · have := sq_nonneg (x p); omega
          omega
      rw [sumZ_mul, bZ_sum, e16] at hge
      have hw := hc.wt
      have hw0 : pop c = 0 := by omega
      have hz : ∀ p, p < 24 → bZ c p = 0 := fun p hp => by
        have h1 := bZ_sum c
        rw [hw0] at h1
        have h2 := sumZ_at 24 (bZ c) (fun q _ => by rcases bZ_01 c q with h | h <;> omega) p hp
        rcases bZ_01 c p with h | h
        · exact h
        · omega
      have e2 : sumZ 24 (fun p => v p * v p) = 16 * sumZ 24 (fun p => x p * x p) := by
        rw [← sumZ_mul]
        exact sumZ_ext 24 _ _ fun p hp => by
          show v p * v p = _
          have ev : v p = 4 * x p := by have := hx p hp; rw [hz p hp] at this; omega
          rw [ev]; grobner
      have := sumZ_sq_par 24 x
      omega
    · have hge : sumZ 24 (fun _ => 1) ≤ sumZ 24 (fun p => v p * v p) := sumZ_le 24 _ _ fun p hp => by
        have hv := hx p hp
        have hodd : v p % 2 = 1 := by omega
        have h1 := sq_par (v p)
        have h2 := sq_nonneg (v p)
        omega
      rw [sumZ_const, e16] at hge
      omega
theorem LatF.zero : LatF (fun _ => 0) := ⟨0, 0, fun _ => 0, .inl rfl, codeN_zero, fun p hp => by simp [bZ, bN], by rw [sumZ_const]; rfl⟩
theorem LatF.octad {w : Nat} {e : Nat → Int} (hw : codeN w) (hs : sumZ 24 (fun p => bZ w p * e p) % 2 = 0) : LatF (fun p => 2 * bZ w p - 4 * (bZ w p * e p)) := by
  refine ⟨0, w, fun p => (-1) * (bZ w p * e p), .inl rfl, hw, fun p hp => ?_, ?_⟩
  · show 2 * bZ w p - 4 * (bZ w p * e p) = ((0 : Nat) : Int) + 2 * bZ w p + 4 * ((-1) * (bZ w p * e p))
    omega
  · rw [sumZ_mul]; omega
theorem LatF.three {q : Nat} (hq : q < 24) : LatF (fun p => if p = q then -3 else 1) := by
  refine ⟨1, 0, fun p => if p = q then -1 else 0, .inr rfl, codeN_zero, fun p hp => ?_, ?_⟩
  · show (if p = q then (-3 : Int) else 1) = _
    by_cases h : p = q <;> simp [h, bZ, bN]
  · rw [sumZ_one 24 q (-1) hq]; rfl
theorem LatF.four {a b : Nat} (ha : a < 24) (hb : b < 24) (hab : a ≠ b) (x y : Int) (hx : x = 4 ∨ x = -4) (hy : y = 4 ∨ y = -4) : LatF (fun p => if p = b then y else if p = a then x else 0) := by
  refine ⟨0, 0, fun p => (if p = b then y / 4 else 0) + (if p = a then x / 4 else 0), .inl rfl, codeN_zero, fun p hp => ?_, ?_⟩
  · show (if p = b then y else if p = a then x else 0) = _
    by_cases h : p = b
    · have h2 : p ≠ a := by omega
      simp only [h, if_true, if_neg (Ne.symm hab), bZ, bN]
      simp
      omega
    · by_cases h2 : p = a
      · simp only [h2, if_true, if_neg hab, bZ, bN]
        simp
        omega
      · simp [h, h2, bZ, bN]
  · rw [sumZ_add, sumZ_one 24 b _ hb, sumZ_one 24 a _ ha]
    omega
end Go.Proofs.Ytiodikflmijhkaa
