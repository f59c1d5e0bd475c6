/- How octads meet; counted by one place more. No program is named here. -/
import Derived.Test.YtiinekoepoonfabDoorM21
namespace Go.Proofs.YtiinekoepoonfabDoor
set_option linter.unusedVariables false
attribute [local irreducible] octS cN octF

def sumL (f : Int → Nat) : List Int → Nat
  | [] => 0
  | x :: L => sumL f L + f x
theorem and_sum (x w : Nat) : pop (x &&& w) = sumR 24 (fun p => if w.testBit p then bN x p else 0) := by
  rw [pop_sum]
  refine sumR_ext 24 _ _ fun p _ => ?_
  unfold bN
  rw [Nat.testBit_and]
  cases x.testBit p <;> cases w.testBit p <;> rfl
theorem sumL_bits (w : Nat) (L : List Int) : sumL (fun x => pop (x.toNat &&& w)) L = sumR 24 (fun p => if w.testBit p then L.countP (fun x => x.toNat.testBit p) else 0) := by
  induction L with
  | nil => simp [sumL, sumR_zero]
  | cons x L ih =>
    simp only [sumL]
    rw [ih, and_sum, ← sumR_add]
    refine sumR_ext 24 _ _ fun p _ => ?_
    by_cases hw : w.testBit p = true
    · simp only [hw, if_true, List.countP_cons, bN]
    · simp [hw]
theorem sumL_sq (w : Nat) (L : List Int) : sumL (fun x => pop (x.toNat &&& w) * pop (x.toNat &&& w)) L = sumR 24 (fun p => if w.testBit p then sumL (fun x => pop (x.toNat &&& w)) (L.filter fun x => x.toNat.testBit p) else 0) := by
  induction L with
  | nil => simp [sumL, sumR_zero]
  | cons x L ih =>
    simp only [sumL]
    rw [ih]
    have h : pop (x.toNat &&& w) * pop (x.toNat &&& w) = sumR 24 (fun p => pop (x.toNat &&& w) * (if w.testBit p then bN x.toNat p else 0)) := by rw [sumR_mul, ← and_sum]
    rw [h, ← sumR_add]
    refine sumR_ext 24 _ _ fun p _ => ?_
    by_cases hw : w.testBit p = true
    · by_cases hx : x.toNat.testBit p = true
      · simp [hw, hx, sumL, bN]
      · simp [hw, hx, bN]
    · simp [hw]
theorem one_place (x p : Nat) : x.testBit p = decide (x &&& 2 ^ p = 2 ^ p) := by
  have := and_or_bit x 0 p
  simpa using this
theorem pow_lt24 (p : Nat) (hp : p < 24) : 2 ^ p < 16777216 := by
  have h : 2 ^ p < 2 ^ 24 := Nat.pow_lt_pow_right (by decide) hp
  omega
theorem pop_pow (p : Nat) (hp : p < 24) : pop (2 ^ p) = 1 := by
  have h := pop_or 0 p hp (Nat.zero_testBit p)
  rw [Nat.zero_or, pop_zero_] at h
  exact h
theorem oct_place (p : Nat) (hp : p < 24) : octS.countP (fun x => x.toNat.testBit p) = 253 := by
  rw [List.countP_eq_length_filter, ← thr1 (2 ^ p) (pow_lt24 p hp) (pop_pow p hp)]
  unfold thr
  exact congrArg List.length (List.filter_congr fun x _ => one_place _ _)
theorem oct_places (p q : Nat) (hp : p < 24) (hq : q < 24) : (octS.filter fun x => x.toNat.testBit p).countP (fun x => x.toNat.testBit q) = if q = p then 253 else 77 := by
  rw [List.countP_eq_length_filter, List.filter_filter]
  by_cases h : q = p
  · rw [if_pos h, ← oct_place p hp, List.countP_eq_length_filter, h]
    exact congrArg List.length (List.filter_congr fun x _ => by simp)
  · rw [if_neg h, ← thr2 (2 ^ p ||| 2 ^ q) (or_lt _ q (pow_lt24 p hp) hq) (by rw [pop_or _ q hq (by rw [bit_pow2]; simp; omega), pop_pow p hp])]
    unfold thr
    refine congrArg List.length (List.filter_congr fun x _ => ?_)
    rw [← and_or_bit, ← one_place, Bool.and_comm]
theorem oct_s1 (w : Nat) (h8 : pop w = 8) : sumL (fun x => pop (x.toNat &&& w)) octS = 2024 := by
  rw [sumL_bits, sumR_ext 24 _ (fun p => 253 * bN w p)]
  · rw [sumR_mul, ← pop_sum, h8]
  · intro p hp
    unfold bN
    rw [oct_place p hp]
    split <;> rfl
theorem oct_s2 (w : Nat) (h8 : pop w = 8) : sumL (fun x => pop (x.toNat &&& w) * pop (x.toNat &&& w)) octS = 6336 := by
  rw [sumL_sq, sumR_ext 24 _ (fun p => 792 * bN w p)]
  · rw [sumR_mul, ← pop_sum, h8]
  · intro p hp
    unfold bN
    by_cases hw : w.testBit p = true
    · rw [if_pos hw, if_pos hw, sumL_bits, sumR_ext 24 _ (fun q => 77 * bN w q + 176 * (if q = p then 1 else 0))]
      · rw [sumR_add, sumR_mul, sumR_mul, ← pop_sum, h8, sumR_one 24 p hp]
      · intro q hq
        rw [oct_places p q hp hq]
        unfold bN
        by_cases e : q = p
        · subst e; simp [hw]
        · simp only [e, if_false]
          split <;> rfl
    · rw [if_neg hw, if_neg hw]
theorem four_kinds (g : Int → Nat) : ∀ L : List Int, (∀ x ∈ L, g x = 0 ∨ g x = 2 ∨ g x = 4 ∨ g x = 8) →
    L.length = L.countP (fun x => g x == 0) + L.countP (fun x => g x == 2) + L.countP (fun x => g x == 4) + L.countP (fun x => g x == 8) ∧
    sumL g L = 2 * L.countP (fun x => g x == 2) + 4 * L.countP (fun x => g x == 4) + 8 * L.countP (fun x => g x == 8) ∧
    sumL (fun x => g x * g x) L = 4 * L.countP (fun x => g x == 2) + 16 * L.countP (fun x => g x == 4) + 64 * L.countP (fun x => g x == 8) := by
  intro L
  induction L with
  | nil => intro _; simp [sumL]
  | cons x L ih =>
    intro h
    obtain ⟨h1, h2, h3⟩ := ih fun y hy => h y (List.mem_cons_of_mem _ hy)
    simp only [List.length_cons, List.countP_cons, sumL]
    rcases h x (List.mem_cons_self ..) with e | e | e | e <;> rw [e] <;> simp <;> omega
theorem oct_meets (w : Nat) (hw : ∃ m : Nat, m < 4096 ∧ w = cN m) (h8 : pop w = 8) : ∀ x ∈ octS, pop (x.toNat &&& w) = 0 ∨ pop (x.toNat &&& w) = 2 ∨ pop (x.toNat &&& w) = 4 ∨ pop (x.toNat &&& w) = 8 := by
  intro x hx
  obtain ⟨m, hm, rfl⟩ := hw
  obtain ⟨n, hn, _, e, p8⟩ := oct_nat hx
  rw [e]
  have h1 := pop_xor (cN n) (cN m)
  rw [← cN_xor] at h1
  have h2 := (code_wts (n ^^^ m) (xor_lt12 n m hn hm)).1
  omega
theorem oct_eight (w : Nat) (hw : ∃ m : Nat, m < 4096 ∧ w = cN m) (h8 : pop w = 8) : octS.countP (fun x => pop (x.toNat &&& w) == 8) = 1 := by
  have hlt : w < 16777216 := by obtain ⟨m, _, rfl⟩ := hw; exact cN_lt m
  rw [List.countP_eq_length_filter]
  have e : (octS.filter fun x => pop (x.toNat &&& w) == 8) = thr w := by
    unfold thr
    refine List.filter_congr fun x hx => ?_
    rw [Bool.eq_iff_iff]
    simp only [beq_iff_eq, decide_eq_true_eq]
    constructor
    · intro h
      exact sub_eq (and_sub' _ _) (Nat.lt_of_le_of_lt Nat.and_le_right hlt) hlt (by omega)
    · intro h
      rw [h, h8]
  rw [e]
  have h1 := thr_le w (by omega)
  obtain ⟨m, hm, hwm⟩ := hw
  have hin : ((cN m : Nat) : Int) ∈ thr w := by
    refine thr_mem.2 ⟨nat_oct hm (by rw [← hwm]; exact h8), ?_⟩
    rw [Int.toNat_natCast, hwm]
    exact sub_of fun p hp => hp
  have h2 := List.length_pos_of_mem hin
  omega
theorem oct_counts (w : Nat) (hw : ∃ m : Nat, m < 4096 ∧ w = cN m) (h8 : pop w = 8) :
    octS.countP (fun x => pop (x.toNat &&& w) == 0) = 30 ∧ octS.countP (fun x => pop (x.toNat &&& w) == 2) = 448 ∧ octS.countP (fun x => pop (x.toNat &&& w) == 4) = 280 ∧ octS.countP (fun x => pop (x.toNat &&& w) == 8) = 1 := by
  obtain ⟨h1, h2, h3⟩ := four_kinds (fun x => pop (x.toNat &&& w)) octS (oct_meets w hw h8)
  have h4 := oct_eight w hw h8
  rw [octS_759] at h1
  rw [oct_s1 w h8] at h2
  rw [oct_s2 w h8] at h3
  rw [h4] at h1 h2 h3
  omega
theorem oct_none (w : Nat) (hw : ∃ m : Nat, m < 4096 ∧ w = cN m) (h8 : pop w = 8) (k : Nat) (hk : k ≠ 0 ∧ k ≠ 2 ∧ k ≠ 4 ∧ k ≠ 8) : octS.countP (fun x => pop (x.toNat &&& w) == k) = 0 := by
  rw [List.countP_eq_zero]
  intro x hx h
  have h1 := oct_meets w hw h8 x hx
  have h2 : pop (x.toNat &&& w) = k := by simpa using h
  omega
theorem cnt9_oct (w : Int) (h : IsOct w) : cnt9 w octS = [30, 0, 448, 0, 280, 0, 0, 0, 1] := by
  obtain ⟨m, hm, e, h8⟩ := h
  rw [codeOf_cN m hm] at e
  have hp : pop (cN m) = 8 := by rw [← e, wt_pop] at h8; omega
  have hw : ∃ n : Nat, n < 4096 ∧ cN m = cN n := ⟨m, hm, rfl⟩
  have hc : ∀ k : Nat, (octS.countP fun x => wt (andI x w) == (k : Int)) = octS.countP (fun x => pop (x.toNat &&& cN m) == k) := by
    intro k
    refine List.countP_congr fun x hx => ?_
    obtain ⟨n, _, e1, e2, _⟩ := oct_nat hx
    rw [e2, e1, ← e, andI_nat, wt_pop]
    simp only [beq_iff_eq]
    omega
  obtain ⟨c0, c2, c4, c8⟩ := oct_counts (cN m) hw hp
  unfold cnt9
  have h1 := fun k h => oct_none (cN m) hw hp k h
  have e1 := h1 1 (by omega)
  have e3 := h1 3 (by omega)
  have e5 := h1 5 (by omega)
  have e6 := h1 6 (by omega)
  have e7 := h1 7 (by omega)
  simp only [List.range, List.range.loop, List.map_cons, List.map_nil, hc, c0, c2, c4, c8, e1, e3, e5, e6, e7]
  decide

/-! ### One place more -/
theorem countP_two (P Q R : Int → Bool) : ∀ L : List Int, (∀ x ∈ L, (if P x then 1 else 0) = (if Q x then 1 else 0) + (if R x then 1 else 0)) → L.countP P = L.countP Q + L.countP R := by
  intro L
  induction L with
  | nil => intro _; rfl
  | cons x L ih =>
    intro h
    have h1 := ih fun y hy => h y (List.mem_cons_of_mem _ hy)
    have h2 := h x (List.mem_cons_self ..)
    simp only [List.countP_cons]
    omega
theorem and_or_none (x T p : Nat) : (decide (x &&& T = 0) && !x.testBit p) = decide (x &&& (T ||| 2 ^ p) = 0) := by
  rw [Bool.eq_iff_iff]
  simp only [Bool.and_eq_true, decide_eq_true_eq, Bool.not_eq_true']
  constructor
  · rintro ⟨h1, h2⟩
    refine Nat.eq_of_testBit_eq fun q => ?_
    have h3 : (x &&& T).testBit q = false := by rw [h1]; exact Nat.zero_testBit q
    rw [Nat.testBit_and, or_bit, Nat.zero_testBit]
    rw [Nat.testBit_and] at h3
    by_cases e : p = q
    · subst e; simp [h2]
    · simp only [e, decide_false, Bool.or_false]; exact h3
  · intro h
    have hb : ∀ q, (x &&& (T ||| 2 ^ p)).testBit q = false := fun q => by rw [h]; exact Nat.zero_testBit q
    constructor
    · refine Nat.eq_of_testBit_eq fun q => ?_
      have := hb q
      rw [Nat.testBit_and, or_bit] at this
      rw [Nat.testBit_and, Nat.zero_testBit]
      cases hx : x.testBit q
      · simp
      · rw [hx] at this; simp at this; simp [this.1]
    · have := hb p
      rw [Nat.testBit_and, or_bit] at this
      simpa using this
theorem andI_zero (x T : Nat) : (andI (x : Int) (T : Int) == 0) = decide (x &&& T = 0) := by
  rw [andI_nat]
  by_cases h : x &&& T = 0
  · simp [h]
  · simp [h]
theorem orI_nat1 (a : Nat) : orI (a : Int) 1 = ((a ||| 1 : Nat) : Int) := by unfold orI; rfl
theorem count_more (a b : Int) (ha : 0 ≤ a) (hb : 0 ≤ b) : octS.countP (oC a b) = octS.countP (oC (orI a 1) b) + octS.countP (oC a (orI b 1)) := by
  obtain ⟨A, rfl⟩ := Int.eq_ofNat_of_zero_le ha
  obtain ⟨B, rfl⟩ := Int.eq_ofNat_of_zero_le hb
  refine countP_two _ _ _ _ fun x hx => ?_
  obtain ⟨n, _, e1, _, _⟩ := oct_nat hx
  rw [e1]
  unfold oC
  rw [orI_nat1, orI_nat1, andI_sub, andI_sub, andI_zero, andI_zero]
  have h1 := and_or_bit (cN n) A 0
  have h2 := and_or_none (cN n) B 0
  rw [Nat.pow_zero] at h1 h2
  rw [← h1, ← h2]
  cases (cN n).testBit 0 <;> cases decide (cN n &&& A = A) <;> cases decide (cN n &&& B = 0) <;> rfl
theorem count_all : octS.countP (oC 0 0) = 759 := by
  rw [← octS_759, List.countP_eq_length]
  intro x _
  simp [oC, andI]
/-! ### Sums of two -/
theorem wt_xor_i {a b : Int} (ha : 0 ≤ a) (hb : 0 ≤ b) : wt (xorI a b) + 2 * wt (andI a b) = wt a + wt b := by
  obtain ⟨A, rfl⟩ := Int.eq_ofNat_of_zero_le ha
  obtain ⟨B, rfl⟩ := Int.eq_ofNat_of_zero_le hb
  exact wt_xor A B
end Go.Proofs.YtiinekoepoonfabDoor
