/- The line code: sums of generators, which words are sums, and what keeps it. No program is named here. -/
import Derived.Test.YtepaaijlkimmeaaDoorM32
import Derived.Test.YtepaaijlkimmeaaDoorM38
namespace Go.Proofs.YtepaaijlkimmeaaDoor
set_option linter.unusedVariables false

def gL : List Nat := [8729438, 9070268, 9751928, 11115248, 13841888, 10906561, 13424514, 10071813, 11755018, 15121428, 13465641, 10154067, 11919526, 15450444, 14123673, 11470131, 14551654, 12326093, 16263578, 15749941, 14722667, 12668119, 8559023, 0]
def gA : List Nat := [8729438, 9070268, 9751928, 11115248, 13841888, 10906561, 13424514, 10071813, 11755018, 15121428, 13465641, 10154067]
def gC : List Nat := [1, 2, 4, 8, 16, 32, 64, 128, 256, 512, 1024, 2048, 1183, 2366, 1763, 3526, 3859, 2745, 493, 986, 1972, 3944, 2639, 0]
/-- The sum of the generators of the places below 23. -/
def lsN (v : Nat) : Nat := lin gL v
def inLN (v : Nat) : Bool := lsN v == v
theorem lsN_xor (a b : Nat) : lsN (a ^^^ b) = lsN a ^^^ lsN b := lin_xor gL a b
theorem gL_lt : ∀ a ∈ gL, a < 2 ^ 24 := by decide
theorem lsN_lt (v : Nat) : lsN v < 16777216 := lin_lt 24 gL gL_lt v
theorem gL_twice : gL.map (lin gL) = gL := by decide +kernel
theorem lsN_twice (v : Nat) : lsN (lsN v) = lsN v := by
  unfold lsN
  rw [lin_lin, gL_twice]
theorem inLN_ls (v : Nat) : inLN (lsN v) = true := by simp [inLN, lsN_twice]
theorem inLN_iff (v : Nat) : inLN v = true ↔ lsN v = v := by simp [inLN]
theorem inLN_xor {a b : Nat} (ha : inLN a = true) (hb : inLN b = true) : inLN (a ^^^ b) = true := by
  rw [inLN_iff] at *
  rw [lsN_xor, ha, hb]
theorem lsN_gen (i : Nat) : lsN (2 ^ i) = gL.getD i 0 := lin_pow gL i
theorem gL_in (i : Nat) : inLN (gL.getD i 0) = true := by
  rw [← lsN_gen]
  exact inLN_ls _
theorem all_in : inLN 16777215 = true := by decide +kernel
theorem gC_is : gC.map (lin gA) = gL := by decide +kernel
set_option maxRecDepth 100000 in
theorem line_weights : ∀ m : Fin 4096, wts (pop (lin gA m.val)) = true := by decide +kernel
theorem gC_lt : ∀ a ∈ gC, a < 2 ^ 12 := by decide
theorem lsN_wts (v : Nat) : wts (pop (lsN v)) = true := by
  unfold lsN
  rw [← gC_is, ← lin_lin]
  exact line_weights ⟨lin gC v, lin_lt 12 gC gC_lt v⟩
theorem inLN_wts {v : Nat} (h : inLN v = true) : wts (pop v) = true := by
  rw [inLN_iff] at h
  rw [← h]
  exact lsN_wts v
theorem lsN_mod (w : Nat) (h : w < 16777216) : lsN (w % 8388608) = lsN w := by
  have hq : w / 8388608 = 0 ∨ w / 8388608 = 1 := by omega
  have hs : w = (w % 8388608) ^^^ (w / 8388608 * 2 ^ 23) := by
    rcases hq with e | e
    · rw [e]; simp only [Nat.zero_mul, Nat.xor_zero]; omega
    · rw [e]
      have h2 := shift_xor (w % 8388608 / 4194304) 22 0 (by omega)
      apply Nat.eq_of_testBit_eq
      intro q
      rw [Nat.testBit_xor, show (8388608 : Nat) = 2 ^ 23 by decide, Nat.testBit_mod_two_pow, Nat.one_mul, Nat.testBit_two_pow]
      by_cases hlt : q < 23
      · have h23 : ¬ (23 = q) := by omega
        simp [hlt, h23]
      · by_cases he : q = 23
        · subst he
          have : w.testBit 23 = true := by
            rw [Nat.testBit_eq_decide_div_mod_eq]
            simp only [decide_eq_true_eq]
            have : w / 2 ^ 23 = 1 := e
            rw [this]
          simp [this]
        · have : w.testBit q = false := Nat.testBit_lt_two_pow (Nat.lt_of_lt_of_le h (Nat.pow_le_pow_right (show 0 < 2 by decide) (show 24 ≤ q by omega)))
          have h23 : ¬ (23 = q) := fun e => he e.symm
          simp [this, hlt, h23]
  conv => rhs; rw [hs]
  rw [lsN_xor]
  have : lsN (w / 8388608 * 2 ^ 23) = 0 := by
    unfold lsN
    rw [lin_bit _ _ _ (by omega), lin_pow]
    rw [show gL.getD 23 0 = 0 by decide, Nat.mul_zero]
  rw [this, Nat.xor_zero]

/-! ### The words that have an even number of places in common with each generator -/
theorem popX2 : ∀ (k a b : Nat), popN k (a ^^^ b) % 2 = (popN k a + popN k b) % 2
  | 0, a, b => rfl
  | k + 1, a, b => by
    have ih := popX2 k (a / 2) (b / 2)
    have h1 := xor_mod2 a b
    have h2 : (a ^^^ b) / 2 = a / 2 ^^^ b / 2 := Nat.xor_div_two
    simp only [popN]
    rw [h2, h1]
    omega
def parN (k w h : Nat) : Nat := popN k (w &&& h) % 2
theorem parN_xor (k w a b : Nat) : parN k w (a ^^^ b) = (parN k w a + parN k w b) % 2 := by
  unfold parN
  rw [Nat.and_xor_distrib_left, popX2]
  omega
theorem parN_zero (k w : Nat) : parN k w 0 = 0 := by
  have : ∀ k, popN k 0 = 0 := by intro k; induction k with
    | zero => rfl
    | succ k ih => simp [popN, ih]
  simp [parN, this]
theorem parN_lin (k w : Nat) : ∀ (A : List Nat), (∀ a ∈ A, parN k w a = 0) → ∀ c, parN k w (lin A c) = 0
  | [], _, c => parN_zero k w
  | a :: A, h, c => by
    simp only [lin]
    rw [parN_xor, parN_lin k w A (fun x hx => h x (List.mem_cons_of_mem _ hx)) _]
    have h2 : c % 2 = 0 ∨ c % 2 = 1 := by omega
    have h3 := h a List.mem_cons_self
    rcases h2 with e | e <;> rw [e]
    · rw [Nat.zero_mul, parN_zero]
    · rw [Nat.one_mul, h3]
def colN (A : List Nat) (x : Nat) : Nat :=
  match A with
  | [] => 0
  | a :: A => a / 2 ^ x % 2 + 2 * colN A x
theorem and_half (w b c : Nat) (hb : b < 2) : (w &&& (b + 2 * c)) % 2 = w % 2 * b ∧ (w &&& (b + 2 * c)) / 2 = w / 2 &&& c := by
  constructor
  · have h1 : (w &&& (b + 2 * c)) % 2 = (w % 2) &&& ((b + 2 * c) % 2) := by
      have := @Nat.and_mod_two_pow w (b + 2 * c) 1
      simpa using this
    rw [h1, show (b + 2 * c) % 2 = b by omega]
    have h2 : w % 2 = 0 ∨ w % 2 = 1 := by omega
    have h3 : b = 0 ∨ b = 1 := by omega
    rcases h2 with e | e <;> rcases h3 with f | f <;> rw [e, f] <;> rfl
  · rw [Nat.and_div_two, show (b + 2 * c) / 2 = c by omega]
theorem lin_bit_par : ∀ (A : List Nat) (k w x : Nat), A.length ≤ k → (lin A w) / 2 ^ x % 2 = parN k w (colN A x)
  | [], k, w, x, _ => by
    rw [show colN [] x = 0 from rfl, parN_zero]
    simp [lin]
  | a :: A, 0, w, x, h => by simp at h
  | a :: A, k + 1, w, x, h => by
    have ih := lin_bit_par A k (w / 2) x (by simpa using h)
    have hb : a / 2 ^ x % 2 < 2 := Nat.mod_lt _ (by decide)
    obtain ⟨e1, e2⟩ := and_half w (a / 2 ^ x % 2) (colN A x) hb
    have hx : ∀ u v : Nat, (u ^^^ v) / 2 ^ x % 2 = (u / 2 ^ x % 2 + v / 2 ^ x % 2) % 2 := fun u v => by
      rw [Nat.xor_div_two_pow, xor_mod2]
    unfold parN at ih ⊢
    simp only [lin, colN, popN]
    rw [hx, ih, e1, e2]
    have h2 : w % 2 = 0 ∨ w % 2 = 1 := by omega
    rcases h2 with e | e <;> rw [e]
    · simp only [Nat.zero_mul, Nat.zero_div]; omega
    · simp only [Nat.one_mul]; omega
def zL : List Nat := List.zipWith (· ^^^ ·) gL (units 0 24)
theorem zL_cols : ∀ x : Fin 24, colN zL x.val = lin gL (if x.val = 23 then 8388607 else 8388607 ^^^ 2 ^ x.val) := by decide +kernel
theorem gL_self : ∀ i : Fin 24, gL.map (fun g => parN 24 g (gL.getD i.val 0)) = List.replicate 24 0 := by decide +kernel
/-- A word is a sum of generators just if it has an even number of places in common with each. -/
theorem line_dual (w : Nat) (hw : w < 16777216) : inLN w = true ↔ ∀ i, i < 23 → parN 24 w (gL.getD i 0) = 0 := by
  rw [inLN_iff]
  constructor
  · intro h i hi
    have hs : ∀ a ∈ gL, parN 24 (gL.getD i 0) a = 0 := fun a ha => by
      have := gL_self ⟨i, by omega⟩
      have h2 : parN 24 a (gL.getD i 0) ∈ gL.map (fun g => parN 24 g (gL.getD i 0)) := List.mem_map.2 ⟨a, ha, rfl⟩
      rw [this] at h2
      have h3 := (List.mem_replicate.1 h2).2
      unfold parN at h3 ⊢
      rw [Nat.and_comm]
      exact h3
    have := parN_lin 24 (gL.getD i 0) gL hs w
    rw [← h]
    unfold parN at this ⊢
    rw [Nat.and_comm]
    exact this
  · intro h
    have hall : ∀ a ∈ gL, parN 24 w a = 0 := fun a ha => by
      obtain ⟨i, hi, e⟩ := List.mem_iff_getElem.1 ha
      have hi' : i < 24 := by simpa [gL] using hi
      by_cases h23 : i < 23
      · have := h i h23
        rwa [show gL.getD i 0 = a by rw [List.getD_eq_getElem?_getD, List.getElem?_eq_getElem hi]; exact e] at this
      · obtain rfl : i = 23 := by omega
        rw [← e]
        exact parN_zero 24 w
    have hz : lsN w ^^^ w = lin zL w := by
      have : lin gL w ^^^ lin (units 0 24) w = lin zL w := lin_zip gL (units 0 24) w (by decide)
      rw [lin_units, Nat.pow_zero, Nat.one_mul, Nat.mod_eq_of_lt hw] at this
      exact this
    have h0 : lin zL w = 0 := by
      apply Nat.eq_of_testBit_eq
      intro x
      rw [Nat.zero_testBit, Nat.testBit_eq_decide_div_mod_eq]
      by_cases hx : x < 24
      · rw [lin_bit_par zL 24 w x (by decide), zL_cols ⟨x, hx⟩, parN_lin 24 w gL hall]
        simp
      · have : lin zL w < 2 ^ 24 := lin_lt 24 zL (by decide +kernel) w
        rw [Nat.div_eq_of_lt (Nat.lt_of_lt_of_le this (Nat.pow_le_pow_right (by decide) (by omega)))]
        simp
    rw [h0] at hz
    have := congrArg (fun y => y ^^^ w) hz
    simp only [Nat.zero_xor] at this
    rwa [Nat.xor_assoc, Nat.xor_self, Nat.xor_zero] at this

/-! ### The permutations of the line -/
def lpN (a b c d : R23) : List Nat := (List.range 24).map fun k => lpNo (lmF a b c d (lpOf k))
theorem lpN_get (a b c d : R23) (k : Nat) (h : k < 24) : (lpN a b c d).getD k 0 = lpNo (lmF a b c d (lpOf k)) := by simp [lpN, h]
theorem lpN_len (a b c d : R23) : (lpN a b c d).length = 24 := by simp [lpN]
theorem lpN_perm (a b c d : R23) (hD : a * d - b * c ≠ 0) : PermN (lpN a b c d) := by
  refine permN_of (lpN_len a b c d) (fun i hi => ?_) (fun i j hi hj e => ?_)
  · rw [lpN_get a b c d i hi]; exact lpNo_lt _
  · rw [lpN_get a b c d i hi, lpN_get a b c d j hj] at e
    have e2 : lmF a b c d (lpOf i) = lmF a b c d (lpOf j) := by rw [← lpOf_no (lmF a b c d (lpOf i)), e, lpOf_no]
    have h1 := mv_back a b c d hD (lpOf i)
    rw [e2, mv_back a b c d hD (lpOf j)] at h1
    rw [← lpNo_of i hi, ← h1, lpNo_of j hj]
theorem lpN_it (a b c d : R23) (k : Nat) (h : k < 24) : ∀ n, itN (lpN a b c d) n k = lpNo (mvN a b c d n (lpOf k))
  | 0 => (lpNo_of k h).symm
  | n + 1 => by
    show (lpN a b c d).getD (itN (lpN a b c d) n k) 0 = _
    rw [lpN_it a b c d k h n, lpN_get _ _ _ _ _ (lpNo_lt _), lpOf_no]
    rfl
theorem lpN_ord (a b c d : R23) (hD : sqF (a * d - b * c) = true) : ∃ n, (n = 11 ∨ n = 12 ∨ n = 23) ∧ ∀ i, i < 24 → itN (lpN a b c d) n i = i := by
  obtain ⟨n, hn, h⟩ := mv_ord a b c d hD
  exact ⟨n, hn, fun i hi => by rw [lpN_it a b c d i hi, h, lpNo_of i hi]⟩
theorem pr_all (x : Option R23) : ∃ q : R23 × R23, q ≠ (0, 0) ∧ x = prF q := by
  cases x with
  | none => exact ⟨(1, 0), by decide, rfl⟩
  | some x => exact ⟨(x, 1), by simp, (ov_of (show (1 : R23) ≠ 0 by decide) (show x * 1 = x by grobner)).symm⟩
theorem mv_mul (a b c d e f g h : R23) (h1 : a * d - b * c ≠ 0) (h2 : e * h - f * g ≠ 0) (x : Option R23) :
    lmF e f g h (lmF a b c d x) = lmF (e * a + f * c) (e * b + f * d) (g * a + h * c) (g * b + h * d) x := by
  obtain ⟨q, hq, rfl⟩ := pr_all x
  rw [pr_ac a b c d q hq, pr_ac e f g h _ (ac_ne a b c d h1 q hq), pr_ac _ _ _ _ q hq]
  congr 1
  obtain ⟨u, v⟩ := q
  simp only [acF, Prod.mk.injEq]
  constructor <;> grobner
theorem mv_scale (s a b c d : R23) (hs : s ≠ 0) (x : Option R23) : lmF (s * a) (s * b) (s * c) (s * d) x = lmF a b c d x := by
  obtain ⟨q, hq, rfl⟩ := pr_all x
  rw [pr_ac _ _ _ _ q hq, pr_ac _ _ _ _ q hq]
  obtain ⟨u, v⟩ := q
  conv => rhs; rw [← show prF (s * (acF a b c d (u, v)).1, s * (acF a b c d (u, v)).2) = prF (acF a b c d (u, v)) from pr_scale s _ _ hs]
  congr 1
  simp only [acF, Prod.mk.injEq]
  constructor <;> grobner
theorem lpN_then (a b c d e f g h : R23) (h1 : a * d - b * c ≠ 0) (h2 : e * h - f * g ≠ 0) :
    thenN (lpN a b c d) (lpN e f g h) = lpN (e * a + f * c) (e * b + f * d) (g * a + h * c) (g * b + h * d) := by
  refine listN_ext (by rw [thenN_len, lpN_len]) (lpN_len _ _ _ _) fun i hi => ?_
  rw [thenN_get _ i (by rw [lpN_len]; exact hi), lpN_get _ _ _ _ i hi, lpN_get _ _ _ _ _ (lpNo_lt _), lpOf_no, mv_mul a b c d e f g h h1 h2, lpN_get _ _ _ _ i hi]
theorem lpN_scale (s a b c d : R23) (hs : s ≠ 0) : lpN (s * a) (s * b) (s * c) (s * d) = lpN a b c d := by
  refine listN_ext (lpN_len _ _ _ _) (lpN_len _ _ _ _) fun i hi => ?_
  rw [lpN_get _ _ _ _ i hi, lpN_get _ _ _ _ i hi, mv_scale s a b c d hs]

def KeepsL (P : List Nat) : Prop := ∀ v, lsN (movN P (lsN v)) = movN P (lsN v)
def keepLB (P : List Nat) : Bool := (gL.map (lin (pws P))).map (lin gL) == gL.map (lin (pws P))
theorem keepL_of {P : List Nat} (h : keepLB P = true) : KeepsL P := fun v => by
  unfold keepLB at h
  unfold lsN movN
  rw [lin_lin (pws P), lin_lin, beq_iff_eq.1 h]
theorem KeepsL.word {P : List Nat} (h : KeepsL P) (v : Nat) (hv : inLN v = true) : inLN (movN P v) = true := by
  rw [inLN_iff] at *
  have := h v
  rwa [hv] at this
theorem KeepsL.then_ {P Q : List Nat} (hP : PermN P) (hQ : PermN Q) (h : KeepsL P) (k : KeepsL Q) : KeepsL (thenN P Q) := fun v => by
  rw [← movN_movN hP Q hQ.1]
  exact (inLN_iff _).1 (k.word _ (h.word _ (inLN_ls v)))
theorem keep_T : ∀ t : R23, keepLB (lpN 1 t 0 1) = true := by decide +kernel
theorem keep_S : ∀ s : R23, sqF s = true → keepLB (lpN s 0 0 1) = true := by decide +kernel
theorem keep_J : keepLB (lpN 0 (-1) 1 0) = true := by decide +kernel
theorem sq_over : ∀ a d : R23, sqF (a * d) = true → d ≠ 0 → sqF (a * tn d) = true := by decide +kernel
theorem sq_over2 : ∀ D c : R23, sqF D = true → c ≠ 0 → sqF (D * (tn c * tn c)) = true := by decide +kernel
theorem keeps_line (a b c d : R23) (hD : sqF (a * d - b * c) = true) : KeepsL (lpN a b c d) := by
  have hD0 := sq_ne hD
  have n1 : ∀ t : R23, (1 : R23) * 1 - t * 0 ≠ 0 := fun t => by rw [show (1 : R23) * 1 - t * 0 = 1 by grobner]; decide
  by_cases hc : c = 0
  · subst hc
    have hd : d ≠ 0 := by rintro rfl; exact hD0 (by grobner)
    have hs : sqF (a * tn d) = true := sq_over a d (by rw [show a * d = a * d - b * 0 by grobner]; exact hD) hd
    have hs0 := sq_ne hs
    have n2 : a * tn d * 1 - 0 * 0 ≠ 0 := by rw [show a * tn d * 1 - 0 * 0 = a * tn d by grobner]; exact hs0
    have h := KeepsL.then_ (lpN_perm _ _ _ _ n2) (lpN_perm _ _ _ _ (n1 (b * tn d))) (keepL_of (keep_S _ hs)) (keepL_of (keep_T (b * tn d)))
    rw [lpN_then _ _ _ _ _ _ _ _ n2 (n1 _), ← lpN_scale d _ _ _ _ hd] at h
    have ht := tn_mul d hd
    rwa [show d * (1 * (a * tn d) + b * tn d * 0) = a by grobner, show d * (1 * 0 + b * tn d * 1) = b by grobner, show d * (0 * (a * tn d) + 1 * 0) = 0 by grobner, show d * (0 * 0 + 1 * 1) = d by grobner] at h
  · have ht := tn_mul c hc
    have hs := sq_over2 _ c hD hc
    have hs0 := sq_ne hs
    generalize hu : (a * d - b * c) * (tn c * tn c) = u at hs hs0
    have n2 : u * 1 - 0 * 0 ≠ 0 := by rw [show u * 1 - 0 * 0 = u by grobner]; exact hs0
    have nJ : (0 : R23) * 0 - (-1) * 1 ≠ 0 := by decide
    have hT := keepL_of (keep_T (d * tn c))
    have h1 := KeepsL.then_ (lpN_perm _ _ _ _ (n1 (d * tn c))) (lpN_perm _ _ _ _ nJ) hT (keepL_of keep_J)
    rw [lpN_then _ _ _ _ _ _ _ _ (n1 _) nJ, show (0 : R23) * 1 + -1 * 0 = 0 by decide, show 0 * (d * tn c) + -1 * 1 = (-1 : R23) by grobner, show (1 : R23) * 1 + 0 * 0 = 1 by decide, show 1 * (d * tn c) + 0 * 1 = d * tn c by grobner] at h1
    have n3 : 0 * (d * tn c) - (-1) * 1 ≠ 0 := by rw [show 0 * (d * tn c) - (-1) * 1 = (1 : R23) by grobner]; decide
    have h2 := KeepsL.then_ (lpN_perm _ _ _ _ n3) (lpN_perm _ _ _ _ n2) h1 (keepL_of (keep_S _ hs))
    rw [lpN_then _ _ _ _ _ _ _ _ n3 n2, show u * 0 + 0 * 1 = (0 : R23) by grobner, show u * -1 + 0 * (d * tn c) = -u by grobner, show (0 : R23) * 0 + 1 * 1 = 1 by decide, show 0 * -1 + 1 * (d * tn c) = d * tn c by grobner] at h2
    have n4 : 0 * (d * tn c) - (-u) * 1 ≠ 0 := by rw [show 0 * (d * tn c) - (-u) * 1 = u by grobner]; exact hs0
    have h3 := KeepsL.then_ (lpN_perm _ _ _ _ n4) (lpN_perm _ _ _ _ (n1 (a * tn c))) h2 (keepL_of (keep_T (a * tn c)))
    rw [lpN_then _ _ _ _ _ _ _ _ n4 (n1 _), ← lpN_scale c _ _ _ _ hc] at h3
    rwa [show c * (1 * 0 + a * tn c * 1) = a by grobner, show c * (1 * -u + a * tn c * (d * tn c)) = b by grobner, show c * (0 * 0 + 1 * 1) = c by grobner, show c * (0 * -u + 1 * (d * tn c)) = d by grobner] at h3
theorem gen_moved : ∀ i : R23, movN (lpN 1 i 0 1) (gL.getD 0 0) = gL.getD i.val 0 := by decide +kernel
theorem gen_wt : ∀ i : R23, pop (gL.getD i.val 0) = 12 := by decide +kernel
end Go.Proofs.YtepaaijlkimmeaaDoor
