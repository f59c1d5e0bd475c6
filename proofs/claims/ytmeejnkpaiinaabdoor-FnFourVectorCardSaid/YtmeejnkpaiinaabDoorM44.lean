/- The lattice: words made bit by bit, places taken one after the other, signs of an octad. No program is named here. -/
import Derived.Test.YtmeejnkpaiinaabDoorM43
import Derived.Test.YtmeejnkpaiinaabDoorP1
namespace Go.Proofs.YtmeejnkpaiinaabDoor
set_option linter.unusedVariables false
attribute [local irreducible] cN syn

/-! ### The places of a word, in their order -/
theorem plN_snoc (w N : Nat) : plN w (N + 1) = plN w N ++ if w.testBit N then [N] else [] := by
  unfold plN
  rw [List.range_succ, List.filter_append]
  congr 1
  by_cases hb : w.testBit N = true <;> simp [hb]
theorem plN_len_pop (w : Nat) : ∀ N, (plN w N).length = popN N w
  | 0 => rfl
  | N + 1 => by
    rw [plN_snoc, popN_top, List.length_append, plN_len_pop w N]
    unfold bN
    cases w.testBit N <;> rfl
theorem plN_at (w : Nat) : ∀ N i, i < (plN w N).length → (plN w N).getD i 0 < N ∧ w.testBit ((plN w N).getD i 0) = true ∧ popN ((plN w N).getD i 0) w = i
  | 0, i, h => by simp [plN] at h
  | N + 1, i, h => by
    rw [plN_snoc] at h ⊢
    by_cases hi : i < (plN w N).length
    · have e : (plN w N ++ if w.testBit N then [N] else []).getD i 0 = (plN w N).getD i 0 := by
        show (plN w N ++ _)[i]?.getD 0 = (plN w N)[i]?.getD 0
        rw [List.getElem?_append_left hi]
      rw [e]
      have := plN_at w N i hi
      exact ⟨by omega, this.2⟩
    · cases hb : w.testBit N
      · simp [hb] at h; omega
      · simp only [hb, if_true, List.length_append, List.length_singleton] at h ⊢
        have hi2 : i = (plN w N).length := by omega
        subst hi2
        have e : (plN w N ++ [N]).getD (plN w N).length 0 = N := by
          show (plN w N ++ [N])[(plN w N).length]?.getD 0 = N
          simp
        rw [e]
        exact ⟨by omega, hb, (plN_len_pop w N).symm⟩

/-! ### Lists of 24 numbers changed at places -/
theorem vL_set (f : Nat → Int) (q : Nat) (x : Int) (hq : q < 24) : (vL f).set q x = vL fun p => if p = q then x else f p := by
  refine listI_ext (by rw [List.length_set, vL_len]) (vL_len _) fun p hp => ?_
  rw [vL_get _ p hp]
  by_cases h : p = q
  · subst h; rw [if_pos rfl]; simp [vL_len, hp]
  · rw [if_neg h]
    show ((vL f).set q x)[p]?.getD 0 = _
    rw [List.getElem?_set_ne (by omega)]
    exact vL_get f p hp
def putS (n : Int) (L : List Int) (x : Nat) : List Int := L.set x n
def flipS (L : List Int) (x : Nat) : List Int := L.set x (-(L.getD x 0))
theorem put_to (w : Nat) (n : Int) : ∀ N, N ≤ 24 → (plN w N).foldl (putS n) (List.replicate 24 0) = vL fun p => if p < N ∧ w.testBit p = true then n else 0
  | 0, _ => by
    show List.replicate 24 0 = _
    refine listI_ext (by simp) (vL_len _) fun p hp => ?_
    rw [vL_get _ p hp, if_neg (by omega)]
    show (List.replicate 24 (0 : Int))[p]?.getD 0 = 0
    rw [List.getElem?_replicate]
    split <;> rfl
  | N + 1, h => by
    rw [plN_snoc, List.foldl_append, put_to w n N (by omega)]
    cases hb : w.testBit N
    · refine vL_ext _ _ fun p hp => ?_
      by_cases e : p = N
      · subst e; simp [hb]
      · simp [show p < N + 1 ↔ p < N by omega]
    · show (vL _).set N n = _
      rw [vL_set _ N n (by omega)]
      refine vL_ext _ _ fun p hp => ?_
      by_cases e : p = N
      · subst e; simp [hb]
      · simp [e, show p < N + 1 ↔ p < N by omega]
theorem flip_to (w : Nat) (L : List Int) (hL : L.length = 24) : ∀ N, N ≤ 24 → (plN w N).foldl flipS L = vL fun p => if p < N ∧ w.testBit p = true then -atL L p else atL L p
  | 0, _ => by
    show L = _
    refine listI_ext hL (vL_len _) fun p hp => ?_
    rw [vL_get _ p hp]
    simp [atL]
  | N + 1, h => by
    rw [plN_snoc, List.foldl_append, flip_to w L hL N (by omega)]
    cases hb : w.testBit N
    · refine vL_ext _ _ fun p hp => ?_
      by_cases e : p = N
      · subst e; simp [hb]
      · simp [show p < N + 1 ↔ p < N by omega]
    · show (vL _).set N _ = _
      rw [vL_set _ N _ (by omega), vL_get _ N (by omega)]
      refine vL_ext _ _ fun p hp => ?_
      by_cases e : p = N
      · subst e; simp [hb]
      · simp [e, show p < N + 1 ↔ p < N by omega]
def putP (n : Int) (pre : List (Fin 24)) : List Int := pre.foldl (fun L x => putS n L x.val) (List.replicate 24 0)
def flipP (L : List Int) (pre : List (Fin 24)) : List Int := pre.foldl (fun L x => flipS L x.val) L
theorem putP_snoc (n : Int) (pre : List (Fin 24)) (x : Fin 24) : putP n (pre ++ [x]) = (putP n pre).set x.val n := by simp [putP, putS, List.foldl_append]
theorem flipP_snoc (L : List Int) (pre : List (Fin 24)) (x : Fin 24) : flipP L (pre ++ [x]) = (flipP L pre).set x.val (-((flipP L pre).getD x.val 0)) := by simp [flipP, flipS, List.foldl_append]
theorem putP_len (n : Int) (pre : List (Fin 24)) : (putP n pre).length = 24 := by
  have h : ∀ (R : List (Fin 24)) (L : List Int), L.length = 24 → (R.foldl (fun L x => putS n L x.val) L).length = 24 := by
    intro R
    induction R with
    | nil => intro L h; exact h
    | cons x R ih => intro L h; exact ih _ (by simp [putS, h])
  exact h pre _ (by simp)
theorem flipP_len (L : List Int) (hL : L.length = 24) (pre : List (Fin 24)) : (flipP L pre).length = 24 := by
  have h : ∀ (R : List (Fin 24)) (L : List Int), L.length = 24 → (R.foldl (fun L x => flipS L x.val) L).length = 24 := by
    intro R
    induction R with
    | nil => intro L h; exact h
    | cons x R ih => intro L h; exact ih _ (by simp [flipS, h])
  exact h pre L hL
theorem putP_all (n : Int) (w : Nat) (ys : List (Fin 24)) (h : ys.map (fun x => x.val) = pl w) : putP n ys = vL fun p => if w.testBit p then n else 0 := by
  have h1 := put_to w n 24 (Nat.le_refl _)
  have e : putP n ys = (pl w).foldl (putS n) (List.replicate 24 0) := by rw [← h, List.foldl_map]; rfl
  rw [e]
  exact h1.trans (vL_ext _ _ fun p hp => by simp [hp])
theorem flipP_all (L : List Int) (hL : L.length = 24) (w : Nat) (ys : List (Fin 24)) (h : ys.map (fun x => x.val) = pl w) : flipP L ys = vL (flipF w (atL L)) := by
  have h1 := flip_to w L hL 24 (Nat.le_refl _)
  have e : flipP L ys = (pl w).foldl flipS L := by rw [← h, List.foldl_map]; rfl
  rw [e]
  exact h1.trans (vL_ext _ _ fun p hp => by simp [hp, flipF])
/-- Numbers within bounds have opposite numbers within bounds. -/
theorem flipP_rng (L : List Int) (M : Int) (h : ∀ p, -M ≤ L.getD p 0 ∧ L.getD p 0 ≤ M) (pre : List (Fin 24)) (p : Nat) : -M ≤ (flipP L pre).getD p 0 ∧ (flipP L pre).getD p 0 ≤ M := by
  have key : ∀ (R : List (Fin 24)) (L : List Int), (∀ p, -M ≤ L.getD p 0 ∧ L.getD p 0 ≤ M) → ∀ p, -M ≤ (R.foldl (fun L x => flipS L x.val) L).getD p 0 ∧ (R.foldl (fun L x => flipS L x.val) L).getD p 0 ≤ M := by
    intro R
    induction R with
    | nil => intro L h; exact h
    | cons x R ih =>
      intro L h
      refine ih _ fun p => ?_
      have hx := h x.val
      have hp := h p
      unfold flipS
      by_cases e : x.val = p
      · by_cases hl : p < L.length
        · have : (L.set x.val (-(L.getD x.val 0))).getD p 0 = -(L.getD x.val 0) := by rw [e]; simp [hl]
          rw [this]; omega
        · have : (L.set x.val (-(L.getD x.val 0))).getD p 0 = 0 := by
            show (L.set _ _)[p]?.getD 0 = 0
            rw [List.getElem?_eq_none (by rw [List.length_set]; omega)]; rfl
          rw [this]; omega
      · have : (L.set x.val (-(L.getD x.val 0))).getD p 0 = L.getD p 0 := by
          show (L.set _ _)[p]?.getD 0 = L[p]?.getD 0
          rw [List.getElem?_set_ne e]
        rw [this]; exact hp
  exact key pre L h p

/-! ### Words made bit by bit -/
def bitsN (f : Nat → Bool) : Nat → Nat
  | 0 => 0
  | k + 1 => bitsN f k + if f k then 2 ^ k else 0
theorem bitsN_lt (f : Nat → Bool) : ∀ k, bitsN f k < 2 ^ k
  | 0 => by simp [bitsN]
  | k + 1 => by
    have := bitsN_lt f k
    rw [bitsN, Nat.pow_succ]
    split <;> omega
theorem bitsN_rest (v : Nat → Int) (r : Int) (k : Nat) : restN v r k = bitsN (fun p => decide (v p % 4 = r)) k := by
  induction k with
  | zero => rfl
  | succ k ih => rw [restN, bitsN, ih]; by_cases h : v k % 4 = r <;> simp [h]
theorem bitsN_bit (f : Nat → Bool) (k p : Nat) : (bitsN f k).testBit p = (decide (p < k) && f p) := by
  have e : bitsN f k = restN (fun p => if f p then 1 else 0) 1 k := by
    rw [bitsN_rest]
    congr 1
    funext p
    cases f p <;> rfl
  rw [e, restN_bit]
  cases f p <;> simp
theorem bitsN_ext (f g : Nat → Bool) (k : Nat) (h : ∀ p, p < k → f p = g p) : bitsN f k = bitsN g k := by
  induction k with
  | zero => rfl
  | succ k ih => rw [bitsN, bitsN, ih fun p hp => h p (by omega), h k (by omega)]
theorem xor_top (a k : Nat) (h : a < 2 ^ k) : a ^^^ 2 ^ k = a + 2 ^ k := by
  apply Nat.eq_of_testBit_eq
  intro p
  rw [Nat.testBit_xor, Nat.testBit_two_pow, Nat.add_comm]
  by_cases e : k = p
  · subst e
    rw [Nat.testBit_two_pow_add_eq, Nat.testBit_lt_two_pow h]; simp
  · by_cases hp : p < k
    · rw [Nat.testBit_two_pow_add_gt hp]; simp [e]
    · have h1 : (2 ^ k + a).testBit p = false := Nat.testBit_lt_two_pow (Nat.lt_of_lt_of_le (show 2 ^ k + a < 2 ^ (k + 1) by rw [Nat.pow_succ]; omega) (Nat.pow_le_pow_right (by decide) (by omega)))
      have h2 : a.testBit p = false := Nat.testBit_lt_two_pow (Nat.lt_of_lt_of_le h (Nat.pow_le_pow_right (by decide) (by omega)))
      rw [h1, h2]; simp [e]
theorem bitsN_xor (f : Nat → Bool) (k : Nat) : bitsN f (k + 1) = bitsN f k ^^^ if f k then 2 ^ k else 0 := by
  rw [bitsN]
  cases f k
  · simp
  · exact (xor_top _ _ (bitsN_lt f k)).symm
theorem bitsN_pop (f : Nat → Bool) : pop (bitsN f 24) = sumR 24 (fun p => if f p then 1 else 0) := by
  rw [pop_sum]
  refine sumR_ext 24 _ _ fun p hp => ?_
  unfold bN
  rw [bitsN_bit]
  simp [hp]

/-! ### The minus signs of an octad -/
def mnS (t : Nat × Nat × Nat) (x : Nat) : Nat × Nat × Nat := (if t.2.1 % 2 = 1 then t.1 ^^^ 2 ^ x else t.1, t.2.1 / 2, x)
def mnP (s : Nat) (pre : List (Fin 24)) : Nat × Nat × Nat := pre.foldl (fun t x => mnS t x.val) (0, s, 0)
theorem mnP_snoc (s : Nat) (pre : List (Fin 24)) (x : Fin 24) : mnP s (pre ++ [x]) = mnS (mnP s pre) x.val := by simp [mnP, List.foldl_append]
theorem mnP_rng (s : Nat) (hs : s < 128) (pre : List (Fin 24)) : (mnP s pre).1 < 16777216 ∧ (mnP s pre).2.1 < 128 ∧ (mnP s pre).2.2 < 24 := by
  have key : ∀ (R : List (Fin 24)) (t : Nat × Nat × Nat), t.1 < 2 ^ 24 ∧ t.2.1 < 128 ∧ t.2.2 < 24 → (R.foldl (fun t x => mnS t x.val) t).1 < 2 ^ 24 ∧ (R.foldl (fun t x => mnS t x.val) t).2.1 < 128 ∧ (R.foldl (fun t x => mnS t x.val) t).2.2 < 24 := by
    intro R
    induction R with
    | nil => intro t h; exact h
    | cons x R ih =>
      rintro ⟨a, b, c⟩ ⟨h1, h2, h3⟩
      refine ih _ ⟨?_, ?_, x.isLt⟩
      · show (if b % 2 = 1 then a ^^^ 2 ^ x.val else a) < 2 ^ 24
        split
        · exact Nat.xor_lt_two_pow h1 (Nat.pow_lt_pow_right (by decide) x.isLt)
        · exact h1
      · show b / 2 < 128
        simp only at h2
        omega
  exact key pre _ ⟨show 0 < 2 ^ 24 by decide, hs, show 0 < 24 by decide⟩
theorem mn_to (w s : Nat) : ∀ N, (plN w N).foldl mnS (0, s, 0) = (bitsN (fun p => w.testBit p && s.testBit (popN p w)) N, s / 2 ^ popN N w, ((plN w N).foldl mnS (0, s, 0)).2.2) ∧
    (0 < popN N w → ((plN w N).foldl mnS (0, s, 0)).2.2 < N ∧ w.testBit ((plN w N).foldl mnS (0, s, 0)).2.2 = true ∧ popN ((plN w N).foldl mnS (0, s, 0)).2.2 w + 1 = popN N w)
  | 0 => by simp [plN, bitsN, popN]
  | N + 1 => by
    obtain ⟨ih1, ih2⟩ := mn_to w s N
    rw [plN_snoc, List.foldl_append, popN_top]
    generalize (plN w N).foldl mnS (0, s, 0) = t at *
    obtain ⟨a, b, c⟩ := t
    simp only [Prod.mk.injEq, and_true] at ih1
    obtain ⟨rfl, rfl⟩ := ih1
    rw [bitsN_xor]
    cases hb : w.testBit N
    · refine ⟨?_, fun h => ?_⟩
      · simp [bN, hb]
      · have h' : 0 < popN N w := by simpa [bN, hb] using h
        have := ih2 h'
        simp only [bN, hb] at *
        simp only [List.foldl_nil, Bool.false_eq_true, if_false] at *
        exact ⟨by omega, this.2⟩
    · have e : bN w N = 1 := by simp [bN, hb]
      rw [e]
      refine ⟨?_, fun _ => ?_⟩
      · simp only [if_true, List.foldl_cons, List.foldl_nil, mnS, Bool.true_and, Prod.mk.injEq, and_true]
        refine ⟨?_, ?_⟩
        · rw [Nat.testBit_eq_decide_div_mod_eq]
          by_cases h : s / 2 ^ popN N w % 2 = 1 <;> simp [h]
        · rw [Nat.pow_succ, Nat.div_div_eq_div_mul]
      · simp only [if_true, List.foldl_cons, List.foldl_nil, mnS]
        exact ⟨by omega, hb, trivial⟩
/-- The word of the minus signs. -/
def minusW (w s : Nat) : Nat := bitsN (fun p => w.testBit p && (sgnN s).testBit (popN p w)) 24
theorem minusW_lt (w s : Nat) : minusW w s < 16777216 := bitsN_lt _ 24
theorem sgn_bits : ∀ s : Fin 128, (∀ i : Fin 7, (sgnN s.val).testBit i.val = s.val.testBit i.val) ∧ (sgnN s.val).testBit 7 = decide (pop s.val % 2 = 1) ∧ s.val.testBit 7 = false ∧ sumR 8 (fun i => if s.val.testBit i then 1 else 0) = pop s.val := by decide +kernel
theorem reindexR (w : Nat) (g : Nat → Nat) (n : Nat) : sumR n (fun p => if w.testBit p then g (popN p w) else 0) = sumR (popN n w) g := by
  induction n with
  | zero => rfl
  | succ n ih =>
    simp only [sumR]
    rw [ih, popN_top]
    unfold bN
    cases w.testBit n <;> simp [sumR]
theorem popN_mono (w a b : Nat) (h : a ≤ b) : popN a w ≤ popN b w := by
  induction b with
  | zero => have : a = 0 := by omega
            subst this; exact Nat.le_refl _
  | succ b ih =>
    by_cases e : a = b + 1
    · rw [e]; exact Nat.le_refl _
    · have := ih (by omega)
      rw [popN_top]; omega
theorem pop_lt {w p : Nat} (hp : p < 24) (hb : w.testBit p = true) : popN p w < pop w := by
  have h1 := popN_top p w
  have h2 := popN_mono w (p + 1) 24 (by omega)
  have : bN w p = 1 := by simp [bN, hb]
  unfold pop
  omega
/-- What the places lead to, with the last sign added if need be. -/
theorem minus_all (w s : Nat) (h8 : pop w = 8) (hs : s < 128) (ys : List (Fin 24)) (h : ys.map (fun x => x.val) = pl w) :
    pop (mnP s ys).1 % 2 = pop s % 2 ∧ (if pop s % 2 = 1 then (mnP s ys).1 ^^^ 2 ^ (mnP s ys).2.2 else (mnP s ys).1) = minusW w s := by
  have e : mnP s ys = (pl w).foldl mnS (0, s, 0) := by rw [← h, List.foldl_map]; rfl
  obtain ⟨k1, k2⟩ := mn_to w s 24
  obtain ⟨b1, b2, b3, b4⟩ : (∀ i, i < 7 → (sgnN s).testBit i = s.testBit i) ∧ (sgnN s).testBit 7 = decide (pop s % 2 = 1) ∧ s.testBit 7 = false ∧ sumR 8 (fun i => if s.testBit i then 1 else 0) = pop s :=
    ⟨fun i hi => (sgn_bits ⟨s, hs⟩).1 ⟨i, hi⟩, (sgn_bits ⟨s, hs⟩).2⟩
  rw [e]
  have ep : pl w = plN w 24 := rfl
  rw [ep]
  generalize (plN w 24).foldl mnS (0, s, 0) = t at *
  obtain ⟨a, b, c⟩ := t
  simp only [Prod.mk.injEq, and_true] at k1
  obtain ⟨rfl, rfl⟩ := k1
  have h24 : popN 24 w = 8 := h8
  obtain ⟨c1, c2, c3⟩ := k2 (by omega)
  simp only at c1 c2 c3 ⊢
  have hc7 : popN c w = 7 := by omega
  refine ⟨?_, ?_⟩
  · rw [bitsN_pop]
    have : sumR 24 (fun p => if (w.testBit p && s.testBit (popN p w)) = true then 1 else 0) = sumR 24 (fun p => if w.testBit p then (fun i => if s.testBit i then 1 else 0) (popN p w) else 0) := sumR_ext 24 _ _ fun p hp => by
      cases hw : w.testBit p <;> cases hs2 : s.testBit (popN p w) <;> simp [hs2]
    rw [this, reindexR w (fun i => if s.testBit i then 1 else 0) 24, h24, b4]
  · have hl : bitsN (fun p => w.testBit p && s.testBit (popN p w)) 24 < 16777216 := bitsN_lt _ 24
    by_cases hodd : pop s % 2 = 1
    · rw [if_pos hodd]
      refine bits_eq (Nat.xor_lt_two_pow (n := 24) hl (Nat.pow_lt_pow_right (by decide) c1)) (minusW_lt w s) fun p hp => ?_
      unfold minusW
      rw [Nat.testBit_xor, bitsN_bit, bitsN_bit, Nat.testBit_two_pow]
      simp only [hp, decide_true, Bool.true_and]
      cases hb : w.testBit p
      · have : c ≠ p := fun e => by rw [e, hb] at c2; cases c2
        simp [this]
      · have hlt := pop_lt hp hb
        rw [h8] at hlt
        by_cases e7 : popN p w = 7
        · have : c = p := by
            rcases Nat.lt_trichotomy c p with hcp | hcp | hcp
            · have h1 := popN_mono w (c + 1) p (by omega)
              rw [popN_top] at h1
              have : bN w c = 1 := by simp [bN, c2]
              omega
            · exact hcp
            · have h1 := popN_mono w (p + 1) c (by omega)
              rw [popN_top] at h1
              have : bN w p = 1 := by simp [bN, hb]
              omega
          rw [e7, b2, b3]
          simp [this, hodd]
        · have hcp : c ≠ p := fun e => e7 (by rw [← e]; exact hc7)
          rw [b1 _ (by omega)]
          simp [hcp]
    · rw [if_neg hodd]
      refine bits_eq hl (minusW_lt w s) fun p hp => ?_
      unfold minusW
      rw [bitsN_bit, bitsN_bit]
      simp only [hp, decide_true, Bool.true_and]
      cases hb : w.testBit p
      · simp only [Bool.false_and]
      · have hlt := pop_lt hp hb
        rw [h8] at hlt
        by_cases e7 : popN p w = 7
        · rw [e7, b2, b3]; simp [hodd]
        · rw [b1 _ (by omega)]
theorem oct_flip (w s p : Nat) (hp : p < 24) : flipF (minusW w s) (fun p => if w.testBit p then 2 else 0) p = octV w s p := by
  unfold flipF octV
  have e : (minusW w s).testBit p = (w.testBit p && (sgnN s).testBit (popN p w)) := by unfold minusW; rw [bitsN_bit]; simp [hp]
  rw [e]
  cases hw : w.testBit p
  · simp [hw]
  · cases (sgnN s).testBit (popN p w) <;> simp [hw]

/-! ### The four words of the rests -/
def w4 (v : Nat → Int) (k : Nat) : List Int := [((restN v 0 k : Nat) : Int), ((restN v 1 k : Nat) : Int), ((restN v 2 k : Nat) : Int), ((restN v 3 k : Nat) : Int)]
theorem w4_set (v : Nat → Int) (k : Nat) : ∃ r : Nat, r < 4 ∧ v k % 4 = (r : Int) ∧ (w4 v k).getD r 0 = ((restN v (r : Int) k : Nat) : Int) ∧ (w4 v k).set r (((restN v (r : Int) k : Nat) : Int) + 2 ^ k) = w4 v (k + 1) ∧ (w4 v k).set r (((restN v (r : Int) k ^^^ 2 ^ k : Nat) : Int)) = w4 v (k + 1) := by
  have h : v k % 4 = 0 ∨ v k % 4 = 1 ∨ v k % 4 = 2 ∨ v k % 4 = 3 := by omega
  have hp : (2 : Int) ^ k = ((2 ^ k : Nat) : Int) := by push_cast; rfl
  rcases h with h | h | h | h
  · exact ⟨0, by omega, h, rfl, by simp [w4, restN, h], by rw [xor_top _ _ (restN_lt _ _ _)]; simp [w4, restN, h]⟩
  · exact ⟨1, by omega, h, rfl, by simp [w4, restN, h], by rw [xor_top _ _ (restN_lt _ _ _)]; simp [w4, restN, h]⟩
  · exact ⟨2, by omega, h, rfl, by simp [w4, restN, h], by rw [xor_top _ _ (restN_lt _ _ _)]; simp [w4, restN, h]⟩
  · exact ⟨3, by omega, h, rfl, by simp [w4, restN, h], by rw [xor_top _ _ (restN_lt _ _ _)]; simp [w4, restN, h]⟩
theorem w4_len (v : Nat → Int) (k : Nat) : (w4 v k).length = 4 := rfl
theorem sumV_rng {xs : List Int} (h : vecB xs = true) : ∀ k : Nat, -(100000 * (k : Int)) ≤ sumZ k (atL xs) ∧ sumZ k (atL xs) ≤ 100000 * (k : Int)
  | 0 => by simp [sumZ]
  | k + 1 => by
    have := sumV_rng h k
    have := vecB_rng h k
    simp only [sumZ]
    push_cast
    omega
end Go.Proofs.YtmeejnkpaiinaabDoor
