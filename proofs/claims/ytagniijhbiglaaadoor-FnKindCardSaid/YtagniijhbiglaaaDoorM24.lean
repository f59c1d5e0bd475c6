/- Tables of two sextets: the rows that have the greatest number are as many as the columns. No program is named here. -/
import Derived.Test.YtagniijhbiglaaaDoorM23
namespace Go.Proofs.YtagniijhbiglaaaDoor
set_option linter.unusedVariables false
attribute [local irreducible] octS cN octF syn

/-- Sums of both pairs of tetrads have an even number of places in common. -/
theorem tab_even {u v : Int} (hu : Tet u) (hv : Tet v) (i k : Nat) (hi : i < 6) (hk : k < 6) :
    (tabE (sxOf u) (sxOf v) 0 0 + tabE (sxOf u) (sxOf v) 0 k + tabE (sxOf u) (sxOf v) i 0 + tabE (sxOf u) (sxOf v) i k) % 2 = 0 := by
  unfold tabE
  by_cases e1 : i = 0
  · subst e1; omega
  by_cases e2 : k = 0
  · subst e2; omega
  obtain ⟨a1, a2⟩ := sx_apart hu (sx_at hu 0 (by omega)) (sx_at hu i hi) (sx_ne hu 0 i (by omega) hi (by omega))
  obtain ⟨b1, b2⟩ := sx_apart hv (sx_at hv 0 (by omega)) (sx_at hv k hk) (sx_ne hv 0 k (by omega) hk (by omega))
  obtain ⟨A0, ea, _, _⟩ := (sxOf_same hu (sx_at hu 0 (by omega))).1.nat
  obtain ⟨A1, ea1, _, _⟩ := (sxOf_same hu (sx_at hu i hi)).1.nat
  obtain ⟨B0, eb, _, _⟩ := (sxOf_same hv (sx_at hv 0 (by omega))).1.nat
  obtain ⟨B1, eb1, _, _⟩ := (sxOf_same hv (sx_at hv k hk)).1.nat
  rw [ea, ea1] at a1 a2
  rw [eb, eb1] at b1 b2
  rw [ea, ea1, eb, eb1]
  rw [andI_nat] at a1 b1
  rw [xorI_nat] at a2 b2
  obtain ⟨m, hm, em, hm8⟩ := a2
  obtain ⟨n, hn, en, hn8⟩ := b2
  rw [codeOf_cN m hm] at em
  rw [codeOf_cN n hn] at en
  have em' : cN m = A0 ^^^ A1 := by omega
  have en' : cN n = B0 ^^^ B1 := by omega
  have p1 := pop_xor (cN m) (cN n)
  rw [← cN_xor] at p1
  have w1 := (code_wts (m ^^^ n) (xor_lt12 m n hm hn)).1
  rw [wt_pop] at hm8 hn8
  rw [← em'] at hm8
  rw [← en'] at hn8
  have p2 : pop (cN m &&& cN n) % 2 = 0 := by omega
  have d1 : A0 &&& A1 = 0 := by omega
  have d2 : B0 &&& B1 = 0 := by omega
  have s1 : pop ((A0 ^^^ A1) &&& (B0 ^^^ B1)) = pop (A0 &&& B0) + pop (A0 &&& B1) + pop (A1 &&& B0) + pop (A1 &&& B1) := by
    have z : ∀ X Y : Nat, pop (X &&& Y) = pop (X &&& Y) := fun _ _ => rfl
    have hx : ∀ X P Q : Nat, P &&& Q = 0 → pop ((P ^^^ Q) &&& X) = pop (P &&& X) + pop (Q &&& X) := fun X P Q h => by
      have := pop_xor (P &&& X) (Q &&& X)
      rw [← Nat.and_xor_distrib_right] at this
      have h0 : (P &&& X) &&& (Q &&& X) = 0 := by
        rw [Nat.and_assoc, ← Nat.and_assoc X Q X, Nat.and_comm X Q, Nat.and_assoc Q X X, ← Nat.and_assoc P Q, h, Nat.zero_and]
      rw [h0, pop_zero_] at this
      omega
    rw [hx _ A0 A1 d1, Nat.and_comm A0 (B0 ^^^ B1), Nat.and_comm A1 (B0 ^^^ B1), hx _ B0 B1 d2, hx _ B0 B1 d2, Nat.and_comm B0 A0, Nat.and_comm B1 A0, Nat.and_comm B0 A1, Nat.and_comm B1 A1]
    omega
  rw [andI_nat, andI_nat, andI_nat, andI_nat, wt_pop, wt_pop, wt_pop, wt_pop]
  rw [em', en', s1] at p2
  omega

/-! ### Parities -/
theorem six_four (a b c d e f : Int) (ha : 0 ≤ a) (hb : 0 ≤ b) (hc : 0 ≤ c) (hd : 0 ≤ d) (he : 0 ≤ e) (hf : 0 ≤ f) (h : a + b + c + d + e + f = 4) (a2 : a ≤ 2) (b2 : b ≤ 2) (c2 : c ≤ 2) (d2 : d ≤ 2) (e2 : e ≤ 2) (f2 : f ≤ 2) :
    (a % 2 + b % 2 + c % 2 + d % 2 + e % 2 + f % 2 < 4 → (a = 2 ∨ b = 2 ∨ c = 2 ∨ d = 2 ∨ e = 2 ∨ f = 2)) := by
  intro h2
  refine Classical.byContradiction fun hn => ?_
  have a1 : a ≤ 1 := by omega
  have b1 : b ≤ 1 := by omega
  have c1 : c ≤ 1 := by omega
  have d1 : d ≤ 1 := by omega
  have e1 : e ≤ 1 := by omega
  have f1 : f ≤ 1 := by omega
  have q1 : a % 2 = a := by omega
  have q2 : b % 2 = b := by omega
  have q3 : c % 2 = c := by omega
  have q4 : d % 2 = d := by omega
  have q5 : e % 2 = e := by omega
  have q6 : f % 2 = f := by omega
  omega
theorem six_four2 (a b c d e f : Int) (ha : 0 ≤ a) (hb : 0 ≤ b) (hc : 0 ≤ c) (hd : 0 ≤ d) (he : 0 ≤ e) (hf : 0 ≤ f) (h : a + b + c + d + e + f = 4) :
    a % 2 + b % 2 + c % 2 + d % 2 + e % 2 + f % 2 ≤ 4 ∧ (a = 2 ∨ b = 2 ∨ c = 2 ∨ d = 2 ∨ e = 2 ∨ f = 2 → a % 2 + b % 2 + c % 2 + d % 2 + e % 2 + f % 2 < 4) := by
  have p1 : a % 2 ≤ a ∧ 0 ≤ a % 2 := by omega
  have p2 : b % 2 ≤ b ∧ 0 ≤ b % 2 := by omega
  have p3 : c % 2 ≤ c ∧ 0 ≤ c % 2 := by omega
  have p4 : d % 2 ≤ d ∧ 0 ≤ d % 2 := by omega
  have p5 : e % 2 ≤ e ∧ 0 ≤ e % 2 := by omega
  have p6 : f % 2 ≤ f ∧ 0 ≤ f % 2 := by omega
  refine ⟨?_, ?_⟩
  · generalize a % 2 = a' at *
    generalize b % 2 = b' at *
    generalize c % 2 = c' at *
    generalize d % 2 = d' at *
    generalize e % 2 = e' at *
    generalize f % 2 = f' at *
    omega
  · intro hh
    have z : (2 : Int) % 2 = 0 := rfl
    rcases hh with rfl | rfl | rfl | rfl | rfl | rfl
    all_goals
      rw [z]
      try generalize a % 2 = a' at *
      try generalize b % 2 = b' at *
      try generalize c % 2 = c' at *
      try generalize d % 2 = d' at *
      try generalize e % 2 = e' at *
      try generalize f % 2 = f' at *
      omega
def on6 (f : Nat → Nat) : Nat := f 0 + f 1 + f 2 + f 3 + f 4 + f 5
theorem on6_two (ρ : Nat → Nat) (x y : Nat) (h : ∀ i, i < 6 → ρ i = 0 ∨ ρ i = 1) : on6 (fun i => if ρ i = 0 then x else y) = (6 - on6 ρ) * x + on6 ρ * y := by
  unfold on6
  rcases h 0 (by omega) with e0 | e0 <;> rcases h 1 (by omega) with e1 | e1 <;> rcases h 2 (by omega) with e2 | e2 <;> rcases h 3 (by omega) with e3 | e3 <;> rcases h 4 (by omega) with e4 | e4 <;> rcases h 5 (by omega) with e5 | e5 <;> simp only [e0, e1, e2, e3, e4, e5, if_true] <;> simp <;> omega
theorem ones_eq (κ : Nat → Nat) (r : Nat) (h : ∀ i, i < 6 → κ i = 0 ∨ κ i = 1) (hr : r = 0 ∨ r = 1) : on6 (fun k => (r + κ k) % 2) = if r = 0 then on6 κ else 6 - on6 κ := by
  unfold on6
  have h0 := h 0 (by omega)
  have h1 := h 1 (by omega)
  have h2 := h 2 (by omega)
  have h3 := h 3 (by omega)
  have h4 := h 4 (by omega)
  have h5 := h 5 (by omega)
  rcases hr with rfl | rfl
  · rw [if_pos rfl]
    dsimp only
    have q : ∀ x, x = 0 ∨ x = 1 → (0 + x) % 2 = x := fun x hx => by omega
    rw [q _ h0, q _ h1, q _ h2, q _ h3, q _ h4, q _ h5]
  · rw [if_neg (by decide)]
    dsimp only
    have q : ∀ x, x = 0 ∨ x = 1 → (1 + x) % 2 = 1 - x := fun x hx => by omega
    rw [q _ h0, q _ h1, q _ h2, q _ h3, q _ h4, q _ h5]
    omega
theorem fin7 : ∀ R : Fin 7, ∀ C : Fin 7, (R.val < 6 → C.val ≤ 4) → (0 < R.val → 6 - C.val ≤ 4) → (C.val < 6 → R.val ≤ 4) → (0 < C.val → 6 - R.val ≤ 4) → C.val % 2 = 0 → R.val % 2 = 0 →
    (6 - R.val) * (if C.val < 4 then 1 else 0) + R.val * (if 6 - C.val < 4 then 1 else 0) = (6 - C.val) * (if R.val < 4 then 1 else 0) + C.val * (if 6 - R.val < 4 then 1 else 0) := by decide

def sum6 (f : Nat → Int) : Int := f 0 + f 1 + f 2 + f 3 + f 4 + f 5
/-- Whether a row has a number. -/
def has6 (f : Nat → Int) (m : Int) : Prop := f 0 = m ∨ f 1 = m ∨ f 2 = m ∨ f 3 = m ∨ f 4 = m ∨ f 5 = m
instance (f : Nat → Int) (m : Int) : Decidable (has6 f m) := by unfold has6; infer_instance
def rowsN (t : Nat → Nat → Int) (m : Int) : Nat := on6 fun i => if has6 (t i) m then 1 else 0
theorem on6_ext (f g : Nat → Nat) (h : ∀ i, i < 6 → f i = g i) : on6 f = on6 g := by
  unfold on6
  rw [h 0 (by omega), h 1 (by omega), h 2 (by omega), h 3 (by omega), h 4 (by omega), h 5 (by omega)]
theorem on6_le (f : Nat → Nat) (h : ∀ i, i < 6 → f i = 0 ∨ f i = 1) : on6 f ≤ 6 := by
  unfold on6
  have h0 := h 0 (by omega)
  have h1 := h 1 (by omega)
  have h2 := h 2 (by omega)
  have h3 := h 3 (by omega)
  have h4 := h 4 (by omega)
  have h5 := h 5 (by omega)
  omega
theorem on6_some (f : Nat → Nat) (h : ∀ i, i < 6 → f i = 0 ∨ f i = 1) : (on6 f < 6 → ∃ i, i < 6 ∧ f i = 0) ∧ (0 < on6 f → ∃ i, i < 6 ∧ f i = 1) := by
  refine ⟨fun hl => Classical.byContradiction fun hn => ?_, fun hl => Classical.byContradiction fun hn => ?_⟩
  · have a : ∀ i, i < 6 → f i = 1 := fun i hi => (h i hi).resolve_left fun e => hn ⟨i, hi, e⟩
    unfold on6 at hl
    rw [a 0 (by omega), a 1 (by omega), a 2 (by omega), a 3 (by omega), a 4 (by omega), a 5 (by omega)] at hl
    omega
  · have a : ∀ i, i < 6 → f i = 0 := fun i hi => (h i hi).resolve_right fun e => hn ⟨i, hi, e⟩
    unfold on6 at hl
    rw [a 0 (by omega), a 1 (by omega), a 2 (by omega), a 3 (by omega), a 4 (by omega), a 5 (by omega)] at hl
    omega
theorem rows_two (t : Nat → Nat → Int) (ρ κ : Nat → Nat) (h0 : ∀ i k, i < 6 → k < 6 → 0 ≤ t i k ∧ t i k ≤ 2) (hs : ∀ i, i < 6 → sum6 (t i) = 4) (hρ : ∀ i, i < 6 → ρ i = 0 ∨ ρ i = 1) (hκ : ∀ i, i < 6 → κ i = 0 ∨ κ i = 1)
    (hp : ∀ i k, i < 6 → k < 6 → t i k % 2 = (((ρ i + κ k) % 2 : Nat) : Int)) :
    rowsN t 2 = (6 - on6 ρ) * (if on6 κ < 4 then 1 else 0) + on6 ρ * (if 6 - on6 κ < 4 then 1 else 0) ∧ (on6 ρ < 6 → on6 κ ≤ 4) ∧ (0 < on6 ρ → 6 - on6 κ ≤ 4) ∧ on6 κ % 2 = 0 := by
  have key : ∀ i, i < 6 → (has6 (t i) 2 ↔ on6 (fun k => (ρ i + κ k) % 2) < 4) ∧ on6 (fun k => (ρ i + κ k) % 2) ≤ 4 ∧ on6 (fun k => (ρ i + κ k) % 2) % 2 = 0 := fun i hi => by
    have s := hs i hi
    unfold sum6 at s
    have q1 := six_four2 _ _ _ _ _ _ (h0 i 0 hi (by omega)).1 (h0 i 1 hi (by omega)).1 (h0 i 2 hi (by omega)).1 (h0 i 3 hi (by omega)).1 (h0 i 4 hi (by omega)).1 (h0 i 5 hi (by omega)).1 s
    have q2 := six_four _ _ _ _ _ _ (h0 i 0 hi (by omega)).1 (h0 i 1 hi (by omega)).1 (h0 i 2 hi (by omega)).1 (h0 i 3 hi (by omega)).1 (h0 i 4 hi (by omega)).1 (h0 i 5 hi (by omega)).1 s (h0 i 0 hi (by omega)).2 (h0 i 1 hi (by omega)).2 (h0 i 2 hi (by omega)).2 (h0 i 3 hi (by omega)).2 (h0 i 4 hi (by omega)).2 (h0 i 5 hi (by omega)).2
    have e : t i 0 % 2 + t i 1 % 2 + t i 2 % 2 + t i 3 % 2 + t i 4 % 2 + t i 5 % 2 = ((on6 (fun k => (ρ i + κ k) % 2) : Nat) : Int) := by
      rw [hp i 0 hi (by omega), hp i 1 hi (by omega), hp i 2 hi (by omega), hp i 3 hi (by omega), hp i 4 hi (by omega), hp i 5 hi (by omega)]
      unfold on6
      try dsimp only
      omega
    have ev : (t i 0 % 2 + t i 1 % 2 + t i 2 % 2 + t i 3 % 2 + t i 4 % 2 + t i 5 % 2) % 2 = 0 := by omega
    rw [e] at q1 q2 ev
    unfold has6
    refine ⟨⟨fun h => ?_, fun h => ?_⟩, ?_, ?_⟩
    · have := q1.2 h; omega
    · exact q2 (by omega)
    · have := q1.1; omega
    · omega
  have ho : ∀ i, i < 6 → on6 (fun k => (ρ i + κ k) % 2) = if ρ i = 0 then on6 κ else 6 - on6 κ := fun i hi => ones_eq κ (ρ i) hκ (hρ i hi)
  have hC := on6_le κ hκ
  obtain ⟨s1, s2⟩ := on6_some ρ hρ
  refine ⟨?_, fun hl => ?_, fun hl => ?_, ?_⟩
  · rw [← on6_two ρ _ _ hρ]
    unfold rowsN
    refine on6_ext _ _ fun i hi => ?_
    try dsimp only
    have k1 := (key i hi).1
    rw [ho i hi] at k1
    rcases hρ i hi with e | e
    · rw [if_pos e] at k1 ⊢
      by_cases hh : on6 κ < 4
      · rw [if_pos (k1.2 hh), if_pos hh]
      · rw [if_neg (fun h => hh (k1.1 h)), if_neg hh]
    · have e' : ¬ ρ i = 0 := by omega
      rw [if_neg e'] at k1 ⊢
      by_cases hh : 6 - on6 κ < 4
      · rw [if_pos (k1.2 hh), if_pos hh]
      · rw [if_neg (fun h => hh (k1.1 h)), if_neg hh]
  · obtain ⟨i, hi, e⟩ := s1 hl
    have := (key i hi).2.1
    rw [ho i hi, if_pos e] at this
    exact this
  · obtain ⟨i, hi, e⟩ := s2 hl
    have := (key i hi).2.1
    rw [ho i hi, if_neg (by omega)] at this
    exact this
  · have := (key 0 (by omega)).2.2
    rw [ho 0 (by omega)] at this
    split at this <;> omega
theorem six_one (a b c d e f m : Int) (ha : 0 ≤ a) (hb : 0 ≤ b) (hc : 0 ≤ c) (hd : 0 ≤ d) (he : 0 ≤ e) (hf : 0 ≤ f) (h : a + b + c + d + e + f = 4) (hm : 3 ≤ m) :
    (if a = m ∨ b = m ∨ c = m ∨ d = m ∨ e = m ∨ f = m then 1 else 0 : Nat) = (if a = m then 1 else 0) + (if b = m then 1 else 0) + (if c = m then 1 else 0) + (if d = m then 1 else 0) + (if e = m then 1 else 0) + (if f = m then 1 else 0) := by
  by_cases h1 : a = m
  · rw [if_pos (.inl h1), if_pos h1, if_neg (by omega), if_neg (by omega), if_neg (by omega), if_neg (by omega), if_neg (by omega)]
  by_cases h2 : b = m
  · rw [if_pos (.inr (.inl h2)), if_neg h1, if_pos h2, if_neg (by omega), if_neg (by omega), if_neg (by omega), if_neg (by omega)]
  by_cases h3 : c = m
  · rw [if_pos (.inr (.inr (.inl h3))), if_neg h1, if_neg h2, if_pos h3, if_neg (by omega), if_neg (by omega), if_neg (by omega)]
  by_cases h4 : d = m
  · rw [if_pos (.inr (.inr (.inr (.inl h4)))), if_neg h1, if_neg h2, if_neg h3, if_pos h4, if_neg (by omega), if_neg (by omega)]
  by_cases h5 : e = m
  · rw [if_pos (.inr (.inr (.inr (.inr (.inl h5))))), if_neg h1, if_neg h2, if_neg h3, if_neg h4, if_pos h5, if_neg (by omega)]
  by_cases h6 : f = m
  · rw [if_pos (.inr (.inr (.inr (.inr (.inr h6))))), if_neg h1, if_neg h2, if_neg h3, if_neg h4, if_neg h5, if_pos h6]
  · rw [if_neg (by rintro (h | h | h | h | h | h) <;> contradiction), if_neg h1, if_neg h2, if_neg h3, if_neg h4, if_neg h5, if_neg h6]
/-- The rows that have the greatest number are as many as the columns. -/
theorem rows_cols (t : Nat → Nat → Int) (m : Int) (h0 : ∀ i k, i < 6 → k < 6 → 0 ≤ t i k ∧ t i k ≤ m) (hs : ∀ i, i < 6 → sum6 (t i) = 4) (hs2 : ∀ k, k < 6 → sum6 (fun i => t i k) = 4)
    (hp : ∀ i k, i < 6 → k < 6 → (t 0 0 + t 0 k + t i 0 + t i k) % 2 = 0) : rowsN t m = rowsN (fun k i => t i k) m := by
  by_cases hm3 : 3 ≤ m
  · have r1 : ∀ i, i < 6 → (if has6 (t i) m then 1 else 0 : Nat) = on6 fun k => if t i k = m then 1 else 0 := fun i hi =>
      six_one _ _ _ _ _ _ m (h0 i 0 hi (by omega)).1 (h0 i 1 hi (by omega)).1 (h0 i 2 hi (by omega)).1 (h0 i 3 hi (by omega)).1 (h0 i 4 hi (by omega)).1 (h0 i 5 hi (by omega)).1 (hs i hi) hm3
    have r2 : ∀ k, k < 6 → (if has6 (fun i => t i k) m then 1 else 0 : Nat) = on6 fun i => if t i k = m then 1 else 0 := fun k hk =>
      six_one _ _ _ _ _ _ m (h0 0 k (by omega) hk).1 (h0 1 k (by omega) hk).1 (h0 2 k (by omega) hk).1 (h0 3 k (by omega) hk).1 (h0 4 k (by omega) hk).1 (h0 5 k (by omega) hk).1 (hs2 k hk) hm3
    unfold rowsN
    rw [on6_ext _ _ r1, on6_ext _ _ r2]
    unfold on6
    dsimp only
    omega
  · have one : ∀ (f : Nat → Int), (∀ k, k < 6 → 0 ≤ f k ∧ f k ≤ m) → sum6 f = 4 → m < 2 → (if has6 f m then 1 else 0 : Nat) = 1 := fun f hf hsf hm => by
      have a0 := hf 0 (by omega)
      have a1 := hf 1 (by omega)
      have a2 := hf 2 (by omega)
      have a3 := hf 3 (by omega)
      have a4 := hf 4 (by omega)
      have a5 := hf 5 (by omega)
      unfold sum6 at hsf
      refine if_pos (Classical.byContradiction fun hn => ?_)
      unfold has6 at hn
      have b0 : ¬ f 0 = m := fun h => hn (.inl h)
      have b1 : ¬ f 1 = m := fun h => hn (.inr (.inl h))
      have b2 : ¬ f 2 = m := fun h => hn (.inr (.inr (.inl h)))
      have b3 : ¬ f 3 = m := fun h => hn (.inr (.inr (.inr (.inl h))))
      omega
    by_cases hm2 : m < 2
    · unfold rowsN
      rw [on6_ext _ (fun _ => 1) fun i hi => one (t i) (fun k hk => h0 i k hi hk) (hs i hi) hm2, on6_ext _ (fun _ => 1) fun k hk => one (fun i => t i k) (fun i hi => h0 i k hi hk) (hs2 k hk) hm2]
    · obtain rfl : m = 2 := by omega
      have bit : ∀ x : Int, (x % 2).toNat = 0 ∨ (x % 2).toNat = 1 := fun x => by omega
      have hr : ∀ i, i < 6 → (t i 0 % 2).toNat = 0 ∨ (t i 0 % 2).toNat = 1 := fun i _ => bit _
      have hk : ∀ k, k < 6 → ((t 0 0 + t 0 k) % 2).toNat = 0 ∨ ((t 0 0 + t 0 k) % 2).toNat = 1 := fun k _ => bit _
      have A := rows_two t (fun i => (t i 0 % 2).toNat) (fun k => ((t 0 0 + t 0 k) % 2).toNat) h0 hs hr hk (fun i k hi hk => by have := hp i k hi hk; (try dsimp only); omega)
      have Bq := rows_two (fun k i => t i k) (fun k => ((t 0 0 + t 0 k) % 2).toNat) (fun i => (t i 0 % 2).toNat) (fun k i hk hi => h0 i k hi hk) hs2 hk hr (fun k i hk hi => by have := hp i k hi hk; (try dsimp only); omega)
      have l1 := on6_le _ hr
      have l2 := on6_le _ hk
      rw [A.1, Bq.1]
      exact fin7 ⟨_, Nat.lt_succ_of_le l1⟩ ⟨_, Nat.lt_succ_of_le l2⟩ A.2.1 A.2.2.1 Bq.2.1 Bq.2.2.1 A.2.2.2 Bq.2.2.2
end Go.Proofs.YtagniijhbiglaaaDoor
