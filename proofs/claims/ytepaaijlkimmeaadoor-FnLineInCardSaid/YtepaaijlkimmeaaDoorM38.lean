/- Residues modulo 23 and moves of the line: what is moved by one and back, and how often until it is back. No program is named here. -/
namespace Go.Proofs.YtepaaijlkimmeaaDoor
set_option linter.unusedVariables false
def sqL : List Nat := [1, 2, 3, 4, 6, 8, 9, 12, 13, 16, 18]
def tnL : List Nat := [0, 1, 12, 8, 6, 14, 4, 10, 3, 18, 7, 21, 2, 16, 5, 20, 13, 19, 9, 17, 15, 11, 22]
abbrev R23 := Fin 23
def sqF (r : R23) : Bool := sqL.contains r.val
def tn (r : R23) : R23 := Fin.ofNat 23 (tnL.getD r.val 0)
theorem tn_mul : ∀ r : R23, r ≠ 0 → r * tn r = 1 := by decide
theorem sq_ne {r : R23} (h : sqF r = true) : r ≠ 0 := by rintro rfl; revert h; decide
def ovF (t b : R23) : Option R23 := if b = 0 then none else some (t * tn b)
def lmF (a b c d : R23) : Option R23 → Option R23
  | none => ovF a c
  | some x => ovF (a * x + b) (c * x + d)
theorem ne_mul {x y : R23} (hx : x ≠ 0) (hy : y ≠ 0) : x * y ≠ 0 := by
  intro h
  have h1 := tn_mul x hx
  have : tn x * (x * y) = y := by grobner
  rw [h] at this
  exact hy (by grobner)
theorem ov_of {t b y : R23} (hb : b ≠ 0) (h : y * b = t) : ovF t b = some y := by
  unfold ovF
  rw [if_neg hb, ← h]
  have := tn_mul b hb
  congr 1
  grobner
theorem ov_some {t b : R23} (hb : b ≠ 0) : ∃ y, ovF t b = some y ∧ y * b = t := by
  refine ⟨t * tn b, by simp [ovF, hb], ?_⟩
  have := tn_mul b hb
  grobner
theorem ov_none (t : R23) : ovF t 0 = none := by simp [ovF]
theorem mv_back (a b c d : R23) (hD : a * d - b * c ≠ 0) (x : Option R23) : lmF d (-b) (-c) a (lmF a b c d x) = x := by
  cases x with
  | none =>
    show lmF d (-b) (-c) a (ovF a c) = none
    by_cases hc : c = 0
    · subst hc
      rw [ov_none]
      show ovF d (-0) = none
      rw [show (-0 : R23) = 0 by decide, ov_none]
    · obtain ⟨y, hy, e⟩ := ov_some (t := a) hc
      rw [hy]
      show ovF (d * y + -b) (-c * y + a) = none
      rw [show -c * y + a = 0 by grobner, ov_none]
  | some x =>
    show lmF d (-b) (-c) a (ovF (a * x + b) (c * x + d)) = some x
    by_cases hb : c * x + d = 0
    · rw [hb, ov_none]
      show ovF d (-c) = some x
      by_cases hc : c = 0
      · exact absurd (show a * d - b * c = 0 by grobner) hD
      · exact ov_of (by grobner) (by grobner)
    · obtain ⟨y, hy, e⟩ := ov_some (t := a * x + b) hb
      rw [hy]
      show ovF (d * y + -b) (-c * y + a) = some x
      refine ov_of (fun h => hD ?_) (by grobner)
      have h1 : d * y = b := by grobner
      grobner
/-- What the vector (u, v) stands for. -/
def prF (q : R23 × R23) : Option R23 := ovF q.1 q.2
def acF (a b c d : R23) (q : R23 × R23) : R23 × R23 := (a * q.1 + b * q.2, c * q.1 + d * q.2)
theorem pr_scale (s u v : R23) (hs : s ≠ 0) : prF (s * u, s * v) = prF (u, v) := by
  unfold prF
  by_cases hv : v = 0
  · subst hv; simp only [show s * (0 : R23) = 0 by grobner, ovF, if_true]
  · obtain ⟨y, hy, e⟩ := ov_some (t := u) hv
    simp only [hy]
    exact ov_of (ne_mul hs hv) (by grobner)
theorem ac_ne (a b c d : R23) (hD : a * d - b * c ≠ 0) (q : R23 × R23) (hq : q ≠ (0, 0)) : acF a b c d q ≠ (0, 0) := by
  obtain ⟨u, v⟩ := q
  intro h
  simp only [acF, Prod.mk.injEq] at h
  have h1 : (a * d - b * c) * u = 0 := by grobner
  have h2 : (a * d - b * c) * v = 0 := by grobner
  have hu : u = 0 := Classical.byContradiction fun n => ne_mul hD n h1
  have hv : v = 0 := Classical.byContradiction fun n => ne_mul hD n h2
  exact hq (by rw [hu, hv])
theorem pr_ac (a b c d : R23) (q : R23 × R23) (hq : q ≠ (0, 0)) : lmF a b c d (prF q) = prF (acF a b c d q) := by
  obtain ⟨u, v⟩ := q
  by_cases hv : v = 0
  · subst hv
    have hu : u ≠ 0 := fun h => hq (by rw [h])
    have : prF (u, 0) = none := ov_none u
    rw [this]
    show ovF a c = prF (a * u + b * 0, c * u + d * 0)
    rw [show a * u + b * 0 = u * a by grobner, show c * u + d * 0 = u * c by grobner, pr_scale u a c hu]
    rfl
  · obtain ⟨x, hx, e⟩ := ov_some (t := u) hv
    have : prF (u, v) = some x := hx
    rw [this]
    show ovF (a * x + b) (c * x + d) = prF (a * u + b * v, c * u + d * v)
    rw [show a * u + b * v = v * (a * x + b) by grobner, show c * u + d * v = v * (c * x + d) by grobner, pr_scale v _ _ hv]
    rfl
def acN (a b c d : R23) : Nat → R23 × R23 → R23 × R23
  | 0, q => q
  | n + 1, q => acF a b c d (acN a b c d n q)
def mvN (a b c d : R23) : Nat → Option R23 → Option R23
  | 0, x => x
  | n + 1, x => lmF a b c d (mvN a b c d n x)
theorem acN_ne (a b c d : R23) (hD : a * d - b * c ≠ 0) (q : R23 × R23) (hq : q ≠ (0, 0)) : ∀ n, acN a b c d n q ≠ (0, 0)
  | 0 => hq
  | n + 1 => ac_ne a b c d hD _ (acN_ne a b c d hD q hq n)
theorem mvN_pr (a b c d : R23) (hD : a * d - b * c ≠ 0) (q : R23 × R23) (hq : q ≠ (0, 0)) : ∀ n, mvN a b c d n (prF q) = prF (acN a b c d n q)
  | 0 => rfl
  | n + 1 => by
    show lmF a b c d (mvN a b c d n (prF q)) = _
    rw [mvN_pr a b c d hD q hq n, pr_ac _ _ _ _ _ (acN_ne a b c d hD q hq n)]
    rfl
/-- The numbers p(n), p(n+1) with p(0) = 0, p(1) = 1, p(n+2) = t p(n+1) - d p(n). -/
def poF (t d : R23) : Nat → R23 × R23
  | 0 => (0, 1)
  | n + 1 => ((poF t d n).2, t * (poF t d n).2 - d * (poF t d n).1)
theorem acN_po (a b c d : R23) (u v : R23) : ∀ n, acN a b c d (n + 1) (u, v) =
    ((poF (a + d) (a * d - b * c) (n + 1)).1 * (a * u + b * v) - (a * d - b * c) * (poF (a + d) (a * d - b * c) n).1 * u,
     (poF (a + d) (a * d - b * c) (n + 1)).1 * (c * u + d * v) - (a * d - b * c) * (poF (a + d) (a * d - b * c) n).1 * v)
  | 0 => by
    simp only [acN, acF, poF, Prod.mk.injEq]
    constructor <;> grobner
  | n + 1 => by
    have ih := acN_po a b c d u v n
    show acF a b c d (acN a b c d (n + 1) (u, v)) = _
    rw [ih]
    have h2 : (poF (a + d) (a * d - b * c) (n + 1 + 1)).1 = (a + d) * (poF (a + d) (a * d - b * c) (n + 1)).1 - (a * d - b * c) * (poF (a + d) (a * d - b * c) n).1 := rfl
    rw [h2]
    generalize (poF (a + d) (a * d - b * c) (n + 1)).1 = P
    generalize (poF (a + d) (a * d - b * c) n).1 = Q
    simp only [acF, Prod.mk.injEq]
    constructor <;> grobner
def ordB (t d : R23) (n : Nat) : Bool := (poF t d n).1 == 0 && (poF t d (n - 1)).1 != 0
theorem ord_all : ∀ t d : R23, sqF d = true → (ordB t d 11 || ordB t d 12 || ordB t d 23) = true := by decide +kernel
theorem mvN_id (a b c d : R23) (hD : a * d - b * c ≠ 0) (n : Nat) (h : ordB (a + d) (a * d - b * c) (n + 1) = true) (x : Option R23) : mvN a b c d (n + 1) x = x := by
  simp only [ordB, Bool.and_eq_true, beq_iff_eq, bne_iff_ne, ne_eq, Nat.add_sub_cancel] at h
  have main : ∀ q : R23 × R23, q ≠ (0, 0) → mvN a b c d (n + 1) (prF q) = prF q := by
    rintro ⟨u, v⟩ hq
    rw [mvN_pr a b c d hD _ hq, acN_po, h.1]
    generalize (poF (a + d) (a * d - b * c) n).1 = Q at h
    have hs : -((a * d - b * c) * Q) ≠ 0 := by
      have := ne_mul hD h.2
      intro h0
      exact this (by grobner)
    have e1 : 0 * (a * u + b * v) - (a * d - b * c) * Q * u = -((a * d - b * c) * Q) * u := by grobner
    have e2 : 0 * (c * u + d * v) - (a * d - b * c) * Q * v = -((a * d - b * c) * Q) * v := by grobner
    rw [e1, e2]
    exact pr_scale _ _ _ hs
  cases x with
  | none => exact main (1, 0) (by decide)
  | some x =>
    have := main (x, 1) (by simp)
    have e : prF (x, 1) = some x := ov_of (show (1 : R23) ≠ 0 by decide) (show x * 1 = x by grobner)
    rwa [e] at this
theorem mv_ord (a b c d : R23) (hD : sqF (a * d - b * c) = true) : ∃ n, (n = 11 ∨ n = 12 ∨ n = 23) ∧ ∀ x, mvN a b c d n x = x := by
  have h := ord_all (a + d) (a * d - b * c) hD
  simp only [Bool.or_eq_true] at h
  rcases h with (h | h) | h
  · exact ⟨11, by simp, mvN_id a b c d (sq_ne hD) 10 h⟩
  · exact ⟨12, by simp, mvN_id a b c d (sq_ne hD) 11 h⟩
  · exact ⟨23, by simp, mvN_id a b c d (sq_ne hD) 22 h⟩
def lpOf (k : Nat) : Option R23 := if h : k < 23 then some ⟨k, h⟩ else none
def lpNo : Option R23 → Nat
  | none => 23
  | some x => x.val
theorem lpNo_lt (x : Option R23) : lpNo x < 24 := by
  cases x with
  | none => decide
  | some x => exact Nat.lt_succ_of_lt x.isLt
theorem lpOf_no (x : Option R23) : lpOf (lpNo x) = x := by
  cases x with
  | none => rfl
  | some x => simp [lpOf, lpNo, x.isLt]
theorem lpNo_of (k : Nat) (h : k < 24) : lpNo (lpOf k) = k := by
  unfold lpOf
  split
  · rfl
  · show 23 = k; omega
end Go.Proofs.YtepaaijlkimmeaaDoor
