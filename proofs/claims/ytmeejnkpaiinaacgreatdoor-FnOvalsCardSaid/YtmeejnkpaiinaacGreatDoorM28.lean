/- Fours of points no three of which are on a line: the three further points, and their line. No program is named here. -/
import Derived.Test.YtmeejnkpaiinaacGreatDoorM27
namespace Go.Proofs.YtmeejnkpaiinaacGreatDoor
set_option linter.unusedVariables false
attribute [local irreducible] octS cN octF syn

/-- Four points no three of which are on a line. -/
structure Arc (B p0 p1 p2 p3 : Nat) : Prop where
  base : IsBase B
  lt : p0 < 24 ∧ p1 < 24 ∧ p2 < 24 ∧ p3 < 24
  ne : p0 ≠ p1 ∧ p0 ≠ p2 ∧ p0 ≠ p3 ∧ p1 ≠ p2 ∧ p1 ≠ p3 ∧ p2 ≠ p3
  off : B.testBit p0 = false ∧ B.testBit p1 = false ∧ B.testBit p2 = false ∧ B.testBit p3 = false
  t012 : ∀ l, IsLine B l → l.testBit p0 = true → l.testBit p1 = true → l.testBit p2 = true → False
  t013 : ∀ l, IsLine B l → l.testBit p0 = true → l.testBit p1 = true → l.testBit p3 = true → False
  t023 : ∀ l, IsLine B l → l.testBit p0 = true → l.testBit p2 = true → l.testBit p3 = true → False
  t123 : ∀ l, IsLine B l → l.testBit p1 = true → l.testBit p2 = true → l.testBit p3 = true → False
/-- The six lines through each two of four points, and where opposite ones meet. -/
structure Four (B p0 p1 p2 p3 l01 l23 l02 l13 l03 l12 a b c : Nat) : Prop where
  arc : Arc B p0 p1 p2 p3
  i01 : IsLine B l01 ∧ l01.testBit p0 = true ∧ l01.testBit p1 = true
  i23 : IsLine B l23 ∧ l23.testBit p2 = true ∧ l23.testBit p3 = true
  i02 : IsLine B l02 ∧ l02.testBit p0 = true ∧ l02.testBit p2 = true
  i13 : IsLine B l13 ∧ l13.testBit p1 = true ∧ l13.testBit p3 = true
  i03 : IsLine B l03 ∧ l03.testBit p0 = true ∧ l03.testBit p3 = true
  i12 : IsLine B l12 ∧ l12.testBit p1 = true ∧ l12.testBit p2 = true
  a24 : a < 24 ∧ l01 &&& l23 = 2 ^ a ∧ l01.testBit a = true ∧ l23.testBit a = true
  b24 : b < 24 ∧ l02 &&& l13 = 2 ^ b ∧ l02.testBit b = true ∧ l13.testBit b = true
  c24 : c < 24 ∧ l03 &&& l12 = 2 ^ c ∧ l03.testBit c = true ∧ l12.testBit c = true
theorem Arc.swap12 {B p0 p1 p2 p3 : Nat} (h : Arc B p0 p1 p2 p3) : Arc B p0 p2 p1 p3 where
  base := h.base
  lt := ⟨h.lt.1, h.lt.2.2.1, h.lt.2.1, h.lt.2.2.2⟩
  ne := ⟨h.ne.2.1, h.ne.1, h.ne.2.2.1, fun e => h.ne.2.2.2.1 e.symm, h.ne.2.2.2.2.2, h.ne.2.2.2.2.1⟩
  off := ⟨h.off.1, h.off.2.2.1, h.off.2.1, h.off.2.2.2⟩
  t012 := fun l hl a b c => h.t012 l hl a c b
  t013 := h.t023
  t023 := h.t013
  t123 := fun l hl a b c => h.t123 l hl b a c
theorem Arc.swap23 {B p0 p1 p2 p3 : Nat} (h : Arc B p0 p1 p2 p3) : Arc B p0 p1 p3 p2 where
  base := h.base
  lt := ⟨h.lt.1, h.lt.2.1, h.lt.2.2.2, h.lt.2.2.1⟩
  ne := ⟨h.ne.1, h.ne.2.2.1, h.ne.2.1, h.ne.2.2.2.2.1, h.ne.2.2.2.1, fun e => h.ne.2.2.2.2.2 e.symm⟩
  off := ⟨h.off.1, h.off.2.1, h.off.2.2.2, h.off.2.2.1⟩
  t012 := h.t013
  t013 := h.t012
  t023 := fun l hl a b c => h.t023 l hl a c b
  t123 := fun l hl a b c => h.t123 l hl a c b
/-- The other two pairs first. -/
theorem Four.rot {B p0 p1 p2 p3 l01 l23 l02 l13 l03 l12 a b c : Nat} (h : Four B p0 p1 p2 p3 l01 l23 l02 l13 l03 l12 a b c) : Four B p0 p2 p1 p3 l02 l13 l01 l23 l03 l12 b a c where
  arc := h.arc.swap12
  i01 := h.i02
  i23 := h.i13
  i02 := h.i01
  i13 := h.i23
  i03 := h.i03
  i12 := ⟨h.i12.1, h.i12.2.2, h.i12.2.1⟩
  a24 := h.b24
  b24 := h.a24
  c24 := h.c24
theorem Four.rot2 {B p0 p1 p2 p3 l01 l23 l02 l13 l03 l12 a b c : Nat} (h : Four B p0 p1 p2 p3 l01 l23 l02 l13 l03 l12 a b c) : Four B p0 p1 p3 p2 l01 l23 l03 l12 l02 l13 a c b where
  arc := h.arc.swap23
  i01 := h.i01
  i23 := ⟨h.i23.1, h.i23.2.2, h.i23.2.1⟩
  i02 := h.i03
  i13 := h.i12
  i03 := h.i02
  i12 := h.i13
  a24 := h.a24
  b24 := h.c24
  c24 := h.b24
theorem Arc.four {B p0 p1 p2 p3 : Nat} (h : Arc B p0 p1 p2 p3) : ∃ l01 l23 l02 l13 l03 l12 a b c, Four B p0 p1 p2 p3 l01 l23 l02 l13 l03 l12 a b c := by
  obtain ⟨l01, x01⟩ := line_ex h.base h.lt.1 h.lt.2.1 h.ne.1 h.off.1 h.off.2.1
  obtain ⟨l23, x23⟩ := line_ex h.base h.lt.2.2.1 h.lt.2.2.2 h.ne.2.2.2.2.2 h.off.2.2.1 h.off.2.2.2
  obtain ⟨l02, x02⟩ := line_ex h.base h.lt.1 h.lt.2.2.1 h.ne.2.1 h.off.1 h.off.2.2.1
  obtain ⟨l13, x13⟩ := line_ex h.base h.lt.2.1 h.lt.2.2.2 h.ne.2.2.2.2.1 h.off.2.1 h.off.2.2.2
  obtain ⟨l03, x03⟩ := line_ex h.base h.lt.1 h.lt.2.2.2 h.ne.2.2.1 h.off.1 h.off.2.2.2
  obtain ⟨l12, x12⟩ := line_ex h.base h.lt.2.1 h.lt.2.2.1 h.ne.2.2.2.1 h.off.2.1 h.off.2.2.1
  obtain ⟨a, ha⟩ := meet_at h.base x01.1 x23.1 (fun e => h.t012 _ x01.1 x01.2.1 x01.2.2 (by rw [e]; exact x23.2.1))
  obtain ⟨b, hb⟩ := meet_at h.base x02.1 x13.1 (fun e => h.t012 _ x02.1 x02.2.1 (by rw [e]; exact x13.2.1) x02.2.2)
  obtain ⟨c, hc⟩ := meet_at h.base x03.1 x12.1 (fun e => h.t013 _ x03.1 x03.2.1 (by rw [e]; exact x12.2.1) x03.2.2)
  exact ⟨_, _, _, _, _, _, a, b, c, h, x01, x23, x02, x13, x03, x12, ha, hb, hc⟩
section
variable {B p0 p1 p2 p3 l01 l23 l02 l13 l03 l12 a b c : Nat}
/-- What the first further point is not on. -/
theorem Four.offs (h : Four B p0 p1 p2 p3 l01 l23 l02 l13 l03 l12 a b c) :
    (a ≠ p0 ∧ a ≠ p1 ∧ a ≠ p2 ∧ a ≠ p3) ∧ l02.testBit a = false ∧ l13.testBit a = false ∧ l03.testBit a = false ∧ l12.testBit a = false := by
  have n0 : a ≠ p0 := fun e => h.arc.t023 _ h.i23.1 (by rw [← e]; exact h.a24.2.2.2) h.i23.2.1 h.i23.2.2
  have n1 : a ≠ p1 := fun e => h.arc.t123 _ h.i23.1 (by rw [← e]; exact h.a24.2.2.2) h.i23.2.1 h.i23.2.2
  have n2 : a ≠ p2 := fun e => h.arc.t012 _ h.i01.1 h.i01.2.1 h.i01.2.2 (by rw [← e]; exact h.a24.2.2.1)
  have n3 : a ≠ p3 := fun e => h.arc.t013 _ h.i01.1 h.i01.2.1 h.i01.2.2 (by rw [← e]; exact h.a24.2.2.1)
  have no : ∀ {l : Nat}, ¬ l.testBit a = true → l.testBit a = false := fun h => by simpa using h
  refine ⟨⟨n0, n1, n2, n3⟩, no fun q => ?_, no fun q => ?_, no fun q => ?_, no fun q => ?_⟩
  · have e := line_uniq h.arc.base h.i01.1 h.i02.1 n0 h.a24.2.2.1 h.i01.2.1 q h.i02.2.1
    exact h.arc.t012 _ h.i01.1 h.i01.2.1 h.i01.2.2 (by rw [e]; exact h.i02.2.2)
  · have e := line_uniq h.arc.base h.i01.1 h.i13.1 n1 h.a24.2.2.1 h.i01.2.2 q h.i13.2.1
    exact h.arc.t013 _ h.i01.1 h.i01.2.1 h.i01.2.2 (by rw [e]; exact h.i13.2.2)
  · have e := line_uniq h.arc.base h.i01.1 h.i03.1 n0 h.a24.2.2.1 h.i01.2.1 q h.i03.2.1
    exact h.arc.t013 _ h.i01.1 h.i01.2.1 h.i01.2.2 (by rw [e]; exact h.i03.2.2)
  · have e := line_uniq h.arc.base h.i01.1 h.i12.1 n1 h.a24.2.2.1 h.i01.2.2 q h.i12.2.1
    exact h.arc.t012 _ h.i01.1 h.i01.2.1 h.i01.2.2 (by rw [e]; exact h.i12.2.2)
theorem Four.abc (h : Four B p0 p1 p2 p3 l01 l23 l02 l13 l03 l12 a b c) : a ≠ b ∧ a ≠ c ∧ b ≠ c := by
  have h1 := h.offs
  have h2 := h.rot.offs
  refine ⟨fun e => ?_, fun e => ?_, fun e => ?_⟩
  · have := h1.2.1; rw [e, h.b24.2.2.1] at this; cases this
  · have := h1.2.2.2.1; rw [e, h.c24.2.2.1] at this; cases this
  · have := h2.2.2.2.1; rw [e, h.c24.2.2.1] at this; cases this
def word4 (p0 p1 p2 p3 : Nat) : Nat := ((2 ^ p0 ||| 2 ^ p1) ||| 2 ^ p2) ||| 2 ^ p3
theorem word4_bit (p0 p1 p2 p3 q : Nat) : (word4 p0 p1 p2 p3).testBit q = (decide (p0 = q) || decide (p1 = q) || decide (p2 = q) || decide (p3 = q)) := by
  unfold word4
  rw [or_bit, or_bit, or_bit, bit_pow2]
theorem Arc.pop4 {B p0 p1 p2 p3 : Nat} (h : Arc B p0 p1 p2 p3) : word4 p0 p1 p2 p3 < 16777216 ∧ pop (word4 p0 p1 p2 p3) = 4 := by
  unfold word4
  have l1 : 2 ^ p0 ||| 2 ^ p1 < 16777216 := or_lt _ _ (pow_lt24 _ h.lt.1) h.lt.2.1
  have l2 := or_lt _ p2 l1 h.lt.2.2.1
  refine ⟨or_lt _ p3 l2 h.lt.2.2.2, ?_⟩
  rw [pop_or _ p3 h.lt.2.2.2 (by rw [or_bit, or_bit, bit_pow2]; simp [h.ne.2.2.1, h.ne.2.2.2.2.1, h.ne.2.2.2.2.2]), pop_or _ p2 h.lt.2.2.1 (by rw [or_bit, bit_pow2]; simp [h.ne.2.1, h.ne.2.2.2.1]), pair_pop _ _ h.lt.1 h.lt.2.1 h.ne.1]
/-- The sum of two opposite lines: a word of the code with eight places, the four among them. -/
theorem Four.sum (h : Four B p0 p1 p2 p3 l01 l23 l02 l13 l03 l12 a b c) : (∃ m, m < 4096 ∧ cN m = l01 ^^^ l23) ∧ pop (l01 ^^^ l23) = 8 ∧ Sub (word4 p0 p1 p2 p3) (l01 ^^^ l23) ∧ l01 ^^^ l23 < 16777216 := by
  obtain ⟨x1, x5, _, m, hm, em, _⟩ := h.i01.1.facts h.arc.base
  obtain ⟨y1, y5, _, n, hn, en, _⟩ := h.i23.1.facts h.arc.base
  have hx := pop_xor l01 l23
  rw [h.a24.2.1, pop_pow a h.a24.1] at hx
  refine ⟨⟨m ^^^ n, xor_lt12 _ _ hm hn, by rw [cN_xor, em, en, xor_cancel]⟩, by omega, sub_of fun q hq => ?_, xor_lt24 _ _ x1 y1⟩
  have no : ∀ {l q : Nat}, ¬ l.testBit q = true → l.testBit q = false := fun h => by simpa using h
  rw [word4_bit] at hq
  simp only [Bool.or_eq_true, decide_eq_true_eq] at hq
  rw [Nat.testBit_xor]
  rcases hq with ((rfl | rfl) | rfl) | rfl
  · rw [h.i01.2.1, no fun q => h.arc.t023 _ h.i23.1 q h.i23.2.1 h.i23.2.2]; rfl
  · rw [h.i01.2.2, no fun q => h.arc.t123 _ h.i23.1 q h.i23.2.1 h.i23.2.2]; rfl
  · rw [h.i23.2.1, no fun q => h.arc.t012 _ h.i01.1 h.i01.2.1 h.i01.2.2 q]; rfl
  · rw [h.i23.2.2, no fun q => h.arc.t013 _ h.i01.1 h.i01.2.1 h.i01.2.2 q]; rfl
theorem Four.sum_ne (h : Four B p0 p1 p2 p3 l01 l23 l02 l13 l03 l12 a b c) : l01 ^^^ l23 ≠ l02 ^^^ l13 := by
  intro e
  obtain ⟨x1, x5, _, _⟩ := h.i01.1.facts h.arc.base
  have hF : Sub ((2 ^ p0 ||| 2 ^ p1) ||| 2 ^ a) l01 := sub_of fun q hq => by
    rw [or_bit, or_bit, bit_pow2] at hq
    simp at hq
    rcases hq with (rfl | rfl) | rfl
    · exact h.i01.2.1
    · exact h.i01.2.2
    · exact h.a24.2.2.1
  have hl := or_lt _ a (or_lt _ p1 (pow_lt24 _ h.arc.lt.1) h.arc.lt.2.1) h.a24.1
  have h3 : pop ((2 ^ p0 ||| 2 ^ p1) ||| 2 ^ a) = 3 := by
    rw [pop_or _ a h.a24.1 (by rw [or_bit, bit_pow2]; have := h.offs.1; simp [Ne.symm this.1, Ne.symm this.2.1]), pair_pop _ _ h.arc.lt.1 h.arc.lt.2.1 h.arc.ne.1]
  obtain ⟨u, u1, u2, u3⟩ := new_place hF x1 hl (by omega)
  rw [or_bit, or_bit, bit_pow2] at u3
  simp only [Bool.or_eq_false_iff, decide_eq_false_iff_not] at u3
  have no : ∀ {l q : Nat}, ¬ l.testBit q = true → l.testBit q = false := fun h => by simpa using h
  have e1 : l23.testBit u = false := no fun q => by
    have := congrArg (fun x => x.testBit u) h.a24.2.1
    simp only [Nat.testBit_and, u2, q, bit_pow2] at this
    simp at this
    exact u3.2 this
  have e2 : l02.testBit u = false := no fun q => by
    have e := line_uniq h.arc.base h.i01.1 h.i02.1 u3.1.1 h.i01.2.1 u2 h.i02.2.1 q
    exact h.arc.t012 _ h.i01.1 h.i01.2.1 h.i01.2.2 (by rw [e]; exact h.i02.2.2)
  have e3 : l13.testBit u = false := no fun q => by
    have e := line_uniq h.arc.base h.i01.1 h.i13.1 u3.1.2 h.i01.2.2 u2 h.i13.2.1 q
    exact h.arc.t013 _ h.i01.1 h.i01.2.1 h.i01.2.2 (by rw [e]; exact h.i13.2.2)
  have := congrArg (fun x => x.testBit u) e
  simp only [Nat.testBit_xor, u2, e1, e2, e3] at this
  exact absurd this (by decide)
theorem meet_four {x y w m n : Nat} (hm : m < 4096) (hn : n < 4096) (ex : cN m = x) (ey : cN n = y) (px : pop x = 8) (py : pop y = 8) (hw : w < 16777216) (p4 : pop w = 4) (sx : Sub w x) (sy : Sub w y) (hne : x ≠ y) : x &&& y = w := by
  have hx := pop_xor x y
  have hc := (code_wts (m ^^^ n) (xor_lt12 _ _ hm hn)).1
  rw [cN_xor, ex, ey] at hc
  have hs : Sub w (x &&& y) := sub_of fun q hq => by rw [Nat.testBit_and, sx.bit q hq, sy.bit q hq]; rfl
  have hle := hs.le
  have xl : x < 16777216 := by rw [← ex]; exact cN_lt m
  have yl : y < 16777216 := by rw [← ey]; exact cN_lt n
  have h0 : pop (x ^^^ y) ≠ 0 := fun e => hne (xor_eq_zero (pop_zero _ (xor_lt24 _ _ xl yl) e))
  exact (sub_eq hs hw (Nat.lt_of_le_of_lt Nat.and_le_left xl) (by omega)).symm
theorem ones_code : ∃ m, m < 4096 ∧ cN m = 16777215 := ⟨lin gM 16777215, msg_lt _, (in_code 16777215 (by decide) (by decide +kernel)).symm⟩
theorem pop_ones (S : Nat) (hS : S < 16777216) : pop (S ^^^ 16777215) + pop S = 24 ∧ ∀ q, q < 24 → (S ^^^ 16777215).testBit q = !S.testBit q := by
  have hb : ∀ q, q < 24 → (16777215 : Nat).testBit q = true := by decide
  have h24 : pop 16777215 = 24 := by decide
  have hs : S &&& 16777215 = S := Nat.and_two_pow_sub_one_of_lt_two_pow (n := 24) hS
  have := pop_xor S 16777215
  rw [hs, h24] at this
  refine ⟨by omega, fun q hq => ?_⟩
  rw [Nat.testBit_xor, hb q hq]
  cases S.testBit q <;> rfl
/-- The three further points are on one line. -/
theorem Four.line (h : Four B p0 p1 p2 p3 l01 l23 l02 l13 l03 l12 a b c) : ∃ M, IsLine B M ∧ M.testBit a = true ∧ M.testBit b = true ∧ M.testBit c = true := by
  obtain ⟨⟨m1, hm1, e1⟩, px, sx, xl⟩ := h.sum
  obtain ⟨⟨m2, hm2, e2⟩, py, sy, yl⟩ := h.rot.sum
  obtain ⟨⟨m3, hm3, e3⟩, pz, sz, zl⟩ := h.rot2.rot.sum
  have w24 := h.arc.pop4
  have eqw : word4 p0 p2 p1 p3 = word4 p0 p1 p2 p3 := Nat.eq_of_testBit_eq fun q => by
    rw [word4_bit, word4_bit]
    cases decide (p0 = q) <;> cases decide (p1 = q) <;> cases decide (p2 = q) <;> rfl
  have eqw2 : word4 p0 p3 p1 p2 = word4 p0 p1 p2 p3 := Nat.eq_of_testBit_eq fun q => by
    rw [word4_bit, word4_bit]
    cases decide (p0 = q) <;> cases decide (p1 = q) <;> cases decide (p2 = q) <;> cases decide (p3 = q) <;> rfl
  rw [eqw] at sy
  rw [eqw2] at sz
  have n12 := h.sum_ne
  have n13 := h.rot2.sum_ne
  have n23 := h.rot.rot2.sum_ne
  have oa := h.offs.2
  have ob := h.rot.offs.2
  have oc := h.rot2.rot.offs.2
  have q12 := meet_four hm1 hm2 e1 e2 px py w24.1 w24.2 sx sy n12
  have q13 := meet_four hm1 hm3 e1 e3 px pz w24.1 w24.2 sx sz n13
  have q23 := meet_four hm2 hm3 e2 e3 py pz w24.1 w24.2 sy sz n23
  have s12 := pop_xor (l01 ^^^ l23) (l02 ^^^ l13)
  rw [q12, w24.2] at s12
  have s123 := pop_xor ((l01 ^^^ l23) ^^^ (l02 ^^^ l13)) (l03 ^^^ l12)
  rw [Nat.and_xor_distrib_right, q13, q23, Nat.xor_self, pop_zero_] at s123
  have Sl := xor_lt24 _ _ (xor_lt24 _ _ xl yl) zl
  obtain ⟨mo, hmo, eo⟩ := ones_code
  obtain ⟨po, bo⟩ := pop_ones _ Sl
  have hc : cN (((m1 ^^^ m2) ^^^ m3) ^^^ mo) = (((l01 ^^^ l23) ^^^ (l02 ^^^ l13)) ^^^ (l03 ^^^ l12)) ^^^ 16777215 := by
    rw [cN_xor, cN_xor, cN_xor, e1, e2, e3, eo]
  have nB : ∀ q, B.testBit q = true → ((((l01 ^^^ l23) ^^^ (l02 ^^^ l13)) ^^^ (l03 ^^^ l12)).testBit q) = false := fun q hq => by
    have nl : ∀ {l : Nat}, IsLine B l → l.testBit q = false := fun {l} hl => by
      cases e : l.testBit q
      · rfl
      · rw [hl.noB h.arc.base e] at hq; cases hq
    simp only [Nat.testBit_xor, nl h.i01.1, nl h.i23.1, nl h.i02.1, nl h.i13.1, nl h.i03.1, nl h.i12.1]
    rfl
  have sB : Sub B (cN (((m1 ^^^ m2) ^^^ m3) ^^^ mo)) := sub_of fun q hq => by
    rw [hc, bo q (bit_lt24 h.arc.base.1 hq), nB q hq]; rfl
  refine ⟨_, ⟨((m1 ^^^ m2) ^^^ m3) ^^^ mo, xor_lt12 _ _ (xor_lt12 _ _ (xor_lt12 _ _ hm1 hm2) hm3) hmo, ?_, sB, rfl⟩, ?_, ?_, ?_⟩
  · rw [hc]; omega
  · rw [Nat.testBit_xor, hc, bo a h.a24.1, h.i01.1.noB h.arc.base h.a24.2.2.1]
    simp only [Nat.testBit_xor, h.a24.2.2.1, h.a24.2.2.2, oa.1, oa.2.1, oa.2.2.1, oa.2.2.2]
    rfl
  · rw [Nat.testBit_xor, hc, bo b h.b24.1, h.i02.1.noB h.arc.base h.b24.2.2.1]
    simp only [Nat.testBit_xor, h.b24.2.2.1, h.b24.2.2.2, ob.1, ob.2.1, ob.2.2.1, ob.2.2.2]
    rfl
  · rw [Nat.testBit_xor, hc, bo c h.c24.1, h.i03.1.noB h.arc.base h.c24.2.2.1]
    simp only [Nat.testBit_xor, h.c24.2.2.1, h.c24.2.2.2, oc.1, oc.2.1, oc.2.2.1, oc.2.2.2]
    rfl
/-- A line and the seven points. -/
theorem Four.seven (h : Four B p0 p1 p2 p3 l01 l23 l02 l13 l03 l12 a b c) (l : Nat) (hl : IsLine B l) :
    (if l.testBit p0 then 1 else 0) + (if l.testBit p1 then 1 else 0) + (if l.testBit p2 then 1 else 0) + (if l.testBit p3 then 1 else 0) + (if l.testBit a then 1 else 0) + (if l.testBit b then 1 else 0) + (if l.testBit c then 1 else 0) ∈ [0, 1, 3] := by
  obtain ⟨M, hM, Ma, Mb, Mc⟩ := h.line
  have hB := h.arc.base
  have u : ∀ {k p q r : Nat}, IsLine B k → k.testBit p = true → k.testBit q = true → k.testBit r = true → p ≠ q → (l.testBit p && l.testBit q && !l.testBit r) = false := by
    intro k p q r hk kp kq kr hpq
    cases e1 : l.testBit p
    · rfl
    · cases e2 : l.testBit q
      · rfl
      · rw [line_uniq hB hl hk hpq e1 e2 kp kq, kr]; rfl
  obtain ⟨⟨na0, na1, na2, na3⟩, _⟩ := h.offs
  obtain ⟨⟨nb0, nb2, nb1, nb3⟩, _⟩ := h.rot.offs
  obtain ⟨⟨nc0, nc3, nc1, nc2⟩, _⟩ := h.rot2.rot.offs
  obtain ⟨nab, nac, nbc⟩ := h.abc
  have t1 := u h.i01.1 h.i01.2.1 h.i01.2.2 h.a24.2.2.1 h.arc.ne.1
  have t2 := u h.i01.1 h.i01.2.1 h.a24.2.2.1 h.i01.2.2 (Ne.symm na0)
  have t3 := u h.i01.1 h.i01.2.2 h.a24.2.2.1 h.i01.2.1 (Ne.symm na1)
  have t4 := u h.i23.1 h.i23.2.1 h.i23.2.2 h.a24.2.2.2 h.arc.ne.2.2.2.2.2
  have t5 := u h.i23.1 h.i23.2.1 h.a24.2.2.2 h.i23.2.2 (Ne.symm na2)
  have t6 := u h.i23.1 h.i23.2.2 h.a24.2.2.2 h.i23.2.1 (Ne.symm na3)
  have t7 := u h.i02.1 h.i02.2.1 h.i02.2.2 h.b24.2.2.1 h.arc.ne.2.1
  have t8 := u h.i02.1 h.i02.2.1 h.b24.2.2.1 h.i02.2.2 (Ne.symm nb0)
  have t9 := u h.i02.1 h.i02.2.2 h.b24.2.2.1 h.i02.2.1 (Ne.symm nb2)
  have t10 := u h.i13.1 h.i13.2.1 h.i13.2.2 h.b24.2.2.2 h.arc.ne.2.2.2.2.1
  have t11 := u h.i13.1 h.i13.2.1 h.b24.2.2.2 h.i13.2.2 (Ne.symm nb1)
  have t12 := u h.i13.1 h.i13.2.2 h.b24.2.2.2 h.i13.2.1 (Ne.symm nb3)
  have t13 := u h.i03.1 h.i03.2.1 h.i03.2.2 h.c24.2.2.1 h.arc.ne.2.2.1
  have t14 := u h.i03.1 h.i03.2.1 h.c24.2.2.1 h.i03.2.2 (Ne.symm nc0)
  have t15 := u h.i03.1 h.i03.2.2 h.c24.2.2.1 h.i03.2.1 (Ne.symm nc3)
  have t16 := u h.i12.1 h.i12.2.1 h.i12.2.2 h.c24.2.2.2 h.arc.ne.2.2.2.1
  have t17 := u h.i12.1 h.i12.2.1 h.c24.2.2.2 h.i12.2.2 (Ne.symm nc1)
  have t18 := u h.i12.1 h.i12.2.2 h.c24.2.2.2 h.i12.2.1 (Ne.symm nc2)
  have t19 := u hM Ma Mb Mc nab
  have t20 := u hM Ma Mc Mb nac
  have t21 := u hM Mb Mc Ma nbc
  have t22 : (l.testBit p0 && l.testBit p1 && l.testBit p2) = false := by
    cases e1 : l.testBit p0
    · rfl
    · cases e2 : l.testBit p1
      · rfl
      · cases e3 : l.testBit p2
        · rfl
        · exact (h.arc.t012 l hl e1 e2 e3).elim
  revert t1 t2 t3 t4 t5 t6 t7 t8 t9 t10 t11 t12 t13 t14 t15 t16 t17 t18 t19 t20 t21 t22
  generalize l.testBit p0 = x0
  generalize l.testBit p1 = x1
  generalize l.testBit p2 = x2
  generalize l.testBit p3 = x3
  generalize l.testBit a = xa
  generalize l.testBit b = xb
  generalize l.testBit c = xc
  cases x0 <;> cases x1 <;> cases x2 <;> cases x3 <;> cases xa <;> cases xb <;> cases xc <;> simp
end
end Go.Proofs.YtmeejnkpaiinaacGreatDoor
