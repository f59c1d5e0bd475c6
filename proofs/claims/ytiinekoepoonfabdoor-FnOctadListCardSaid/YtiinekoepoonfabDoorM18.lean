/- The word of a message and the message of a word as the program makes them. No program is named here. -/
import Derived.Test.YtiinekoepoonfabDoorM17
namespace Go.Proofs.YtiinekoepoonfabDoor
set_option linter.unusedVariables false

def bareT : List Int := [0, 12, 10, 6, 14, 2, 4, 8]
def rowM (m : Int) : List Int := hexRow (m % 4) (m / 4 % 4) (m / 16 % 4)
def topB (m : Int) (c : Nat) : Bool := decide (0 < c ∧ m / 2 ^ (6 + c) % 2 = 1)
def bareM (m : Int) (c : Nat) : Int := bareT.getD (m / 64 % 2 * 4 + (rowM m).getD c 0).toNat 0
def partM (m : Int) (c : Nat) : Int := if topB m c then xorI (bareM m c) 15 else bareM m c
def wordTo (m : Int) : Nat → Int
  | 0 => 0
  | c + 1 => xorI (wordTo m c) (partM m c * 2 ^ (4 * c))
def wordM (m : Int) : Int := if wt (andI (wordTo m 6) 1118481) % 2 = m / 64 % 2 then wordTo m 6 else xorI (wordTo m 6) 15
theorem rowM_d (m : Int) (c : Nat) : IsD ((rowM m).getD c 0) :=
  (hexRow_row (a := m % 4) (b := m / 4 % 4) (c := m / 16 % 4) ⟨by omega, by omega⟩ ⟨by omega, by omega⟩ ⟨by omega, by omega⟩).get c
theorem bareT_rng : ∀ i : Fin 8, 0 ≤ bareT.getD i.val 0 ∧ bareT.getD i.val 0 ≤ 15 := by decide
theorem bareM_rng (m : Int) (c : Nat) : 0 ≤ bareM m c ∧ bareM m c ≤ 15 := by
  have h := rowM_d m c
  unfold IsD at h
  exact bareT_rng ⟨(m / 64 % 2 * 4 + (rowM m).getD c 0).toNat, by omega⟩
theorem xorI_le15 (a b : Int) (h1 : a ≤ 15) (h3 : b ≤ 15) : xorI a b ≤ 15 := by
  unfold xorI
  have := Nat.xor_lt_two_pow (n := 4) (x := a.toNat) (y := b.toNat) (by omega) (by omega)
  omega
theorem partM_rng (m : Int) (c : Nat) : 0 ≤ partM m c ∧ partM m c ≤ 15 := by
  have h := bareM_rng m c
  unfold partM
  split
  · exact ⟨xorI_nonneg _ _, xorI_le15 _ _ h.2 (by omega)⟩
  · exact h
theorem shift_rng (x : Int) (c : Nat) (hc : c < 6) (h0 : 0 ≤ x) (h1 : x ≤ 15) : 0 ≤ x * 2 ^ (4 * c) ∧ x * 2 ^ (4 * c) ≤ 15728640 := by
  have : c = 0 ∨ c = 1 ∨ c = 2 ∨ c = 3 ∨ c = 4 ∨ c = 5 := by omega
  rcases this with rfl | rfl | rfl | rfl | rfl | rfl <;> simp <;> omega
theorem wordTo_rng (m : Int) (c : Nat) (hc : c ≤ 6) : 0 ≤ wordTo m c ∧ wordTo m c ≤ 16777215 := by
  induction c with
  | zero => simp [wordTo]
  | succ c ih =>
    have := ih (by omega)
    have := partM_rng m c
    have := shift_rng (partM m c) c (by omega) this.1 this.2
    exact ⟨xorI_nonneg _ _, xorI_le _ _ (by omega) (by omega)⟩

theorem xorI_disjoint (a b : Int) (k : Nat) (ha0 : 0 ≤ a) (ha : a < 2 ^ k) (hb : 0 ≤ b) : xorI a (b * 2 ^ k) = a + b * 2 ^ k := by
  obtain ⟨A, rfl⟩ := Int.eq_ofNat_of_zero_le ha0
  obtain ⟨B, rfl⟩ := Int.eq_ofNat_of_zero_le hb
  have hA : A < 2 ^ k := by exact_mod_cast ha
  have e : ((B : Int) * 2 ^ k).toNat = B * 2 ^ k := by
    rw [show ((B : Int) * 2 ^ k) = ((B * 2 ^ k : Nat) : Int) by simp, Int.toNat_natCast]
  have hz : A &&& (B * 2 ^ k) = 0 := by
    apply Nat.eq_of_testBit_eq
    intro i
    rw [Nat.testBit_and, Nat.zero_testBit, Nat.mul_comm, Nat.testBit_two_pow_mul]
    by_cases h : k ≤ i
    · rw [Nat.testBit_lt_two_pow (Nat.lt_of_lt_of_le hA (Nat.pow_le_pow_right (by decide) h))]; simp
    · simp [h]
  have hx : A ^^^ (B * 2 ^ k) = A + B * 2 ^ k := by
    have h2 := Nat.two_pow_add_eq_or_of_lt hA B
    rw [Nat.mul_comm] at h2
    have h3 : A ^^^ (B * 2 ^ k) = A ||| (B * 2 ^ k) := by
      apply Nat.eq_of_testBit_eq
      intro i
      have hi : (A &&& (B * 2 ^ k)).testBit i = false := by rw [hz]; exact Nat.zero_testBit i
      rw [Nat.testBit_and] at hi
      rw [Nat.testBit_xor, Nat.testBit_or]
      cases hA' : A.testBit i <;> cases hB' : (B * 2 ^ k).testBit i <;> simp_all
    rw [h3, Nat.or_comm, ← h2, Nat.add_comm]
  unfold xorI
  rw [e, Int.toNat_natCast, hx]
  push_cast
  omega
theorem fill_bare : ∀ s : Fin 4, ∀ p : Fin 2, fillC (s.val : Int) (p.val : Int) 0 = bareT.getD (p.val * 4 + s.val) 0 ∧ fillC (s.val : Int) (p.val : Int) 1 = xorI (bareT.getD (p.val * 4 + s.val) 0) 15 := by decide
theorem partM_fill (m : Int) (c : Nat) : partM m c = fillC ((rowM m).getD c 0) (m / 64 % 2) (if topB m c then 1 else 0) := by
  obtain ⟨s, hs⟩ := (rowM_d m c).fin
  obtain ⟨p, hp⟩ := fin2 (n := m / 64 % 2) (by omega)
  obtain ⟨h0, h1⟩ := fill_bare s p
  have e : (m / 64 % 2 * 4 + (rowM m).getD c 0).toNat = p.val * 4 + s.val := by rw [hs, hp]; omega
  unfold partM bareM
  rw [e, hs, hp]
  cases topB m c
  · simpa using h0.symm
  · simpa using h1.symm
theorem wordTo_sum (m : Int) : wordTo m 6 = partM m 0 + 16 * partM m 1 + 256 * partM m 2 + 4096 * partM m 3 + 65536 * partM m 4 + 1048576 * partM m 5 := by
  have r := partM_rng m
  have r0 := r 0
  have r1 := r 1
  have r2 := r 2
  have r3 := r 3
  have r4 := r 4
  have r5 := r 5
  have w1 : wordTo m 1 = partM m 0 := by
    show xorI 0 (partM m 0 * 2 ^ 0) = _
    rw [show partM m 0 * 2 ^ 0 = partM m 0 by simp, zero_xorI _ r0.1]
  have w2 : wordTo m 2 = partM m 0 + 16 * partM m 1 := by
    show xorI (wordTo m 1) (partM m 1 * 2 ^ 4) = _
    rw [w1, xorI_disjoint _ _ 4 r0.1 (by omega) r1.1]; omega
  have w3 : wordTo m 3 = partM m 0 + 16 * partM m 1 + 256 * partM m 2 := by
    show xorI (wordTo m 2) (partM m 2 * 2 ^ 8) = _
    rw [w2, xorI_disjoint _ _ 8 (by omega) (by omega) r2.1]; omega
  have w4 : wordTo m 4 = partM m 0 + 16 * partM m 1 + 256 * partM m 2 + 4096 * partM m 3 := by
    show xorI (wordTo m 3) (partM m 3 * 2 ^ 12) = _
    rw [w3, xorI_disjoint _ _ 12 (by omega) (by omega) r3.1]; omega
  have w5 : wordTo m 5 = partM m 0 + 16 * partM m 1 + 256 * partM m 2 + 4096 * partM m 3 + 65536 * partM m 4 := by
    show xorI (wordTo m 4) (partM m 4 * 2 ^ 16) = _
    rw [w4, xorI_disjoint _ _ 16 (by omega) (by omega) r4.1]; omega
  show xorI (wordTo m 5) (partM m 5 * 2 ^ 20) = _
  rw [w5, xorI_disjoint _ _ 20 (by omega) (by omega) r5.1]; omega
/-- The weight of row 0 modulo 2. -/
theorem top_sum : ∀ a b c d e f : Fin 2, ((a.val : Int) + (b.val : Int) + (c.val : Int) + (d.val : Int) + (e.val : Int) + (f.val : Int)) % 2 = xorI (xorI (xorI (xorI (xorI (xorI 0 (a.val : Int)) (b.val : Int)) (c.val : Int)) (d.val : Int)) (e.val : Int)) (f.val : Int) := by decide +kernel
theorem and_bit (a b : Int) (ha : 0 ≤ a) (hb : 0 ≤ b) (i : Nat) : bitI (andI a b) i = bitI a i * bitI b i := by
  obtain ⟨A, rfl⟩ := Int.eq_ofNat_of_zero_le ha
  obtain ⟨B, rfl⟩ := Int.eq_ofNat_of_zero_le hb
  unfold andI
  rw [Int.toNat_natCast, Int.toNat_natCast, bitI_nat, bitI_nat, bitI_nat, Nat.testBit_and]
  cases A.testBit i <;> cases B.testBit i <;> rfl
theorem topRow_bits : ∀ i : Fin 24, bitI 1118481 (i.val : Int) = if i.val % 4 = 0 then 1 else 0 := by decide
theorem wt_top (w : Int) (h0 : 0 ≤ w) : wt (andI w 1118481) % 2 = topI w := by
  have hb : ∀ i : Nat, i < 24 → bitI (andI w 1118481) i = if i % 4 = 0 then bitI w i else 0 := by
    intro i hi
    rw [and_bit w _ h0 (by omega), topRow_bits ⟨i, hi⟩]
    split <;> simp
  have hs : wt (andI w 1118481) = bitI w 0 + bitI w 4 + bitI w 8 + bitI w 12 + bitI w 16 + bitI w 20 := by
    unfold wt
    simp only [wtTo]
    rw [hb 0 (by omega), hb 1 (by omega), hb 2 (by omega), hb 3 (by omega), hb 4 (by omega), hb 5 (by omega), hb 6 (by omega), hb 7 (by omega), hb 8 (by omega), hb 9 (by omega), hb 10 (by omega), hb 11 (by omega), hb 12 (by omega), hb 13 (by omega), hb 14 (by omega), hb 15 (by omega), hb 16 (by omega), hb 17 (by omega), hb 18 (by omega), hb 19 (by omega), hb 20 (by omega), hb 21 (by omega), hb 22 (by omega), hb 23 (by omega)]
    simp
  rw [hs]
  have e : topI w = xorI (xorI (xorI (xorI (xorI (xorI 0 (bitI w 0)) (bitI w 4)) (bitI w 8)) (bitI w 12)) (bitI w 16)) (bitI w 20) := rfl
  rw [e]
  obtain ⟨x0, e0⟩ := fin2 (bitI_01 w 0)
  obtain ⟨x1, e1⟩ := fin2 (bitI_01 w 4)
  obtain ⟨x2, e2⟩ := fin2 (bitI_01 w 8)
  obtain ⟨x3, e3⟩ := fin2 (bitI_01 w 12)
  obtain ⟨x4, e4⟩ := fin2 (bitI_01 w 16)
  obtain ⟨x5, e5⟩ := fin2 (bitI_01 w 20)
  rw [e0, e1, e2, e3, e4, e5]
  exact top_sum x0 x1 x2 x3 x4 x5
theorem xor15_low (x R : Int) (h0 : 0 ≤ x) (h1 : x ≤ 15) (hR : 0 ≤ R) : xorI (x + 16 * R) 15 = xorI x 15 + 16 * R := by
  have e1 : x + 16 * R = xorI x (R * 2 ^ 4) := by rw [xorI_disjoint x R 4 h0 (by omega) hR]; omega
  have h2 := xorI_le15 x 15 h1 (by omega)
  rw [e1, xorI_assoc, xorI_comm _ 15, ← xorI_assoc, xorI_disjoint _ R 4 (xorI_nonneg _ _) (by omega) hR]; omega
theorem last_f : ∀ a b c d e p : Fin 2, xorI (xorI (xorI (xorI (xorI (xorI 0 0) (a.val : Int)) (b.val : Int)) (c.val : Int)) (d.val : Int)) (e.val : Int) = xorI (xorI (xorI (xorI (xorI 0 (a.val : Int)) (b.val : Int)) (c.val : Int)) (d.val : Int)) (e.val : Int) ∧
    xorI (xorI (xorI (xorI (xorI (xorI 0 (a.val : Int)) (b.val : Int)) (c.val : Int)) (d.val : Int)) (e.val : Int)) (p.val : Int) = if xorI (xorI (xorI (xorI (xorI 0 (a.val : Int)) (b.val : Int)) (c.val : Int)) (d.val : Int)) (e.val : Int) = (p.val : Int) then 0 else 1 := by decide +kernel
theorem wordM_code (m : Int) (h0 : 0 ≤ m) (h1 : m ≤ 4095) : wordM m = codeOf m := by
  have hrow : rowM m = [m % 4, m / 4 % 4, m / 16 % 4, (rowM m).getD 3 0, (rowM m).getD 4 0, (rowM m).getD 5 0] := rfl
  have b : ∀ c : Nat, (if topB m (c + 1) then (1 : Int) else 0) = bitI m (6 + ((c : Int) + 1)) := by
    intro c
    have := bitI_01 m (6 + ((c : Int) + 1))
    have e : bitI m (6 + ((c : Int) + 1)) = m / 2 ^ (6 + (c + 1)) % 2 := by unfold bitI; rw [show (6 + ((c : Int) + 1)).toNat = 6 + (c + 1) by omega]
    unfold topB
    by_cases h : m / 2 ^ (6 + (c + 1)) % 2 = 1
    · simp [h, e]
    · rw [e]; simp [h]; omega
  have r := partM_rng m
  have r0 := r 0
  have r1 := r 1
  have r2 := r 2
  have r3 := r 3
  have r4 := r 4
  have r5 := r 5
  have hsum := wordTo_sum m
  have hw0 : 0 ≤ wordTo m 6 := by omega
  have htop := wt_top _ hw0
  obtain ⟨c0, c1, c2, c3, c4, c5⟩ := col_sum _ _ _ _ _ _ r0 r1 r2 r3 r4 r5
  rw [← hsum] at c0 c1 c2 c3 c4 c5
  have pf := partM_fill m
  have q : ∀ c : Nat, partM m c % 2 = if topB m c then 1 else 0 := by
    intro c
    rw [pf c]
    exact (fill_is (rowM_d m c) (by omega) (by cases topB m c <;> simp)).2.2
  have t0 : topB m 0 = false := rfl
  have htop2 : topI (wordTo m 6) = xorI (xorI (xorI (xorI (xorI (xorI 0 0) (bitI m (6 + (((0 : Nat) : Int) + 1)))) (bitI m (6 + (((1 : Nat) : Int) + 1)))) (bitI m (6 + (((2 : Nat) : Int) + 1)))) (bitI m (6 + (((3 : Nat) : Int) + 1)))) (bitI m (6 + (((4 : Nat) : Int) + 1))) := by
    have e0 := bit_top (wordTo m 6) 0
    have e1 := bit_top (wordTo m 6) 1
    have e2 := bit_top (wordTo m 6) 2
    have e3 := bit_top (wordTo m 6) 3
    have e4 := bit_top (wordTo m 6) 4
    have e5 := bit_top (wordTo m 6) 5
    simp only [topI, topTo]
    rw [e0, e1, e2, e3, e4, e5, c0, c1, c2, c3, c4, c5, q 0, q 1, q 2, q 3, q 4, q 5, ← b 0, ← b 1, ← b 2, ← b 3, ← b 4, t0]
    rfl
  have f0 := pf 0
  have f1 := pf 1
  have f2 := pf 2
  have f3 := pf 3
  have f4 := pf 4
  have f5 := pf 5
  rw [t0] at f0
  rw [b 0] at f1
  rw [b 1] at f2
  rw [b 2] at f3
  rw [b 3] at f4
  rw [b 4] at f5
  have hcode : codeOf m = (ofTo (rowM m) m 5).1 + fillC (m % 4) (m / 64 % 2) (xorI (ofTo (rowM m) m 5).2 (m / 64 % 2)) := rfl
  simp only [ofTo] at hcode
  have p1 : (2 : Int) ^ (4 * (0 + 1)) = 16 := by decide
  have p2 : (2 : Int) ^ (4 * (1 + 1)) = 256 := by decide
  have p3 : (2 : Int) ^ (4 * (2 + 1)) = 4096 := by decide
  have p4 : (2 : Int) ^ (4 * (3 + 1)) = 65536 := by decide
  have p5 : (2 : Int) ^ (4 * (4 + 1)) = 1048576 := by decide
  rw [p1, p2, p3, p4, p5, ← f1, ← f2, ← f3, ← f4, ← f5] at hcode
  have s0 : (rowM m).getD 0 0 = m % 4 := rfl
  rw [s0] at f0
  have hf1 : fillC (m % 4) (m / 64 % 2) 1 = xorI (partM m 0) 15 := by
    obtain ⟨s, hs⟩ := (show IsD (m % 4) from ⟨by omega, by omega⟩).fin
    obtain ⟨p, hp⟩ := fin2 (n := m / 64 % 2) (by omega)
    rw [f0, hs, hp]
    have := fill_bare s p
    simp only [Bool.false_eq_true, if_false]
    rw [this.1, this.2]
  simp only [Bool.false_eq_true, if_false] at f0
  unfold wordM
  rw [htop, htop2]
  obtain ⟨x1, hx1⟩ := fin2 (bitI_01 m (6 + (((0 : Nat) : Int) + 1)))
  obtain ⟨x2, hx2⟩ := fin2 (bitI_01 m (6 + (((1 : Nat) : Int) + 1)))
  obtain ⟨x3, hx3⟩ := fin2 (bitI_01 m (6 + (((2 : Nat) : Int) + 1)))
  obtain ⟨x4, hx4⟩ := fin2 (bitI_01 m (6 + (((3 : Nat) : Int) + 1)))
  obtain ⟨x5, hx5⟩ := fin2 (bitI_01 m (6 + (((4 : Nat) : Int) + 1)))
  obtain ⟨xp, hxp⟩ := fin2 (n := m / 64 % 2) (by omega)
  obtain ⟨L1, L2⟩ := last_f x1 x2 x3 x4 x5 xp
  rw [← hx1, ← hx2, ← hx3, ← hx4, ← hx5] at L1
  rw [← hx1, ← hx2, ← hx3, ← hx4, ← hx5, ← hxp] at L2
  rw [L1]
  rw [L2] at hcode
  generalize xorI (xorI (xorI (xorI (xorI 0 (bitI m (6 + (((0 : Nat) : Int) + 1)))) (bitI m (6 + (((1 : Nat) : Int) + 1)))) (bitI m (6 + (((2 : Nat) : Int) + 1)))) (bitI m (6 + (((3 : Nat) : Int) + 1)))) (bitI m (6 + (((4 : Nat) : Int) + 1))) = T at *
  by_cases hT : T = m / 64 % 2
  · rw [if_pos hT] at hcode ⊢
    rw [hcode, hsum, ← f0]; omega
  · rw [if_neg hT] at hcode ⊢
    have hl := xor15_low (partM m 0) (partM m 1 + 16 * partM m 2 + 256 * partM m 3 + 4096 * partM m 4 + 65536 * partM m 5) r0.1 r0.2 (by omega)
    rw [hcode, hf1, hsum, show partM m 0 + 16 * partM m 1 + 256 * partM m 2 + 4096 * partM m 3 + 65536 * partM m 4 + 1048576 * partM m 5 = partM m 0 + 16 * (partM m 1 + 16 * partM m 2 + 256 * partM m 3 + 4096 * partM m 4 + 65536 * partM m 5) by omega, hl]
    omega

/-! ### The message of a word -/
def msgHead (w : Int) : Nat → Int
  | 0 => wt (colI w 0) % 2 * 64
  | i + 1 => orI (msgHead w i) (scoreI w i * 2 ^ (2 * i))
def msgTail (w : Int) : Nat → Int
  | 0 => msgHead w 3
  | j + 1 => if bitI w (4 * ((j : Int) + 1)) = 1 then orI (msgTail w j) (2 ^ (7 + j)) else msgTail w j
def messageM (w : Int) : Int := msgTail w 5
theorem orI_disjoint (a b : Int) (k : Nat) (ha0 : 0 ≤ a) (ha : a < 2 ^ k) (hb : 0 ≤ b) : orI a (b * 2 ^ k) = a + b * 2 ^ k := by
  obtain ⟨A, rfl⟩ := Int.eq_ofNat_of_zero_le ha0
  obtain ⟨B, rfl⟩ := Int.eq_ofNat_of_zero_le hb
  have hA : A < 2 ^ k := by exact_mod_cast ha
  unfold orI
  have e : ((B : Int) * 2 ^ k).toNat = 2 ^ k * B := by
    rw [show ((B : Int) * 2 ^ k) = ((B * 2 ^ k : Nat) : Int) by simp, Int.toNat_natCast, Nat.mul_comm]
  rw [e, Int.toNat_natCast, Nat.or_comm, ← Nat.two_pow_add_eq_or_of_lt hA]
  rw [Nat.mul_comm]
  push_cast
  omega
def headAll (s0 s1 s2 p : Int) : Int := orI (orI (orI (p * 64) (s0 * 1)) (s1 * 4)) (s2 * 16)
theorem headAll_is : ∀ s0 s1 s2 : Fin 4, ∀ p : Fin 2, headAll (s0.val : Int) (s1.val : Int) (s2.val : Int) (p.val : Int) = (s0.val : Int) + 4 * (s1.val : Int) + 16 * (s2.val : Int) + 64 * (p.val : Int) := by decide +kernel
theorem msgHead_is (w : Int) : msgHead w 3 = scoreI w 0 + 4 * scoreI w 1 + 16 * scoreI w 2 + 64 * (wt (colI w 0) % 2) := by
  have e : msgHead w 3 = headAll (scoreI w 0) (scoreI w 1) (scoreI w 2) (wt (colI w 0) % 2) := rfl
  rw [e]
  obtain ⟨a, ha⟩ := (scoreI_d w 0).fin
  obtain ⟨b, hb⟩ := (scoreI_d w 1).fin
  obtain ⟨c, hc⟩ := (scoreI_d w 2).fin
  obtain ⟨p, hp⟩ := fin2 (n := wt (colI w 0) % 2) (by omega)
  rw [ha, hb, hc, hp]
  exact headAll_is a b c p
theorem msgHead_rng (w : Int) : 0 ≤ msgHead w 3 ∧ msgHead w 3 ≤ 127 := by
  have h0 := scoreI_d w 0
  have h1 := scoreI_d w 1
  have h2 := scoreI_d w 2
  unfold IsD at h0 h1 h2
  rw [msgHead_is]
  omega
theorem msgTail_rng (w : Int) (j : Nat) : 0 ≤ msgTail w j ∧ msgTail w j < 2 ^ (7 + j) := by
  induction j with
  | zero => have := msgHead_rng w; simp only [msgTail]; omega
  | succ j ih =>
    have hp : (2 : Int) ^ (7 + (j + 1)) = 2 * 2 ^ (7 + j) := by rw [← Nat.add_assoc, Int.pow_succ, Int.mul_comm]
    have h2 : (0 : Int) < 2 ^ (7 + j) := Int.pow_pos (by decide)
    simp only [msgTail]
    split
    · have := orI_disjoint (msgTail w j) 1 (7 + j) ih.1 ih.2 (by omega)
      rw [Int.one_mul] at this
      rw [this]; omega
    · omega
theorem msgTail_step (w : Int) (j : Nat) : msgTail w (j + 1) = msgTail w j + bitI w (4 * ((j : Int) + 1)) * 2 ^ (7 + j) := by
  have ih := msgTail_rng w j
  simp only [msgTail]
  split
  · rename_i h
    have := orI_disjoint (msgTail w j) 1 (7 + j) ih.1 ih.2 (by omega)
    rw [Int.one_mul] at this
    rw [this, h, Int.one_mul]
  · rename_i h
    have := bitI_01 w (4 * ((j : Int) + 1))
    rw [show bitI w (4 * ((j : Int) + 1)) = 0 by omega]; simp
theorem messageM_is (w : Int) (h : wt (colI w 0) % 2 = topI w) : messageM w = messageOf w := by
  have : ∀ j : Nat, msgTail w j = msgTo w j := by
    intro j
    induction j with
    | zero => simp only [msgTail, msgTo]; rw [msgHead_is, h]
    | succ j ih =>
      rw [msgTail_step, ih]
      simp only [msgTo]
      rw [show 7 + j = 6 + (j + 1) by omega]
  exact this 5
theorem messageM_rng (w : Int) : 0 ≤ messageM w ∧ messageM w ≤ 4095 := by
  have := msgTail_rng w 5
  unfold messageM
  omega
/-- A word is of the code just if its message leads back to it. -/
theorem codeIn_back (w : Int) (h0 : 0 ≤ w) (h1 : w ≤ 16777215) : codeInB w = decide (codeOf (messageM w) = w) := by
  have hr := messageM_rng w
  by_cases h : codeOf (messageM w) = w
  · rw [decide_eq_true h, ← h]
    exact (code_in _).1
  · rw [decide_eq_false h]
    cases hc : codeInB w with
    | false => rfl
    | true =>
      exfalso
      have hp : parI w 0 = topI w := by
        unfold codeInB at hc
        rw [Bool.and_eq_true] at hc
        simpa using (List.all_eq_true.1 hc.1) 0 (List.mem_range.2 (by omega))
      exact h (by rw [messageM_is w hp]; exact (message_ok w h0 h1 hc).2.2)
theorem messageM_code (w : Int) (hc : codeInB w = true) : messageM w = messageOf w := by
  refine messageM_is w ?_
  unfold codeInB at hc
  rw [Bool.and_eq_true] at hc
  have : parI w 0 = topI w := by simpa using (List.all_eq_true.1 hc.1) 0 (List.mem_range.2 (by omega))
  exact this
end Go.Proofs.YtiinekoepoonfabDoor
