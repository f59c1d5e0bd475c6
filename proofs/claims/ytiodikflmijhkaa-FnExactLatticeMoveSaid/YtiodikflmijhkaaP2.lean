import Derived.Test.YtiodikflmijhkaaM14
/- Columns, scores and messages of words; which words are of the code. No program is named here. -/
namespace Go.Proofs.Ytiodikflmijhkaa
set_option linter.unusedVariables false

def colI (w : Int) (c : Nat) : Int := w / 2 ^ (4 * c) % 16
def scT : List Int := [0, 0, 1, 1, 2, 2, 3, 3, 3, 3, 2, 2, 1, 1, 0, 0]
def scN (n : Int) : Int := scT.getD n.toNat 0
def scoreI (w : Int) (c : Nat) : Int := scN (colI w c)
def scoresI (w : Int) : List Int := [scoreI w 0, scoreI w 1, scoreI w 2, scoreI w 3, scoreI w 4, scoreI w 5]
def topTo (w : Int) : Nat → Int
  | 0 => 0
  | c + 1 => xorI (topTo w c) (bitI w (4 * (c : Int)))
def topI (w : Int) : Int := topTo w 6
def parI (w : Int) (c : Nat) : Int := wt (colI w c) % 2
def codeInB (w : Int) : Bool := (List.range 6).all (fun c => parI w c == topI w) && hexB (scoresI w)
def msgTo (w : Int) : Nat → Int
  | 0 => scoreI w 0 + 4 * scoreI w 1 + 16 * scoreI w 2 + 64 * topI w
  | c + 1 => msgTo w c + bitI w (4 * ((c : Int) + 1)) * 2 ^ (6 + (c + 1))
def messageOf (w : Int) : Int := msgTo w 5

theorem colI_range (w : Int) (c : Nat) : 0 ≤ colI w c ∧ colI w c ≤ 15 := by unfold colI; omega
theorem nib_fin {n : Int} (h0 : 0 ≤ n) (h1 : n ≤ 15) : ∃ x : Fin 16, n = (x.val : Int) := by
  obtain ⟨N, rfl⟩ := Int.eq_ofNat_of_zero_le h0
  exact ⟨⟨N, by omega⟩, rfl⟩
theorem scN_d16 : ∀ n : Fin 16, 0 ≤ scN (n.val : Int) ∧ scN (n.val : Int) ≤ 3 := by decide
theorem scoreI_d (w : Int) (c : Nat) : IsD (scoreI w c) := by
  obtain ⟨h0, h1⟩ := colI_range w c
  obtain ⟨x, hx⟩ := nib_fin h0 h1
  unfold scoreI; rw [hx]; exact scN_d16 x
theorem scoresI_row (w : Int) : IsRow6 (scoresI w) := isRow6_mk (scoreI_d w 0) (scoreI_d w 1) (scoreI_d w 2) (scoreI_d w 3) (scoreI_d w 4) (scoreI_d w 5)
theorem fin2 {n : Int} (h : n = 0 ∨ n = 1) : ∃ x : Fin 2, n = (x.val : Int) := by
  rcases h with rfl | rfl
  · exact ⟨0, rfl⟩
  · exact ⟨1, rfl⟩
theorem bit_col (w : Int) (c r : Nat) (hr : r < 4) : bitI w (4 * (c : Int) + r) = bitI (colI w c) r := by
  unfold bitI colI
  have e : (4 * (c : Int) + r).toNat = 4 * c + r := by omega
  rw [e, Int.toNat_natCast, Int.pow_add]
  have h2 : (0 : Int) < 2 ^ (4 * c) := Int.pow_pos (by decide)
  rw [← Int.ediv_ediv_of_nonneg (by omega)]
  generalize w / 2 ^ (4 * c) = v
  have : r = 0 ∨ r = 1 ∨ r = 2 ∨ r = 3 := by omega
  rcases this with rfl | rfl | rfl | rfl <;> simp <;> omega
theorem fill_sc : ∀ s : Fin 4, ∀ p f : Fin 2, scN (fillC (s.val : Int) (p.val : Int) (f.val : Int)) = (s.val : Int) ∧ wt (fillC (s.val : Int) (p.val : Int) (f.val : Int)) % 2 = (p.val : Int) ∧ fillC (s.val : Int) (p.val : Int) (f.val : Int) % 2 = (f.val : Int) := by decide +kernel
theorem fill_back : ∀ n : Fin 16, fillC (scN (n.val : Int)) (wt (n.val : Int) % 2) ((n.val : Int) % 2) = (n.val : Int) := by decide +kernel
theorem fill_is {s p f : Int} (hs : IsD s) (hp : p = 0 ∨ p = 1) (hf : f = 0 ∨ f = 1) : scN (fillC s p f) = s ∧ wt (fillC s p f) % 2 = p ∧ fillC s p f % 2 = f := by
  obtain ⟨s, rfl⟩ := hs.fin; obtain ⟨p, rfl⟩ := fin2 hp; obtain ⟨f, rfl⟩ := fin2 hf
  exact fill_sc s p f
theorem xor01 {a b : Int} (ha : a = 0 ∨ a = 1) (hb : b = 0 ∨ b = 1) : xorI a b = 0 ∨ xorI a b = 1 := by
  rcases ha with rfl | rfl <;> rcases hb with rfl | rfl <;> decide
theorem bit_top (w : Int) (c : Nat) : bitI w (4 * (c : Int)) = colI w c % 2 := by
  have := bit_col w c 0 (by omega)
  simp only [Int.natCast_zero, Int.add_zero] at this
  rw [this]
  simp [bitI]
theorem top_f2 : ∀ a b c d e p : Fin 2, xorI (xorI (xorI (xorI (xorI (xorI 0 (xorI (xorI (xorI (xorI (xorI (xorI 0 (a.val : Int)) (b.val : Int)) (c.val : Int)) (d.val : Int)) (e.val : Int)) (p.val : Int))) (a.val : Int)) (b.val : Int)) (c.val : Int)) (d.val : Int)) (e.val : Int) = (p.val : Int) := by decide +kernel

/-- The six columns of the word of a message. -/
theorem code_cols (m : Int) : ∃ f0 f1 f2 f3 f4 f5 p : Int, (f0 = 0 ∨ f0 = 1) ∧ (f1 = 0 ∨ f1 = 1) ∧ (f2 = 0 ∨ f2 = 1) ∧ (f3 = 0 ∨ f3 = 1) ∧ (f4 = 0 ∨ f4 = 1) ∧ (f5 = 0 ∨ f5 = 1) ∧ (p = 0 ∨ p = 1) ∧
    xorI (xorI (xorI (xorI (xorI (xorI 0 f0) f1) f2) f3) f4) f5 = p ∧
    ∃ r0 r1 r2 r3 r4 r5 : Int, hexRow (m % 4) (m / 4 % 4) (m / 16 % 4) = [r0, r1, r2, r3, r4, r5] ∧ IsD r0 ∧ IsD r1 ∧ IsD r2 ∧ IsD r3 ∧ IsD r4 ∧ IsD r5 ∧
      codeOf m = fillC r0 p f0 + 16 * fillC r1 p f1 + 256 * fillC r2 p f2 + 4096 * fillC r3 p f3 + 65536 * fillC r4 p f4 + 1048576 * fillC r5 p f5 := by
  have hrow := hexRow_row (a := m % 4) (b := m / 4 % 4) (c := m / 16 % 4) ⟨by omega, by omega⟩ ⟨by omega, by omega⟩ ⟨by omega, by omega⟩
  have hp : m / 64 % 2 = 0 ∨ m / 64 % 2 = 1 := by omega
  have b1 := bitI_01 m (6 + ((0 : Nat) : Int) + 1)
  have b2 := bitI_01 m (6 + ((1 : Nat) : Int) + 1)
  have b3 := bitI_01 m (6 + ((2 : Nat) : Int) + 1)
  have b4 := bitI_01 m (6 + ((3 : Nat) : Int) + 1)
  have b5 := bitI_01 m (6 + ((4 : Nat) : Int) + 1)
  obtain ⟨r0, r1, r2, r3, r4, r5, hr, h0, h1, h2, h3, h4, h5⟩ := hrow.six
  have e0 : m % 4 = r0 := by simp only [hexRow, List.cons.injEq] at hr; exact hr.1
  have hc : codeOf m = (ofTo [r0, r1, r2, r3, r4, r5] m 5).1 + fillC r0 (m / 64 % 2) (xorI (ofTo [r0, r1, r2, r3, r4, r5] m 5).2 (m / 64 % 2)) := by
    unfold codeOf; rw [hr, e0]
  simp only [ofTo, Int.add_assoc] at hc b1 b2 b3 b4 b5
  generalize m / 64 % 2 = p at *
  generalize bitI m (6 + (((0 : Nat) : Int) + 1)) = g1 at *
  generalize bitI m (6 + (((1 : Nat) : Int) + 1)) = g2 at *
  generalize bitI m (6 + (((2 : Nat) : Int) + 1)) = g3 at *
  generalize bitI m (6 + (((3 : Nat) : Int) + 1)) = g4 at *
  generalize bitI m (6 + (((4 : Nat) : Int) + 1)) = g5 at *
  refine ⟨xorI (xorI (xorI (xorI (xorI (xorI 0 g1) g2) g3) g4) g5) p, g1, g2, g3, g4, g5, p, ?_, b1, b2, b3, b4, b5, hp, ?_, r0, r1, r2, r3, r4, r5, hr, h0, h1, h2, h3, h4, h5, ?_⟩
  · exact xor01 (xor01 (xor01 (xor01 (xor01 (xor01 (.inl rfl) b1) b2) b3) b4) b5) hp
  · obtain ⟨g1, rfl⟩ := fin2 b1; obtain ⟨g2, rfl⟩ := fin2 b2; obtain ⟨g3, rfl⟩ := fin2 b3; obtain ⟨g4, rfl⟩ := fin2 b4; obtain ⟨g5, rfl⟩ := fin2 b5; obtain ⟨p, rfl⟩ := fin2 hp
    exact top_f2 g1 g2 g3 g4 g5 p
  · rw [hc]
    simp only [List.getD_cons_succ, List.getD_cons_zero]
    have q1 : (2 : Int) ^ (4 * (0 + 1)) = 16 := by decide
    have q2 : (2 : Int) ^ (4 * (1 + 1)) = 256 := by decide
    have q3 : (2 : Int) ^ (4 * (2 + 1)) = 4096 := by decide
    have q4 : (2 : Int) ^ (4 * (3 + 1)) = 65536 := by decide
    have q5 : (2 : Int) ^ (4 * (4 + 1)) = 1048576 := by decide
    rw [q1, q2, q3, q4, q5]
    omega
theorem col_sum (n0 n1 n2 n3 n4 n5 : Int) (h0 : 0 ≤ n0 ∧ n0 ≤ 15) (h1 : 0 ≤ n1 ∧ n1 ≤ 15) (h2 : 0 ≤ n2 ∧ n2 ≤ 15) (h3 : 0 ≤ n3 ∧ n3 ≤ 15) (h4 : 0 ≤ n4 ∧ n4 ≤ 15) (h5 : 0 ≤ n5 ∧ n5 ≤ 15) :
    colI (n0 + 16 * n1 + 256 * n2 + 4096 * n3 + 65536 * n4 + 1048576 * n5) 0 = n0 ∧ colI (n0 + 16 * n1 + 256 * n2 + 4096 * n3 + 65536 * n4 + 1048576 * n5) 1 = n1 ∧ colI (n0 + 16 * n1 + 256 * n2 + 4096 * n3 + 65536 * n4 + 1048576 * n5) 2 = n2 ∧
    colI (n0 + 16 * n1 + 256 * n2 + 4096 * n3 + 65536 * n4 + 1048576 * n5) 3 = n3 ∧ colI (n0 + 16 * n1 + 256 * n2 + 4096 * n3 + 65536 * n4 + 1048576 * n5) 4 = n4 ∧ colI (n0 + 16 * n1 + 256 * n2 + 4096 * n3 + 65536 * n4 + 1048576 * n5) 5 = n5 := by
  unfold colI
  have q0 : (2 : Int) ^ (4 * 0) = 1 := by decide
  have q1 : (2 : Int) ^ (4 * 1) = 16 := by decide
  have q2 : (2 : Int) ^ (4 * 2) = 256 := by decide
  have q3 : (2 : Int) ^ (4 * 3) = 4096 := by decide
  have q4 : (2 : Int) ^ (4 * 4) = 65536 := by decide
  have q5 : (2 : Int) ^ (4 * 5) = 1048576 := by decide
  rw [q0, q1, q2, q3, q4, q5]
  omega
theorem sum_cols (w : Int) (h0 : 0 ≤ w) (h1 : w ≤ 16777215) : w = colI w 0 + 16 * colI w 1 + 256 * colI w 2 + 4096 * colI w 3 + 65536 * colI w 4 + 1048576 * colI w 5 := by
  unfold colI
  have q0 : (2 : Int) ^ (4 * 0) = 1 := by decide
  have q1 : (2 : Int) ^ (4 * 1) = 16 := by decide
  have q2 : (2 : Int) ^ (4 * 2) = 256 := by decide
  have q3 : (2 : Int) ^ (4 * 3) = 4096 := by decide
  have q4 : (2 : Int) ^ (4 * 4) = 65536 := by decide
  have q5 : (2 : Int) ^ (4 * 5) = 1048576 := by decide
  rw [q0, q1, q2, q3, q4, q5]
  omega
theorem fillC_d {s p f : Int} (hs : IsD s) (hp : p = 0 ∨ p = 1) (hf : f = 0 ∨ f = 1) : 0 ≤ fillC s p f ∧ fillC s p f ≤ 15 := fillC_range s p f hs.1 hs.2 (by omega) (by omega) (by omega) (by omega)
theorem code_in (m : Int) : codeInB (codeOf m) = true ∧ scoresI (codeOf m) = hexRow (m % 4) (m / 4 % 4) (m / 16 % 4) := by
  obtain ⟨f0, f1, f2, f3, f4, f5, p, k0, k1, k2, k3, k4, k5, kp, htop, r0, r1, r2, r3, r4, r5, hr, h0, h1, h2, h3, h4, h5, hc⟩ := code_cols m
  obtain ⟨c0, c1, c2, c3, c4, c5⟩ := col_sum _ _ _ _ _ _ (fillC_d h0 kp k0) (fillC_d h1 kp k1) (fillC_d h2 kp k2) (fillC_d h3 kp k3) (fillC_d h4 kp k4) (fillC_d h5 kp k5)
  rw [← hc] at c0 c1 c2 c3 c4 c5
  obtain ⟨s0, p0, t0⟩ := fill_is h0 kp k0
  obtain ⟨s1, p1, t1⟩ := fill_is h1 kp k1
  obtain ⟨s2, p2, t2⟩ := fill_is h2 kp k2
  obtain ⟨s3, p3, t3⟩ := fill_is h3 kp k3
  obtain ⟨s4, p4, t4⟩ := fill_is h4 kp k4
  obtain ⟨s5, p5, t5⟩ := fill_is h5 kp k5
  have hs : scoresI (codeOf m) = [r0, r1, r2, r3, r4, r5] := by
    simp only [scoresI, scoreI, c0, c1, c2, c3, c4, c5, s0, s1, s2, s3, s4, s5]
  have ht : topI (codeOf m) = p := by
    have b0 := bit_top (codeOf m) 0
    have b1 := bit_top (codeOf m) 1
    have b2 := bit_top (codeOf m) 2
    have b3 := bit_top (codeOf m) 3
    have b4 := bit_top (codeOf m) 4
    have b5 := bit_top (codeOf m) 5
    simp only [topI, topTo]
    rw [b0, b1, b2, b3, b4, b5, c0, c1, c2, c3, c4, c5, t0, t1, t2, t3, t4, t5]
    exact htop
  refine ⟨?_, hs.trans hr.symm⟩
  unfold codeInB
  rw [hs, ht, ← hr, Bool.and_eq_true]
  refine ⟨?_, ?_⟩
  · simp only [parI, List.all_eq_true, List.mem_range, beq_iff_eq]
    intro c hc
    match c, hc with
    | 0, _ => rw [c0, p0]
    | 1, _ => rw [c1, p1]
    | 2, _ => rw [c2, p2]
    | 3, _ => rw [c3, p3]
    | 4, _ => rw [c4, p4]
    | 5, _ => rw [c5, p5]
  · exact InHex.b ⟨_, _, _, ⟨by omega, by omega⟩, ⟨by omega, by omega⟩, ⟨by omega, by omega⟩, rfl⟩
theorem topTo_01 (w : Int) (c : Nat) : topTo w c = 0 ∨ topTo w c = 1 := by
  induction c with
  | zero => exact .inl rfl
  | succ c ih => exact xor01 ih (bitI_01 _ _)
theorem msg_f2 : ∀ a b c d e f : Fin 2, xorI (xorI (xorI (xorI (xorI (xorI 0 (b.val : Int)) (c.val : Int)) (d.val : Int)) (e.val : Int)) (f.val : Int)) (xorI (xorI (xorI (xorI (xorI (xorI 0 (a.val : Int)) (b.val : Int)) (c.val : Int)) (d.val : Int)) (e.val : Int)) (f.val : Int)) = (a.val : Int) := by decide +kernel
theorem top01 (w : Int) : xorI (xorI (xorI (xorI (xorI (xorI 0 (colI w 1 % 2)) (colI w 2 % 2)) (colI w 3 % 2)) (colI w 4 % 2)) (colI w 5 % 2)) (topI w) = colI w 0 % 2 := by
  have b0 := bit_top w 0
  have b1 := bit_top w 1
  have b2 := bit_top w 2
  have b3 := bit_top w 3
  have b4 := bit_top w 4
  have b5 := bit_top w 5
  simp only [topI, topTo]
  rw [b0, b1, b2, b3, b4, b5]
  have k : ∀ c : Nat, colI w c % 2 = 0 ∨ colI w c % 2 = 1 := fun c => by omega
  obtain ⟨x0, e0⟩ := fin2 (k 0)
  obtain ⟨x1, e1⟩ := fin2 (k 1)
  obtain ⟨x2, e2⟩ := fin2 (k 2)
  obtain ⟨x3, e3⟩ := fin2 (k 3)
  obtain ⟨x4, e4⟩ := fin2 (k 4)
  obtain ⟨x5, e5⟩ := fin2 (k 5)
  rw [e0, e1, e2, e3, e4, e5]
  exact msg_f2 x0 x1 x2 x3 x4 x5
theorem message_ok (w : Int) (h0 : 0 ≤ w) (h1 : w ≤ 16777215) (h : codeInB w = true) : 0 ≤ messageOf w ∧ messageOf w ≤ 4095 ∧ codeOf (messageOf w) = w := by
  unfold codeInB at h
  rw [Bool.and_eq_true] at h
  obtain ⟨hp, hh⟩ := h
  have hpar : ∀ c : Nat, c < 6 → parI w c = topI w := fun c hc => by simpa using (List.all_eq_true.1 hp) c (List.mem_range.2 hc)
  have d0 := scoreI_d w 0
  have d1 := scoreI_d w 1
  have d2 := scoreI_d w 2
  have ht : topI w = 0 ∨ topI w = 1 := topTo_01 w 6
  have b0 := bit_top w 0
  have b1 := bit_top w 1
  have b2 := bit_top w 2
  have b3 := bit_top w 3
  have b4 := bit_top w 4
  have b5 := bit_top w 5
  simp only [Int.natCast_zero, Int.natCast_one, Int.mul_zero] at b0 b1
  have m5 : messageOf w = scoreI w 0 + 4 * scoreI w 1 + 16 * scoreI w 2 + 64 * topI w + 128 * (colI w 1 % 2) + 256 * (colI w 2 % 2) + 512 * (colI w 3 % 2) + 1024 * (colI w 4 % 2) + 2048 * (colI w 5 % 2) := by
    simp only [messageOf, msgTo]
    have q1 : (4 * (((0 : Nat) : Int) + 1)) = 4 * ((1 : Nat) : Int) := by omega
    have q2 : (4 * (((1 : Nat) : Int) + 1)) = 4 * ((2 : Nat) : Int) := by omega
    have q3 : (4 * (((2 : Nat) : Int) + 1)) = 4 * ((3 : Nat) : Int) := by omega
    have q4 : (4 * (((3 : Nat) : Int) + 1)) = 4 * ((4 : Nat) : Int) := by omega
    have q5 : (4 * (((4 : Nat) : Int) + 1)) = 4 * ((5 : Nat) : Int) := by omega
    rw [q1, q2, q3, q4, q5, bit_top, bit_top, bit_top, bit_top, bit_top]
    have r1 : (2 : Int) ^ (6 + (0 + 1)) = 128 := by decide
    have r2 : (2 : Int) ^ (6 + (1 + 1)) = 256 := by decide
    have r3 : (2 : Int) ^ (6 + (2 + 1)) = 512 := by decide
    have r4 : (2 : Int) ^ (6 + (3 + 1)) = 1024 := by decide
    have r5 : (2 : Int) ^ (6 + (4 + 1)) = 2048 := by decide
    rw [r1, r2, r3, r4, r5]
    omega
  unfold IsD at d0 d1 d2
  have hrng : 0 ≤ messageOf w ∧ messageOf w ≤ 4095 := by omega
  refine ⟨hrng.1, hrng.2, ?_⟩
  have a0 : messageOf w % 4 = scoreI w 0 := by omega
  have a1 : messageOf w / 4 % 4 = scoreI w 1 := by omega
  have a2 : messageOf w / 16 % 4 = scoreI w 2 := by omega
  have a3 : messageOf w / 64 % 2 = topI w := by omega
  have g1 : bitI (messageOf w) (6 + (((0 : Nat) : Int) + 1)) = colI w 1 % 2 := by
    unfold bitI; rw [show (6 + (((0 : Nat) : Int) + 1)).toNat = 7 from rfl]; simp only [show (2 : Int) ^ 7 = 128 from rfl]; omega
  have g2 : bitI (messageOf w) (6 + (((1 : Nat) : Int) + 1)) = colI w 2 % 2 := by
    unfold bitI; rw [show (6 + (((1 : Nat) : Int) + 1)).toNat = 8 from rfl]; simp only [show (2 : Int) ^ 8 = 256 from rfl]; omega
  have g3 : bitI (messageOf w) (6 + (((2 : Nat) : Int) + 1)) = colI w 3 % 2 := by
    unfold bitI; rw [show (6 + (((2 : Nat) : Int) + 1)).toNat = 9 from rfl]; simp only [show (2 : Int) ^ 9 = 512 from rfl]; omega
  have g4 : bitI (messageOf w) (6 + (((3 : Nat) : Int) + 1)) = colI w 4 % 2 := by
    unfold bitI; rw [show (6 + (((3 : Nat) : Int) + 1)).toNat = 10 from rfl]; simp only [show (2 : Int) ^ 10 = 1024 from rfl]; omega
  have g5 : bitI (messageOf w) (6 + (((4 : Nat) : Int) + 1)) = colI w 5 % 2 := by
    unfold bitI; rw [show (6 + (((4 : Nat) : Int) + 1)).toNat = 11 from rfl]; simp only [show (2 : Int) ^ 11 = 2048 from rfl]; omega
  have hrow : hexRow (messageOf w % 4) (messageOf w / 4 % 4) (messageOf w / 16 % 4) = scoresI w := by
    rw [a0, a1, a2]
    unfold hexB eqR at hh
    exact (of_decide_eq_true hh).symm
  have hz := top01 w
  unfold codeOf
  rw [hrow, a0]
  simp only [ofTo, a3]
  rw [g1, g2, g3, g4, g5]
  have fb : ∀ c : Nat, c < 6 → fillC (scoreI w c) (topI w) (colI w c % 2) = colI w c := by
    intro c hc
    obtain ⟨x, hx⟩ := nib_fin (colI_range w c).1 (colI_range w c).2
    rw [← hpar c hc]
    unfold parI scoreI
    rw [hx]; exact fill_back x
  have f1 := fb 1 (by omega)
  have f2 := fb 2 (by omega)
  have f3 := fb 3 (by omega)
  have f4 := fb 4 (by omega)
  have f5 := fb 5 (by omega)
  have f0 := fb 0 (by omega)
  rw [hz]
  simp only [scoresI, List.getD_cons_succ, List.getD_cons_zero]
  rw [f0, f1, f2, f3, f4, f5]
  have q1 : (2 : Int) ^ (4 * (0 + 1)) = 16 := by decide
  have q2 : (2 : Int) ^ (4 * (1 + 1)) = 256 := by decide
  have q3 : (2 : Int) ^ (4 * (2 + 1)) = 4096 := by decide
  have q4 : (2 : Int) ^ (4 * (3 + 1)) = 65536 := by decide
  have q5 : (2 : Int) ^ (4 * (4 + 1)) = 1048576 := by decide
  rw [q1, q2, q3, q4, q5]
  have := sum_cols w h0 h1
  omega
theorem codeIn_iff (w : Int) (h0 : 0 ≤ w) (h1 : w ≤ 16777215) : codeInB w = true ↔ ∃ m : Nat, m < 4096 ∧ codeOf m = w := by
  constructor
  · intro h
    obtain ⟨a, b, c⟩ := message_ok w h0 h1 h
    exact ⟨(messageOf w).toNat, by omega, by rw [Int.toNat_of_nonneg a]; exact c⟩
  · rintro ⟨m, hm, rfl⟩
    exact (code_in m).1
theorem message_code (m : Nat) (h : m < 4096) : messageOf (codeOf m) = m := by
  have hr := codeOf_range (m : Int)
  obtain ⟨a, b, c⟩ := message_ok _ hr.1 hr.2 (code_in m).1
  have e : messageOf (codeOf m) = ((messageOf (codeOf m)).toNat : Nat) := (Int.toNat_of_nonneg a).symm
  rw [e] at c
  have := codeOf_inj _ m (by omega) h c
  omega
theorem far_code (w : Int) (h0 : 0 ≤ w) (h1 : w ≤ 16777215) : farI w = 0 ↔ codeInB w = true := (far_zero w h0 h1).trans (codeIn_iff w h0 h1).symm

/-! ### Sums -/
theorem colI_xor (a b : Int) (ha : 0 ≤ a) (hb : 0 ≤ b) (c : Nat) : colI (xorI a b) c = xorI (colI a c) (colI b c) := by
  obtain ⟨A, rfl⟩ := Int.eq_ofNat_of_zero_le ha
  obtain ⟨B, rfl⟩ := Int.eq_ofNat_of_zero_le hb
  unfold colI xorI
  have e : ∀ X : Nat, (X : Int) / 2 ^ (4 * c) % 16 = ((X / 2 ^ (4 * c) % 16 : Nat) : Int) := fun X => by simp
  simp only [e, Int.toNat_natCast]
  congr 1
  apply Nat.eq_of_testBit_eq
  intro i
  rw [show 16 = 2 ^ 4 from rfl]
  simp only [Nat.testBit_mod_two_pow, Nat.testBit_xor, Nat.testBit_div_two_pow]
  by_cases h : i < 4 <;> simp [h]
theorem scN_xor16 : ∀ a b : Fin 16, scN (xorI (a.val : Int) (b.val : Int)) = xorI (scN (a.val : Int)) (scN (b.val : Int)) := by decide +kernel
theorem scoreI_xor (a b : Int) (ha : 0 ≤ a) (hb : 0 ≤ b) (c : Nat) : scoreI (xorI a b) c = xorI (scoreI a c) (scoreI b c) := by
  unfold scoreI
  rw [colI_xor a b ha hb]
  obtain ⟨x, hx⟩ := nib_fin (colI_range a c).1 (colI_range a c).2
  obtain ⟨y, hy⟩ := nib_fin (colI_range b c).1 (colI_range b c).2
  rw [hx, hy]; exact scN_xor16 x y
theorem scoresI_xor (a b : Int) (ha : 0 ≤ a) (hb : 0 ≤ b) : scoresI (xorI a b) = addR (scoresI a) (scoresI b) := by
  simp only [scoresI, scoreI_xor a b ha hb]; rfl
theorem scores_all : scoresI 16777215 = [0, 0, 0, 0, 0, 0] := by
  have h : ∀ c : Nat, c < 6 → colI 16777215 c = 15 := by
    intro c hc
    match c, hc with
    | 0, _ => rfl
    | 1, _ => rfl
    | 2, _ => rfl
    | 3, _ => rfl
    | 4, _ => rfl
    | 5, _ => rfl
  simp only [scoresI, scoreI, h 0 (by omega), h 1 (by omega), h 2 (by omega), h 3 (by omega), h 4 (by omega), h 5 (by omega)]
  rfl
theorem scores_other (w : Int) (h : 0 ≤ w) : scoresI (xorI w 16777215) = scoresI w := by
  rw [scoresI_xor w _ h (by omega), scores_all]
  obtain ⟨a, b, c, d, e, f, hr, h0, h1, h2, h3, h4, h5⟩ := (scoresI_row w).six
  rw [hr]
  show [_, _, _, _, _, _] = _
  rw [xorI_zero _ h0.1, xorI_zero _ h1.1, xorI_zero _ h2.1, xorI_zero _ h3.1, xorI_zero _ h4.1, xorI_zero _ h5.1]
theorem codeOf_xor (m n : Nat) (hm : m < 4096) (hn : n < 4096) : codeOf ((m ^^^ n : Nat) : Int) = xorI (codeOf m) (codeOf n) := by
  rw [codeOf_cN _ (xor_lt12 m n hm hn), codeOf_cN m hm, codeOf_cN n hn, cN_xor]
  unfold xorI
  rw [Int.toNat_natCast, Int.toNat_natCast]
theorem code_sum (a b : Int) (ha0 : 0 ≤ a) (ha1 : a ≤ 16777215) (hb0 : 0 ≤ b) (hb1 : b ≤ 16777215) (ha : codeInB a = true) (hb : codeInB b = true) : codeInB (xorI a b) = true := by
  obtain ⟨m, hm, rfl⟩ := (codeIn_iff a ha0 ha1).1 ha
  obtain ⟨n, hn, rfl⟩ := (codeIn_iff b hb0 hb1).1 hb
  rw [← codeOf_xor m n hm hn]
  exact (code_in _).1
theorem code_all : codeInB 16777215 = true := (codeIn_iff 16777215 (by omega) (by omega)).2 ⟨3968, by omega, by rw [codeOf_cN 3968 (by omega)]; decide +kernel⟩
theorem code_wtI (w : Int) (h0 : 0 ≤ w) (h1 : w ≤ 16777215) (h : codeInB w = true) : wt w = 0 ∨ wt w = 8 ∨ wt w = 12 ∨ wt w = 16 ∨ wt w = 24 := by
  obtain ⟨m, hm, rfl⟩ := (codeIn_iff w h0 h1).1 h
  rw [codeOf_cN m hm, wt_pop]
  have := (code_wts m hm).1
  omega
end Go.Proofs.Ytiodikflmijhkaa
/- Nearest words as the program and the model gather them; sorting; counting weights; the answers of chapter 3 as functions. No program is named here. -/
namespace Go.Proofs.Ytiodikflmijhkaa
set_option linter.unusedVariables false

/-! ### Gathering -/
theorem snocInd {α : Type} {P : List α → Prop} (nil : P []) (append_singleton : ∀ (ms : List α) (m : α), P ms → P (ms ++ [m])) (ms : List α) : P ms := by
  rw [← List.reverse_reverse ms]
  induction ms.reverse with
  | nil => exact nil
  | cons a l ih => rw [List.reverse_cons]; exact append_singleton _ _ ih
/-- One word more: the least distance so far, the nearest words so far, in the order in which they came. -/
def nearStep (w : Int) (s : List Int × Int) (m : Nat) : List Int × Int :=
  if dI m w < s.2 then ([codeOf m], dI m w) else if dI m w = s.2 then (s.1 ++ [codeOf m], s.2) else s
def nearF (w : Int) (ms : List Nat) : List Int × Int := ms.foldl (nearStep w) ([], 25)
theorem nearF_snoc (w : Int) (ms : List Nat) (m : Nat) : nearF w (ms ++ [m]) = nearStep w (nearF w ms) m := by simp [nearF]
theorem nearF_le (w : Int) (ms : List Nat) : (nearF w ms).1.length ≤ ms.length := by
  induction ms using snocInd with
  | nil => simp [nearF]
  | append_singleton ms m ih =>
    rw [nearF_snoc]
    unfold nearStep
    split
    · simp
    · split
      · simp; omega
      · simp; omega
theorem nearF_rng (w : Int) (ms : List Nat) : 0 ≤ (nearF w ms).2 ∧ (nearF w ms).2 ≤ 25 := by
  induction ms using snocInd with
  | nil => simp [nearF]
  | append_singleton ms m ih =>
    rw [nearF_snoc]
    have := dI_range m w
    unfold nearStep
    split
    · exact ⟨this.1, by show dI m w ≤ 25; omega⟩
    · split
      · exact ih
      · exact ih
theorem nearF_all (w : Int) (k : Nat) : (nearF w (List.range k)).2 = leastI w k ∧ ∀ x, x ∈ (nearF w (List.range k)).1 ↔ ∃ m : Nat, m < k ∧ codeOf m = x ∧ dI m w = leastI w k := by
  induction k with
  | zero => refine ⟨rfl, fun x => ?_⟩; simp [nearF]
  | succ k ih =>
    obtain ⟨h1, h2⟩ := ih
    rw [List.range_succ, nearF_snoc]
    simp only [leastI, nearStep]
    rw [h1]
    by_cases hl : dI k w < leastI w k
    · rw [if_pos hl, if_pos hl]
      refine ⟨rfl, fun x => ?_⟩
      rw [List.mem_singleton]
      constructor
      · rintro rfl; exact ⟨k, by omega, rfl, rfl⟩
      · rintro ⟨m, hm, rfl, hd⟩
        by_cases e : m = k
        · rw [e]
        · have := least_le w k m (by omega); omega
    · rw [if_neg hl, if_neg hl]
      by_cases he : dI k w = leastI w k
      · rw [if_pos he]
        refine ⟨rfl, fun x => ?_⟩
        show x ∈ _ ++ _ ↔ _
        rw [List.mem_append, List.mem_singleton, h2]
        constructor
        · rintro (⟨m, hm, a, b⟩ | rfl)
          · exact ⟨m, by omega, a, b⟩
          · exact ⟨k, by omega, rfl, he⟩
        · rintro ⟨m, hm, rfl, hd⟩
          by_cases e : m = k
          · exact .inr (by rw [e])
          · exact .inl ⟨m, by omega, rfl, hd⟩
      · rw [if_neg he]
        refine ⟨h1, fun x => ?_⟩
        rw [h2]
        constructor
        · rintro ⟨m, hm, a, b⟩; exact ⟨m, by omega, a, b⟩
        · rintro ⟨m, hm, a, b⟩
          by_cases e : m = k
          · exact absurd (e ▸ b) he
          · exact ⟨m, by omega, a, b⟩
theorem nearF_nodup (w : Int) (k : Nat) (hk : k ≤ 4096) : (nearF w (List.range k)).1.Nodup := by
  induction k with
  | zero => simp [nearF]
  | succ k ih =>
    have hm := (nearF_all w k).2
    have ih := ih (by omega)
    rw [List.range_succ, nearF_snoc]
    unfold nearStep
    split
    · simp
    · split
      · show (_ ++ _ : List Int).Nodup
        rw [List.nodup_append]
        refine ⟨ih, by simp, ?_⟩
        intro a ha b hb e
        rw [List.mem_singleton] at hb
        subst hb; subst e
        obtain ⟨m, h1, h2, _⟩ := (hm _).1 ha
        have := codeOf_inj m k (by omega) (by omega) h2
        omega
      · exact ih
/-- A sorted list of what the program has gathered is the list of nearest words. -/
theorem near_sorted (w : Int) (k : Nat) (hk : k = 4096) (L : List Int) (hp : L.Perm (nearF w (List.range k)).1) (hs : L.Pairwise (· ≤ ·)) : IsNear w L := by
  have hf : farI w = leastI w k := by rw [hk]; rfl
  have hm := (nearF_all w k).2
  have hn : L.Nodup := hp.nodup_iff.2 (nearF_nodup w k (by omega))
  refine ⟨?_, fun x => ?_⟩
  · unfold Asc
    exact (hs.and hn).imp fun {a b} h => by omega
  · rw [hp.mem_iff, hm, hf, hk]

/-! ### The model's sorting -/
def insPos (x : Int) (L : List Int) : Nat → Nat
  | 0 => 0
  | k + 1 => if x < L.getD k 0 then insPos x L k else k + 1
def insL (x : Int) (L : List Int) : List Int := L.take (insPos x L L.length) ++ x :: L.drop (insPos x L L.length)
theorem insPos_le (x : Int) (L : List Int) (k : Nat) : insPos x L k ≤ k := by
  induction k with
  | zero => simp [insPos]
  | succ k ih => simp only [insPos]; split <;> omega
theorem insL_mem (x : Int) (L : List Int) (y : Int) : y ∈ insL x L ↔ y = x ∨ y ∈ L := by
  unfold insL
  rw [List.mem_append, List.mem_cons]
  have := List.take_append_drop (insPos x L L.length) L
  constructor
  · rintro (h | h | h)
    · exact .inr (List.mem_of_mem_take h)
    · exact .inl h
    · exact .inr (List.mem_of_mem_drop h)
  · rintro (h | h)
    · exact .inr (.inl h)
    · rw [← this, List.mem_append] at h
      rcases h with h | h
      · exact .inl h
      · exact .inr (.inr h)
theorem insL_len (x : Int) (L : List Int) : (insL x L).length = L.length + 1 := by
  unfold insL
  have := insPos_le x L L.length
  simp
  omega
theorem insPos_at (x : Int) (L : List Int) (k : Nat) : (∀ j, insPos x L k ≤ j → j < k → x < L.getD j 0) ∧ (0 < insPos x L k → ¬ x < L.getD (insPos x L k - 1) 0) := by
  induction k with
  | zero => exact ⟨fun j _ h => by omega, fun h => by simp [insPos] at h⟩
  | succ k ih =>
    simp only [insPos]
    by_cases h : x < L.getD k 0
    · rw [if_pos h]
      refine ⟨fun j h1 h2 => ?_, ih.2⟩
      by_cases e : j = k
      · rw [e]; exact h
      · exact ih.1 j h1 (by omega)
    · rw [if_neg h]
      exact ⟨fun j h1 h2 => by omega, fun _ => by simpa using h⟩
theorem asc_get {L : List Int} (h : Asc L) {i j : Nat} (hij : i < j) (hj : j < L.length) : L.getD i 0 < L.getD j 0 := by
  have := List.pairwise_iff_getElem.1 h i j (by omega) hj hij
  simpa [List.getD_eq_getElem?_getD, List.getElem?_eq_getElem hj, List.getElem?_eq_getElem (show i < L.length by omega)] using this
theorem insL_asc (x : Int) (L : List Int) (h : Asc L) (hx : x ∉ L) : Asc (insL x L) := by
  obtain ⟨h1, h2⟩ := insPos_at x L L.length
  have hle := insPos_le x L L.length
  unfold Asc insL
  generalize insPos x L L.length = k at *
  rw [List.pairwise_append]
  refine ⟨h.sublist (List.take_sublist _ _), ?_, ?_⟩
  · rw [List.pairwise_cons]
    refine ⟨fun y hy => ?_, h.sublist (List.drop_sublist _ _)⟩
    obtain ⟨i, hi, rfl⟩ := List.mem_iff_getElem.1 hy
    have hi' : k + i < L.length := by simp at hi; omega
    have := h1 (k + i) (by omega) hi'
    simpa [List.getD_eq_getElem?_getD, List.getElem?_eq_getElem hi'] using this
  · intro a ha b hb
    obtain ⟨i, hi, rfl⟩ := List.mem_iff_getElem.1 ha
    have hi' : i < k ∧ i < L.length := by simp at hi; omega
    have ga : (List.take k L)[i] = L.getD i 0 := by simp [List.getD_eq_getElem?_getD, List.getElem?_eq_getElem hi'.2]
    have hax : L.getD i 0 < x := by
      have q := h2 (by omega)
      have hne : L.getD (k - 1) 0 ≠ x := by
        intro e
        apply hx
        rw [← e, List.getD_eq_getElem?_getD, List.getElem?_eq_getElem (show k - 1 < L.length by omega)]
        exact List.getElem_mem _
      by_cases e : i = k - 1
      · subst e; omega
      · have := asc_get h (i := i) (j := k - 1) (by omega) (by omega); omega
    rw [ga]
    rcases List.mem_cons.1 hb with rfl | hb
    · exact hax
    · obtain ⟨j, hj, rfl⟩ := List.mem_iff_getElem.1 hb
      have hj' : k + j < L.length := by simp at hj; omega
      have := h1 (k + j) (by omega) hj'
      have gb : (List.drop k L)[j] = L.getD (k + j) 0 := by simp [List.getD_eq_getElem?_getD, List.getElem?_eq_getElem hj']
      rw [gb]; omega
/-- One word more, as the model gathers it. -/
def nearStepS (w : Int) (s : List Int × Int) (m : Nat) : List Int × Int :=
  if dI m w < s.2 then (insL (codeOf m) [], dI m w) else if dI m w = s.2 then (insL (codeOf m) s.1, s.2) else s
def nearS (w : Int) : Nat → List Int × Int
  | 0 => ([], 25)
  | k + 1 => nearStepS w (nearS w k) k
theorem nearS_all (w : Int) (k : Nat) (hk : k ≤ 4096) : (nearS w k).2 = leastI w k ∧ Asc (nearS w k).1 ∧ (nearS w k).1.length ≤ k ∧ ∀ x, x ∈ (nearS w k).1 ↔ ∃ m : Nat, m < k ∧ codeOf m = x ∧ dI m w = leastI w k := by
  induction k with
  | zero => refine ⟨rfl, List.Pairwise.nil, Nat.le_refl _, fun x => ?_⟩; simp [nearS]
  | succ k ih =>
    obtain ⟨h1, ha, hn, h2⟩ := ih (by omega)
    simp only [leastI, nearS, nearStepS]
    rw [h1]
    by_cases hl : dI k w < leastI w k
    · rw [if_pos hl, if_pos hl]
      refine ⟨rfl, insL_asc _ _ List.Pairwise.nil (by simp), by rw [insL_len]; simp, fun x => ?_⟩
      rw [insL_mem]
      constructor
      · rintro (rfl | h)
        · exact ⟨k, by omega, rfl, rfl⟩
        · simp at h
      · rintro ⟨m, hm, rfl, hd⟩
        by_cases e : m = k
        · exact .inl (by rw [e])
        · have := least_le w k m (by omega); omega
    · rw [if_neg hl, if_neg hl]
      by_cases he : dI k w = leastI w k
      · rw [if_pos he]
        have hnew : codeOf k ∉ (nearS w k).1 := by
          intro hm
          obtain ⟨m, q1, q2, _⟩ := (h2 _).1 hm
          have := codeOf_inj m k (by omega) (by omega) q2
          omega
        refine ⟨rfl, insL_asc _ _ ha hnew, by rw [insL_len]; omega, fun x => ?_⟩
        rw [insL_mem, h2]
        constructor
        · rintro (rfl | ⟨m, hm, a, b⟩)
          · exact ⟨k, by omega, rfl, he⟩
          · exact ⟨m, by omega, a, b⟩
        · rintro ⟨m, hm, rfl, hd⟩
          by_cases e : m = k
          · exact .inl (by rw [e])
          · exact .inr ⟨m, by omega, rfl, hd⟩
      · rw [if_neg he]
        refine ⟨h1, ha, by omega, fun x => ?_⟩
        rw [h2]
        constructor
        · rintro ⟨m, hm, a, b⟩; exact ⟨m, by omega, a, b⟩
        · rintro ⟨m, hm, a, b⟩
          by_cases e : m = k
          · exact absurd (e ▸ b) he
          · exact ⟨m, by omega, a, b⟩
def nearK (w : Int) (k : Nat) : List Int := (nearS w k).1
theorem nearK_is (w : Int) (k : Nat) (hk : k = 4096) : IsNear w (nearK w k) := by
  obtain ⟨h1, h2, _, h3⟩ := nearS_all w k (by omega)
  have hf : farI w = leastI w k := by rw [hk]; rfl
  exact ⟨h2, fun x => by unfold nearK; rw [h3, hf, hk]⟩
theorem nearS_far (w : Int) (k : Nat) (hk : k = 4096) : (nearS w k).2 = farI w := by
  have hf : farI w = leastI w k := by rw [hk]; rfl
  rw [(nearS_all w k (by omega)).1, hf]
theorem nearS_pair (w : Int) (k : Nat) (hk : k = 4096) : nearS w k = (nearK w k, farI w) := by
  rw [← nearS_far w k hk]; rfl
def nearL (w : Int) : List Int := nearK w 4096
theorem nearL_is (w : Int) : IsNear w (nearL w) := nearK_is w 4096 rfl
theorem nearF_far (w : Int) (k : Nat) (hk : k = 4096) : (nearF w (List.range k)).2 = farI w := by
  have hf : farI w = leastI w k := by rw [hk]; rfl
  rw [(nearF_all w k).1, hf]
theorem nearL_len (w : Int) (h0 : 0 ≤ w) (h1 : w ≤ 16777215) : (farI w = 4 ∧ (nearL w).length = 6) ∨ (farI w < 4 ∧ (nearL w).length = 1) := near_count w h0 h1 _ (nearL_is w)
theorem near_sorted_is (w : Int) (k : Nat) (hk : k = 4096) (L : List Int) (hp : L.Perm (nearF w (List.range k)).1) (hs : L.Pairwise (· ≤ ·)) : L = nearL w := near_same (near_sorted w k hk L hp hs) (nearL_is w)
theorem nearF_len (w : Int) (k : Nat) (hk : k = 4096) : (nearF w (List.range k)).1.length = (nearL w).length := by
  have hf : farI w = leastI w k := by rw [hk]; rfl
  have hm := (nearF_all w k).2
  have hd := nearF_nodup w k (by omega)
  have hn := nearL_is w
  generalize (nearF w (List.range k)).1 = L at *
  generalize nearL w = M at *
  exact asc_length hd hn.1.nodup fun x => by rw [hm, hn.2, hf, hk]
theorem nearF_len6 (w : Int) (k : Nat) (hk : k = 4096) (h0 : 0 ≤ w) (h1 : w ≤ 16777215) : 1 ≤ (nearF w (List.range k)).1.length ∧ (nearF w (List.range k)).1.length ≤ 6 := by
  have h := nearL_len w h0 h1
  rw [nearF_len w k hk]
  generalize (nearL w).length = n at *
  generalize farI w = f at *
  omega
theorem near_at (w : Int) (L : List Int) (hn : IsNear w L) (j : Nat) (hj : j < L.length) : ∃ m : Nat, m < 4096 ∧ codeOf m = L.getD j 0 ∧ dI m w = farI w := by
  have hm : L.getD j 0 ∈ L := by rw [List.getD_eq_getElem?_getD, List.getElem?_eq_getElem hj]; exact List.getElem_mem _
  obtain ⟨m, h1, h2, h3⟩ := (hn.2 _).1 hm
  exact ⟨m, h1, h2, h3⟩
theorem nearL_at (w : Int) (j : Nat) (hj : j < (nearL w).length) : ∃ m : Nat, m < 4096 ∧ codeOf m = (nearL w).getD j 0 ∧ dI m w = farI w := near_at w _ (nearL_is w) j hj

/-! ### Mending -/
theorem mend_eq (w : Int) (h0 : 0 ≤ w) (h1 : w ≤ 16777215) (m : Nat) (hm : m < 4096) (hd : dI m w ≤ 3) : farI w ≤ 3 ∧ (nearL w).getD 0 0 = codeOf m := by
  have hle := least_le w 4096 m hm
  have hf : farI w ≤ 3 := by unfold farI; omega
  have hl := nearL_len w h0 h1
  obtain ⟨n, hn, e, hdn⟩ := nearL_at w 0 (by omega)
  refine ⟨hf, ?_⟩
  rw [← e, near_uniqueI n m w hn hm h0 (by omega)]
theorem dI_self_xor (m : Nat) (e : Int) (he : 0 ≤ e) : dI m (xorI (codeOf m) e) = wt e := by
  unfold dI
  have := codeOf_range (m : Int)
  rw [← xorI_assoc, xorI_self, zero_xorI e he]
theorem wt_pow (i : Nat) (h : i < 24) : wt (2 ^ i : Int) = 1 := by
  have : ∀ i : Fin 24, wt (2 ^ i.val : Int) = 1 := by decide +kernel
  exact this ⟨i, h⟩
theorem wt_xor_le (a b : Int) (ha : 0 ≤ a) (hb : 0 ≤ b) : wt (xorI a b) ≤ wt a + wt b := by
  obtain ⟨A, rfl⟩ := Int.eq_ofNat_of_zero_le ha
  obtain ⟨B, rfl⟩ := Int.eq_ofNat_of_zero_le hb
  have := wt_xor A B
  have := wt_range (andI (A : Int) (B : Int))
  omega

/-! ### Counting -/
def cntStep (c : List Int) (m : Nat) : List Int := c.set (pop (cN m)) (c.getD (pop (cN m)) 0 + 1)
def cntF (ms : List Nat) : List Int := ms.foldl cntStep (List.replicate 25 0)
theorem cntF_snoc (ms : List Nat) (m : Nat) : cntF (ms ++ [m]) = cntStep (cntF ms) m := by simp [cntF]
theorem cntF_len (ms : List Nat) : (cntF ms).length = 25 := by
  induction ms using snocInd with
  | nil => simp [cntF]
  | append_singleton ms m ih => rw [cntF_snoc]; simp [cntStep, ih]
theorem cntF_get (ms : List Nat) (k : Nat) (hk : k < 25) : (cntF ms).getD k 0 = ((ms.filter fun m => pop (cN m) == k).length : Nat) := by
  induction ms using snocInd with
  | nil => 
    have : ∀ k : Fin 25, (cntF []).getD k.val 0 = 0 := by decide
    simpa using this ⟨k, hk⟩
  | append_singleton ms m ih =>
    have hl := cntF_len ms
    rw [cntF_snoc, List.filter_append, List.length_append]
    unfold cntStep
    by_cases h : pop (cN m) = k
    · subst h
      rw [List.getD_eq_getElem?_getD, List.getElem?_set_self (by omega), Option.getD_some, ih]
      simp
    · rw [List.getD_eq_getElem?_getD, List.getElem?_set_ne h, ← List.getD_eq_getElem?_getD, ih]
      simp [h]
theorem cntF_rng (ms : List Nat) (k : Nat) (hk : k < 25) : 0 ≤ (cntF ms).getD k 0 ∧ (cntF ms).getD k 0 ≤ ms.length := by
  rw [cntF_get ms k hk]
  have := List.length_filter_le (fun m => pop (cN m) == k) ms
  omega
def sumTo (c : List Int) : Nat → Int
  | 0 => 0
  | k + 1 => sumTo c k + c.getD k 0
theorem sumTo_set (c : List Int) (j : Nat) (x : Int) (k : Nat) (hj : j < c.length) : sumTo (c.set j x) k = sumTo c k + if j < k then x - c.getD j 0 else 0 := by
  induction k with
  | zero => simp [sumTo]
  | succ k ih =>
    simp only [sumTo]
    rw [ih]
    by_cases e : j = k
    · subst e
      rw [if_neg (by omega), if_pos (by omega), List.getD_eq_getElem?_getD (l := c.set j x), List.getElem?_set_self hj]
      simp only [Option.getD_some]
      omega
    · rw [List.getD_eq_getElem?_getD (l := c.set j x), List.getElem?_set_ne e, ← List.getD_eq_getElem?_getD]
      by_cases h : j < k
      · rw [if_pos h, if_pos (by omega)]; omega
      · rw [if_neg h, if_neg (by omega)]; omega
theorem cnt_sum (ms : List Nat) : sumTo (cntF ms) 25 = ms.length := by
  induction ms using snocInd with
  | nil => decide
  | append_singleton ms m ih =>
    have hl := cntF_len ms
    have hp := pop_le (cN m)
    rw [cntF_snoc]
    unfold cntStep
    rw [sumTo_set _ _ _ _ (by omega), if_pos (by omega), ih]
    simp
    omega
theorem cnt_zero (ms : List Nat) (hm : ∀ m ∈ ms, m < 4096) (k : Nat) (hk : k < 25) (h0 : k ≠ 0) (h8 : k ≠ 8) (h12 : k ≠ 12) (h16 : k ≠ 16) (h24 : k ≠ 24) : (cntF ms).getD k 0 = 0 := by
  rw [cntF_get ms k hk]
  have : (ms.filter fun m => pop (cN m) == k) = [] := by
    rw [List.filter_eq_nil_iff]
    intro m hmem
    have := (code_wts m (hm m hmem)).1
    simp
    omega
  rw [this]; rfl
def cntN (k : Nat) : Nat → Nat
  | 0 => 0
  | n + 1 => cntN k n + if pop (cN n) == k then 1 else 0
theorem cntN_eq (k n : Nat) : ((List.range n).filter fun m => pop (cN m) == k).length = cntN k n := by
  induction n with
  | zero => rfl
  | succ n ih =>
    rw [List.range_succ, List.filter_append, List.length_append, ih]
    simp only [cntN]
    by_cases h : pop (cN n) == k <;> simp [h]
set_option maxRecDepth 100000 in
theorem cnt_five : cntN 0 4096 = 1 ∧ cntN 8 4096 = 759 ∧ cntN 12 4096 = 2576 ∧ cntN 16 4096 = 759 ∧ cntN 24 4096 = 1 := by decide +kernel
theorem cnt_all : (cntF (List.range 4096)).getD 0 0 = 1 ∧ (cntF (List.range 4096)).getD 8 0 = 759 ∧ (cntF (List.range 4096)).getD 12 0 = 2576 ∧ (cntF (List.range 4096)).getD 16 0 = 759 ∧ (cntF (List.range 4096)).getD 24 0 = 1 := by
  obtain ⟨a, b, c, d, e⟩ := cnt_five
  rw [cntF_get _ 0 (by omega), cntF_get _ 8 (by omega), cntF_get _ 12 (by omega), cntF_get _ 16 (by omega), cntF_get _ 24 (by omega), cntN_eq, cntN_eq, cntN_eq, cntN_eq, cntN_eq, a, b, c, d, e]
  exact ⟨rfl, rfl, rfl, rfl, rfl⟩
/-- The messages from one to another. -/
def msgs (lo hi : Nat) : List Nat := List.range' lo (hi + 1 - lo)
theorem msgs_all : msgs 0 4095 = List.range 4096 := by unfold msgs; rw [List.range_eq_range']
theorem msgs_len (lo hi : Nat) : (msgs lo hi).length = hi + 1 - lo := by simp [msgs]
theorem msgs_lt (lo hi : Nat) (h : hi < 4096) : ∀ m ∈ msgs lo hi, m < 4096 := by
  intro m hm
  simp only [msgs, List.mem_range'_1] at hm
  omega
theorem msgs_cons (lo hi : Nat) (h : lo ≤ hi) : msgs lo hi = lo :: msgs (lo + 1) hi := by
  unfold msgs
  rw [show hi + 1 - lo = (hi + 1 - (lo + 1)) + 1 by omega, List.range'_succ]
theorem msgs_nil (lo hi : Nat) (h : hi < lo) : msgs lo hi = [] := by unfold msgs; rw [show hi + 1 - lo = 0 by omega]; rfl
theorem msgs_snoc (lo hi : Nat) (h : lo ≤ hi + 1) : msgs lo (hi + 1) = msgs lo hi ++ [hi + 1] := by
  unfold msgs
  rw [show hi + 1 + 1 - lo = (hi + 1 - lo) + 1 by omega, List.range'_concat]
  congr 2
  omega

/-! ### The answers of chapter 3 -/
def wordB (w : Int) : Bool := decide (0 ≤ w ∧ w ≤ 16777215)
def msgB (m : Int) : Bool := decide (0 ≤ m ∧ m ≤ 4095)
theorem wordB_iff (w : Int) : wordB w = true ↔ 0 ≤ w ∧ w ≤ 16777215 := by simp [wordB]
theorem wordB_no (w : Int) : wordB w = false ↔ w < 0 ∨ 16777215 < w := by simp [wordB]; omega
theorem msgB_iff (w : Int) : msgB w = true ↔ 0 ≤ w ∧ w ≤ 4095 := by simp [msgB]
theorem msgB_no (w : Int) : msgB w = false ↔ w < 0 ∨ 4095 < w := by simp [msgB]; omega
def cScores (w : Int) : List Int × Bool := if wordB w then (scoresI w, true) else ([], false)
def cIn (w : Int) : Bool := wordB w && codeInB w
def cOf (m : Int) : Int × Bool := if msgB m then (codeOf m, true) else (0, false)
def cMsg (w : Int) : Int × Bool := if cIn w then (messageOf w, true) else (0, false)
def cFar (w : Int) : Int := if wordB w then farI w else -1
def cNear (w : Int) : List Int × Bool := if wordB w then (nearL w, true) else ([], false)
def cMend (w : Int) : Int × Bool := if wordB w && decide (farI w ≤ 3) then ((nearL w).getD 0 0, true) else (0, false)
def wgtB (lo hi : Int) : Bool := decide (0 ≤ lo ∧ lo ≤ hi ∧ hi ≤ 4095)
def cWeights (lo hi : Int) : List Int × Bool := if wgtB lo hi then (cntF (msgs lo.toNat hi.toNat), true) else ([], false)
end Go.Proofs.Ytiodikflmijhkaa
/- The word of a message and the message of a word as the program makes them. No program is named here. -/
namespace Go.Proofs.Ytiodikflmijhkaa
set_option linter.unusedVariables false

def bareT : List Int := [0, 12, 10, 6, 14, 2, 4, 8]
def rowM (m : Int) : List Int := hexRow (m % 4) (m / 4 % 4) (m / 16 % 4)
def topB (m : Int) (c : Nat) : Bool := decide (0 < c ∧ m / 2 ^ (6 + c) % 2 = 1)
def bareM (m : Int) (c : Nat) : Int := bareT.getD (m / 64 % 2 * 4 + (rowM m).getD c 0).toNat 0
def partM (m : Int) (c : Nat) : Int := if topB m c then xorI (bareM m c) 15 else bareM m c
def wordTo (m : Int) : Nat → Int
  | 0 => 0
  | c + 1 => xorI (wordTo m c) (partM m c * 2 ^ (4 * c))
def wordM (m : Int) : Int := if wt (andI (wordTo m 6) 1118481) % 2 = m / 64 % 2 then wordTo m 6 else xorI (wordTo m 6) 15
theorem rowM_d (m : Int) (c : Nat) : IsD ((rowM m).getD c 0) :=
  (hexRow_row (a := m % 4) (b := m / 4 % 4) (c := m / 16 % 4) ⟨by omega, by omega⟩ ⟨by omega, by omega⟩ ⟨by omega, by omega⟩).get c
theorem bareT_rng : ∀ i : Fin 8, 0 ≤ bareT.getD i.val 0 ∧ bareT.getD i.val 0 ≤ 15 := by decide
theorem bareM_rng (m : Int) (c : Nat) : 0 ≤ bareM m c ∧ bareM m c ≤ 15 := by
  have h := rowM_d m c
  unfold IsD at h
  exact bareT_rng ⟨(m / 64 % 2 * 4 + (rowM m).getD c 0).toNat, by omega⟩
theorem xorI_le15 (a b : Int) (h1 : a ≤ 15) (h3 : b ≤ 15) : xorI a b ≤ 15 := by
  unfold xorI
  have := Nat.xor_lt_two_pow (n := 4) (x := a.toNat) (y := b.toNat) (by omega) (by omega)
  omega
theorem partM_rng (m : Int) (c : Nat) : 0 ≤ partM m c ∧ partM m c ≤ 15 := by
  have h := bareM_rng m c
  unfold partM
  split
  · exact ⟨xorI_nonneg _ _, xorI_le15 _ _ h.2 (by omega)⟩
  · exact h
theorem shift_rng (x : Int) (c : Nat) (hc : c < 6) (h0 : 0 ≤ x) (h1 : x ≤ 15) : 0 ≤ x * 2 ^ (4 * c) ∧ x * 2 ^ (4 * c) ≤ 15728640 := by
  have : c = 0 ∨ c = 1 ∨ c = 2 ∨ c = 3 ∨ c = 4 ∨ c = 5 := by omega
  rcases this with rfl | rfl | rfl | rfl | rfl | rfl <;> simp <;> omega
theorem wordTo_rng (m : Int) (c : Nat) (hc : c ≤ 6) : 0 ≤ wordTo m c ∧ wordTo m c ≤ 16777215 := by
  induction c with
  | zero => simp [wordTo]
  | succ c ih =>
    have := ih (by omega)
    have := partM_rng m c
    have := shift_rng (partM m c) c (by omega) this.1 this.2
    exact ⟨xorI_nonneg _ _, xorI_le _ _ (by omega) (by omega)⟩

theorem xorI_disjoint (a b : Int) (k : Nat) (ha0 : 0 ≤ a) (ha : a < 2 ^ k) (hb : 0 ≤ b) : xorI a (b * 2 ^ k) = a + b * 2 ^ k := by
  obtain ⟨A, rfl⟩ := Int.eq_ofNat_of_zero_le ha0
  obtain ⟨B, rfl⟩ := Int.eq_ofNat_of_zero_le hb
  have hA : A < 2 ^ k := by exact_mod_cast ha
  have e : ((B : Int) * 2 ^ k).toNat = B * 2 ^ k := by
    rw [show ((B : Int) * 2 ^ k) = ((B * 2 ^ k : Nat) : Int) by simp, Int.toNat_natCast]
  have hz : A &&& (B * 2 ^ k) = 0 := by
    apply Nat.eq_of_testBit_eq
    intro i
    rw [Nat.testBit_and, Nat.zero_testBit, Nat.mul_comm, Nat.testBit_two_pow_mul]
    by_cases h : k ≤ i
    · rw [Nat.testBit_lt_two_pow (Nat.lt_of_lt_of_le hA (Nat.pow_le_pow_right (by decide) h))]; simp
    · simp [h]
  have hx : A ^^^ (B * 2 ^ k) = A + B * 2 ^ k := by
    have h2 := Nat.two_pow_add_eq_or_of_lt hA B
    rw [Nat.mul_comm] at h2
    have h3 : A ^^^ (B * 2 ^ k) = A ||| (B * 2 ^ k) := by
      apply Nat.eq_of_testBit_eq
      intro i
      have hi : (A &&& (B * 2 ^ k)).testBit i = false := by rw [hz]; exact Nat.zero_testBit i
      rw [Nat.testBit_and] at hi
      rw [Nat.testBit_xor, Nat.testBit_or]
      cases hA' : A.testBit i <;> cases hB' : (B * 2 ^ k).testBit i <;> simp_all
    rw [h3, Nat.or_comm, ← h2, Nat.add_comm]
  unfold xorI
  rw [e, Int.toNat_natCast, hx]
  push_cast
  omega
theorem fill_bare : ∀ s : Fin 4, ∀ p : Fin 2, fillC (s.val : Int) (p.val : Int) 0 = bareT.getD (p.val * 4 + s.val) 0 ∧ fillC (s.val : Int) (p.val : Int) 1 = xorI (bareT.getD (p.val * 4 + s.val) 0) 15 := by decide
theorem partM_fill (m : Int) (c : Nat) : partM m c = fillC ((rowM m).getD c 0) (m / 64 % 2) (if topB m c then 1 else 0) := by
  obtain ⟨s, hs⟩ := (rowM_d m c).fin
  obtain ⟨p, hp⟩ := fin2 (n := m / 64 % 2) (by omega)
  obtain ⟨h0, h1⟩ := fill_bare s p
  have e : (m / 64 % 2 * 4 + (rowM m).getD c 0).toNat = p.val * 4 + s.val := by rw [hs, hp]; omega
  unfold partM bareM
  rw [e, hs, hp]
  cases topB m c
  · simpa using h0.symm
  · simpa using h1.symm
theorem wordTo_sum (m : Int) : wordTo m 6 = partM m 0 + 16 * partM m 1 + 256 * partM m 2 + 4096 * partM m 3 + 65536 * partM m 4 + 1048576 * partM m 5 := by
  have r := partM_rng m
  have r0 := r 0
  have r1 := r 1
  have r2 := r 2
  have r3 := r 3
  have r4 := r 4
  have r5 := r 5
  have w1 : wordTo m 1 = partM m 0 := by
    show xorI 0 (partM m 0 * 2 ^ 0) = _
    rw [show partM m 0 * 2 ^ 0 = partM m 0 by simp, zero_xorI _ r0.1]
  have w2 : wordTo m 2 = partM m 0 + 16 * partM m 1 := by
    show xorI (wordTo m 1) (partM m 1 * 2 ^ 4) = _
    rw [w1, xorI_disjoint _ _ 4 r0.1 (by omega) r1.1]; omega
  have w3 : wordTo m 3 = partM m 0 + 16 * partM m 1 + 256 * partM m 2 := by
    show xorI (wordTo m 2) (partM m 2 * 2 ^ 8) = _
    rw [w2, xorI_disjoint _ _ 8 (by omega) (by omega) r2.1]; omega
  have w4 : wordTo m 4 = partM m 0 + 16 * partM m 1 + 256 * partM m 2 + 4096 * partM m 3 := by
    show xorI (wordTo m 3) (partM m 3 * 2 ^ 12) = _
    rw [w3, xorI_disjoint _ _ 12 (by omega) (by omega) r3.1]; omega
  have w5 : wordTo m 5 = partM m 0 + 16 * partM m 1 + 256 * partM m 2 + 4096 * partM m 3 + 65536 * partM m 4 := by
    show xorI (wordTo m 4) (partM m 4 * 2 ^ 16) = _
    rw [w4, xorI_disjoint _ _ 16 (by omega) (by omega) r4.1]; omega
  show xorI (wordTo m 5) (partM m 5 * 2 ^ 20) = _
  rw [w5, xorI_disjoint _ _ 20 (by omega) (by omega) r5.1]; omega
/-- The weight of row 0 modulo 2. -/
theorem top_sum : ∀ a b c d e f : Fin 2, ((a.val : Int) + (b.val : Int) + (c.val : Int) + (d.val : Int) + (e.val : Int) + (f.val : Int)) % 2 = xorI (xorI (xorI (xorI (xorI (xorI 0 (a.val : Int)) (b.val : Int)) (c.val : Int)) (d.val : Int)) (e.val : Int)) (f.val : Int) := by decide +kernel
theorem and_bit (a b : Int) (ha : 0 ≤ a) (hb : 0 ≤ b) (i : Nat) : bitI (andI a b) i = bitI a i * bitI b i := by
  obtain ⟨A, rfl⟩ := Int.eq_ofNat_of_zero_le ha
  obtain ⟨B, rfl⟩ := Int.eq_ofNat_of_zero_le hb
  unfold andI
  rw [Int.toNat_natCast, Int.toNat_natCast, bitI_nat, bitI_nat, bitI_nat, Nat.testBit_and]
  cases A.testBit i <;> cases B.testBit i <;> rfl
theorem topRow_bits : ∀ i : Fin 24, bitI 1118481 (i.val : Int) = if i.val % 4 = 0 then 1 else 0 := by decide
theorem wt_top (w : Int) (h0 : 0 ≤ w) : wt (andI w 1118481) % 2 = topI w := by
  have hb : ∀ i : Nat, i < 24 → bitI (andI w 1118481) i = if i % 4 = 0 then bitI w i else 0 := by
    intro i hi
    rw [and_bit w _ h0 (by omega), topRow_bits ⟨i, hi⟩]
    split <;> simp
  have hs : wt (andI w 1118481) = bitI w 0 + bitI w 4 + bitI w 8 + bitI w 12 + bitI w 16 + bitI w 20 := by
    unfold wt
    simp only [wtTo]
    rw [hb 0 (by omega), hb 1 (by omega), hb 2 (by omega), hb 3 (by omega), hb 4 (by omega), hb 5 (by omega), hb 6 (by omega), hb 7 (by omega), hb 8 (by omega), hb 9 (by omega), hb 10 (by omega), hb 11 (by omega), hb 12 (by omega), hb 13 (by omega), hb 14 (by omega), hb 15 (by omega), hb 16 (by omega), hb 17 (by omega), hb 18 (by omega), hb 19 (by omega), hb 20 (by omega), hb 21 (by omega), hb 22 (by omega), hb 23 (by omega)]
    simp
  rw [hs]
  have e : topI w = xorI (xorI (xorI (xorI (xorI (xorI 0 (bitI w 0)) (bitI w 4)) (bitI w 8)) (bitI w 12)) (bitI w 16)) (bitI w 20) := rfl
  rw [e]
  obtain ⟨x0, e0⟩ := fin2 (bitI_01 w 0)
  obtain ⟨x1, e1⟩ := fin2 (bitI_01 w 4)
  obtain ⟨x2, e2⟩ := fin2 (bitI_01 w 8)
  obtain ⟨x3, e3⟩ := fin2 (bitI_01 w 12)
  obtain ⟨x4, e4⟩ := fin2 (bitI_01 w 16)
  obtain ⟨x5, e5⟩ := fin2 (bitI_01 w 20)
  rw [e0, e1, e2, e3, e4, e5]
  exact top_sum x0 x1 x2 x3 x4 x5
theorem xor15_low (x R : Int) (h0 : 0 ≤ x) (h1 : x ≤ 15) (hR : 0 ≤ R) : xorI (x + 16 * R) 15 = xorI x 15 + 16 * R := by
  have e1 : x + 16 * R = xorI x (R * 2 ^ 4) := by rw [xorI_disjoint x R 4 h0 (by omega) hR]; omega
  have h2 := xorI_le15 x 15 h1 (by omega)
  rw [e1, xorI_assoc, xorI_comm _ 15, ← xorI_assoc, xorI_disjoint _ R 4 (xorI_nonneg _ _) (by omega) hR]; omega
theorem last_f : ∀ a b c d e p : Fin 2, xorI (xorI (xorI (xorI (xorI (xorI 0 0) (a.val : Int)) (b.val : Int)) (c.val : Int)) (d.val : Int)) (e.val : Int) = xorI (xorI (xorI (xorI (xorI 0 (a.val : Int)) (b.val : Int)) (c.val : Int)) (d.val : Int)) (e.val : Int) ∧
    xorI (xorI (xorI (xorI (xorI (xorI 0 (a.val : Int)) (b.val : Int)) (c.val : Int)) (d.val : Int)) (e.val : Int)) (p.val : Int) = if xorI (xorI (xorI (xorI (xorI 0 (a.val : Int)) (b.val : Int)) (c.val : Int)) (d.val : Int)) (e.val : Int) = (p.val : Int) then 0 else 1 := by decide +kernel
theorem wordM_code (m : Int) (h0 : 0 ≤ m) (h1 : m ≤ 4095) : wordM m = codeOf m := by
  have hrow : rowM m = [m % 4, m / 4 % 4, m / 16 % 4, (rowM m).getD 3 0, (rowM m).getD 4 0, (rowM m).getD 5 0] := rfl
  have b : ∀ c : Nat, (if topB m (c + 1) then (1 : Int) else 0) = bitI m (6 + ((c : Int) + 1)) := by
    intro c
    have := bitI_01 m (6 + ((c : Int) + 1))
    have e : bitI m (6 + ((c : Int) + 1)) = m / 2 ^ (6 + (c + 1)) % 2 := by unfold bitI; rw [show (6 + ((c : Int) + 1)).toNat = 6 + (c + 1) by omega]
    unfold topB
    by_cases h : m / 2 ^ (6 + (c + 1)) % 2 = 1
    · simp [h, e]
    · rw [e]; simp [h]; omega
  have r := partM_rng m
  have r0 := r 0
  have r1 := r 1
  have r2 := r 2
  have r3 := r 3
  have r4 := r 4
  have r5 := r 5
  have hsum := wordTo_sum m
  have hw0 : 0 ≤ wordTo m 6 := by omega
  have htop := wt_top _ hw0
  obtain ⟨c0, c1, c2, c3, c4, c5⟩ := col_sum _ _ _ _ _ _ r0 r1 r2 r3 r4 r5
  rw [← hsum] at c0 c1 c2 c3 c4 c5
  have pf := partM_fill m
  have q : ∀ c : Nat, partM m c % 2 = if topB m c then 1 else 0 := by
    intro c
    rw [pf c]
    exact (fill_is (rowM_d m c) (by omega) (by cases topB m c <;> simp)).2.2
  have t0 : topB m 0 = false := rfl
  have htop2 : topI (wordTo m 6) = xorI (xorI (xorI (xorI (xorI (xorI 0 0) (bitI m (6 + (((0 : Nat) : Int) + 1)))) (bitI m (6 + (((1 : Nat) : Int) + 1)))) (bitI m (6 + (((2 : Nat) : Int) + 1)))) (bitI m (6 + (((3 : Nat) : Int) + 1)))) (bitI m (6 + (((4 : Nat) : Int) + 1))) := by
    have e0 := bit_top (wordTo m 6) 0
    have e1 := bit_top (wordTo m 6) 1
    have e2 := bit_top (wordTo m 6) 2
    have e3 := bit_top (wordTo m 6) 3
    have e4 := bit_top (wordTo m 6) 4
    have e5 := bit_top (wordTo m 6) 5
    simp only [topI, topTo]
    rw [e0, e1, e2, e3, e4, e5, c0, c1, c2, c3, c4, c5, q 0, q 1, q 2, q 3, q 4, q 5, ← b 0, ← b 1, ← b 2, ← b 3, ← b 4, t0]
    rfl
  have f0 := pf 0
  have f1 := pf 1
  have f2 := pf 2
  have f3 := pf 3
  have f4 := pf 4
  have f5 := pf 5
  rw [t0] at f0
  rw [b 0] at f1
  rw [b 1] at f2
  rw [b 2] at f3
  rw [b 3] at f4
  rw [b 4] at f5
  have hcode : codeOf m = (ofTo (rowM m) m 5).1 + fillC (m % 4) (m / 64 % 2) (xorI (ofTo (rowM m) m 5).2 (m / 64 % 2)) := rfl
  simp only [ofTo] at hcode
  have p1 : (2 : Int) ^ (4 * (0 + 1)) = 16 := by decide
  have p2 : (2 : Int) ^ (4 * (1 + 1)) = 256 := by decide
  have p3 : (2 : Int) ^ (4 * (2 + 1)) = 4096 := by decide
  have p4 : (2 : Int) ^ (4 * (3 + 1)) = 65536 := by decide
  have p5 : (2 : Int) ^ (4 * (4 + 1)) = 1048576 := by decide
  rw [p1, p2, p3, p4, p5, ← f1, ← f2, ← f3, ← f4, ← f5] at hcode
  have s0 : (rowM m).getD 0 0 = m % 4 := rfl
  rw [s0] at f0
  have hf1 : fillC (m % 4) (m / 64 % 2) 1 = xorI (partM m 0) 15 := by
    obtain ⟨s, hs⟩ := (show IsD (m % 4) from ⟨by omega, by omega⟩).fin
    obtain ⟨p, hp⟩ := fin2 (n := m / 64 % 2) (by omega)
    rw [f0, hs, hp]
    have := fill_bare s p
    simp only [Bool.false_eq_true, if_false]
    rw [this.1, this.2]
  simp only [Bool.false_eq_true, if_false] at f0
  unfold wordM
  rw [htop, htop2]
  obtain ⟨x1, hx1⟩ := fin2 (bitI_01 m (6 + (((0 : Nat) : Int) + 1)))
  obtain ⟨x2, hx2⟩ := fin2 (bitI_01 m (6 + (((1 : Nat) : Int) + 1)))
  obtain ⟨x3, hx3⟩ := fin2 (bitI_01 m (6 + (((2 : Nat) : Int) + 1)))
  obtain ⟨x4, hx4⟩ := fin2 (bitI_01 m (6 + (((3 : Nat) : Int) + 1)))
  obtain ⟨x5, hx5⟩ := fin2 (bitI_01 m (6 + (((4 : Nat) : Int) + 1)))
  obtain ⟨xp, hxp⟩ := fin2 (n := m / 64 % 2) (by omega)
  obtain ⟨L1, L2⟩ := last_f x1 x2 x3 x4 x5 xp
  rw [← hx1, ← hx2, ← hx3, ← hx4, ← hx5] at L1
  rw [← hx1, ← hx2, ← hx3, ← hx4, ← hx5, ← hxp] at L2
  rw [L1]
  rw [L2] at hcode
  generalize xorI (xorI (xorI (xorI (xorI 0 (bitI m (6 + (((0 : Nat) : Int) + 1)))) (bitI m (6 + (((1 : Nat) : Int) + 1)))) (bitI m (6 + (((2 : Nat) : Int) + 1)))) (bitI m (6 + (((3 : Nat) : Int) + 1)))) (bitI m (6 + (((4 : Nat) : Int) + 1))) = T at *
  by_cases hT : T = m / 64 % 2
  · rw [if_pos hT] at hcode ⊢
    rw [hcode, hsum, ← f0]; omega
  · rw [if_neg hT] at hcode ⊢
    have hl := xor15_low (partM m 0) (partM m 1 + 16 * partM m 2 + 256 * partM m 3 + 4096 * partM m 4 + 65536 * partM m 5) r0.1 r0.2 (by omega)
    rw [hcode, hf1, hsum, show partM m 0 + 16 * partM m 1 + 256 * partM m 2 + 4096 * partM m 3 + 65536 * partM m 4 + 1048576 * partM m 5 = partM m 0 + 16 * (partM m 1 + 16 * partM m 2 + 256 * partM m 3 + 4096 * partM m 4 + 65536 * partM m 5) by omega, hl]
    omega

/-! ### The message of a word -/
def msgHead (w : Int) : Nat → Int
  | 0 => wt (colI w 0) % 2 * 64
  | i + 1 => orI (msgHead w i) (scoreI w i * 2 ^ (2 * i))
def msgTail (w : Int) : Nat → Int
  | 0 => msgHead w 3
  | j + 1 => if bitI w (4 * ((j : Int) + 1)) = 1 then orI (msgTail w j) (2 ^ (7 + j)) else msgTail w j
def messageM (w : Int) : Int := msgTail w 5
theorem orI_disjoint (a b : Int) (k : Nat) (ha0 : 0 ≤ a) (ha : a < 2 ^ k) (hb : 0 ≤ b) : orI a (b * 2 ^ k) = a + b * 2 ^ k := by
  obtain ⟨A, rfl⟩ := Int.eq_ofNat_of_zero_le ha0
  obtain ⟨B, rfl⟩ := Int.eq_ofNat_of_zero_le hb
  have hA : A < 2 ^ k := by exact_mod_cast ha
  unfold orI
  have e : ((B : Int) * 2 ^ k).toNat = 2 ^ k * B := by
    rw [show ((B : Int) * 2 ^ k) = ((B * 2 ^ k : Nat) : Int) by simp, Int.toNat_natCast, Nat.mul_comm]
  rw [e, Int.toNat_natCast, Nat.or_comm, ← Nat.two_pow_add_eq_or_of_lt hA]
  rw [Nat.mul_comm]
  push_cast
  omega
def headAll (s0 s1 s2 p : Int) : Int := orI (orI (orI (p * 64) (s0 * 1)) (s1 * 4)) (s2 * 16)
theorem headAll_is : ∀ s0 s1 s2 : Fin 4, ∀ p : Fin 2, headAll (s0.val : Int) (s1.val : Int) (s2.val : Int) (p.val : Int) = (s0.val : Int) + 4 * (s1.val : Int) + 16 * (s2.val : Int) + 64 * (p.val : Int) := by decide +kernel
theorem msgHead_is (w : Int) : msgHead w 3 = scoreI w 0 + 4 * scoreI w 1 + 16 * scoreI w 2 + 64 * (wt (colI w 0) % 2) := by
  have e : msgHead w 3 = headAll (scoreI w 0) (scoreI w 1) (scoreI w 2) (wt (colI w 0) % 2) := rfl
  rw [e]
  obtain ⟨a, ha⟩ := (scoreI_d w 0).fin
  obtain ⟨b, hb⟩ := (scoreI_d w 1).fin
  obtain ⟨c, hc⟩ := (scoreI_d w 2).fin
  obtain ⟨p, hp⟩ := fin2 (n := wt (colI w 0) % 2) (by omega)
  rw [ha, hb, hc, hp]
  exact headAll_is a b c p
theorem msgHead_rng (w : Int) : 0 ≤ msgHead w 3 ∧ msgHead w 3 ≤ 127 := by
  have h0 := scoreI_d w 0
  have h1 := scoreI_d w 1
  have h2 := scoreI_d w 2
  unfold IsD at h0 h1 h2
  rw [msgHead_is]
  omega
theorem msgTail_rng (w : Int) (j : Nat) : 0 ≤ msgTail w j ∧ msgTail w j < 2 ^ (7 + j) := by
  induction j with
  | zero => have := msgHead_rng w; simp only [msgTail]; omega
  | succ j ih =>
    have hp : (2 : Int) ^ (7 + (j + 1)) = 2 * 2 ^ (7 + j) := by rw [← Nat.add_assoc, Int.pow_succ, Int.mul_comm]
    have h2 : (0 : Int) < 2 ^ (7 + j) := Int.pow_pos (by decide)
    simp only [msgTail]
    split
    · have := orI_disjoint (msgTail w j) 1 (7 + j) ih.1 ih.2 (by omega)
      rw [Int.one_mul] at this
      rw [this]; omega
    · omega
theorem msgTail_step (w : Int) (j : Nat) : msgTail w (j + 1) = msgTail w j + bitI w (4 * ((j : Int) + 1)) * 2 ^ (7 + j) := by
  have ih := msgTail_rng w j
  simp only [msgTail]
  split
  · rename_i h
    have := orI_disjoint (msgTail w j) 1 (7 + j) ih.1 ih.2 (by omega)
    rw [Int.one_mul] at this
    rw [this, h, Int.one_mul]
  · rename_i h
    have := bitI_01 w (4 * ((j : Int) + 1))
    rw [show bitI w (4 * ((j : Int) + 1)) = 0 by omega]; simp
theorem messageM_is (w : Int) (h : wt (colI w 0) % 2 = topI w) : messageM w = messageOf w := by
  have : ∀ j : Nat, msgTail w j = msgTo w j := by
    intro j
    induction j with
    | zero => simp only [msgTail, msgTo]; rw [msgHead_is, h]
    | succ j ih =>
      rw [msgTail_step, ih]
      simp only [msgTo]
      rw [show 7 + j = 6 + (j + 1) by omega]
  exact this 5
theorem messageM_rng (w : Int) : 0 ≤ messageM w ∧ messageM w ≤ 4095 := by
  have := msgTail_rng w 5
  unfold messageM
  omega
/-- A word is of the code just if its message leads back to it. -/
theorem codeIn_back (w : Int) (h0 : 0 ≤ w) (h1 : w ≤ 16777215) : codeInB w = decide (codeOf (messageM w) = w) := by
  have hr := messageM_rng w
  by_cases h : codeOf (messageM w) = w
  · rw [decide_eq_true h, ← h]
    exact (code_in _).1
  · rw [decide_eq_false h]
    cases hc : codeInB w with
    | false => rfl
    | true =>
      exfalso
      have hp : parI w 0 = topI w := by
        unfold codeInB at hc
        rw [Bool.and_eq_true] at hc
        simpa using (List.all_eq_true.1 hc.1) 0 (List.mem_range.2 (by omega))
      exact h (by rw [messageM_is w hp]; exact (message_ok w h0 h1 hc).2.2)
theorem messageM_code (w : Int) (hc : codeInB w = true) : messageM w = messageOf w := by
  refine messageM_is w ?_
  unfold codeInB at hc
  rw [Bool.and_eq_true] at hc
  have : parI w 0 = topI w := by simpa using (List.all_eq_true.1 hc.1) 0 (List.mem_range.2 (by omega))
  exact this
end Go.Proofs.Ytiodikflmijhkaa