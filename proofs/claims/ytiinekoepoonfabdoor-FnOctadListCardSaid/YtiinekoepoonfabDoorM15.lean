/- Columns, scores and messages of words; which words are of the code. No program is named here. -/
import Derived.Test.YtiinekoepoonfabDoorM14
namespace Go.Proofs.YtiinekoepoonfabDoor
set_option linter.unusedVariables false

def colI (w : Int) (c : Nat) : Int := w / 2 ^ (4 * c) % 16
def scT : List Int := [0, 0, 1, 1, 2, 2, 3, 3, 3, 3, 2, 2, 1, 1, 0, 0]
def scN (n : Int) : Int := scT.getD n.toNat 0
def scoreI (w : Int) (c : Nat) : Int := scN (colI w c)
def scoresI (w : Int) : List Int := [scoreI w 0, scoreI w 1, scoreI w 2, scoreI w 3, scoreI w 4, scoreI w 5]
def topTo (w : Int) : Nat → Int
  | 0 => 0
  | c + 1 => xorI (topTo w c) (bitI w (4 * (c : Int)))
def topI (w : Int) : Int := topTo w 6
def parI (w : Int) (c : Nat) : Int := wt (colI w c) % 2
def codeInB (w : Int) : Bool := (List.range 6).all (fun c => parI w c == topI w) && hexB (scoresI w)
def msgTo (w : Int) : Nat → Int
  | 0 => scoreI w 0 + 4 * scoreI w 1 + 16 * scoreI w 2 + 64 * topI w
  | c + 1 => msgTo w c + bitI w (4 * ((c : Int) + 1)) * 2 ^ (6 + (c + 1))
def messageOf (w : Int) : Int := msgTo w 5

theorem colI_range (w : Int) (c : Nat) : 0 ≤ colI w c ∧ colI w c ≤ 15 := by unfold colI; omega
theorem nib_fin {n : Int} (h0 : 0 ≤ n) (h1 : n ≤ 15) : ∃ x : Fin 16, n = (x.val : Int) := by
  obtain ⟨N, rfl⟩ := Int.eq_ofNat_of_zero_le h0
  exact ⟨⟨N, by omega⟩, rfl⟩
theorem scN_d16 : ∀ n : Fin 16, 0 ≤ scN (n.val : Int) ∧ scN (n.val : Int) ≤ 3 := by decide
theorem scoreI_d (w : Int) (c : Nat) : IsD (scoreI w c) := by
  obtain ⟨h0, h1⟩ := colI_range w c
  obtain ⟨x, hx⟩ := nib_fin h0 h1
  unfold scoreI; rw [hx]; exact scN_d16 x
theorem scoresI_row (w : Int) : IsRow6 (scoresI w) := isRow6_mk (scoreI_d w 0) (scoreI_d w 1) (scoreI_d w 2) (scoreI_d w 3) (scoreI_d w 4) (scoreI_d w 5)
theorem fin2 {n : Int} (h : n = 0 ∨ n = 1) : ∃ x : Fin 2, n = (x.val : Int) := by
  rcases h with rfl | rfl
  · exact ⟨0, rfl⟩
  · exact ⟨1, rfl⟩
theorem bit_col (w : Int) (c r : Nat) (hr : r < 4) : bitI w (4 * (c : Int) + r) = bitI (colI w c) r := by
  unfold bitI colI
  have e : (4 * (c : Int) + r).toNat = 4 * c + r := by omega
  rw [e, Int.toNat_natCast, Int.pow_add]
  have h2 : (0 : Int) < 2 ^ (4 * c) := Int.pow_pos (by decide)
  rw [← Int.ediv_ediv_of_nonneg (by omega)]
  generalize w / 2 ^ (4 * c) = v
  have : r = 0 ∨ r = 1 ∨ r = 2 ∨ r = 3 := by omega
  rcases this with rfl | rfl | rfl | rfl <;> simp <;> omega
theorem fill_sc : ∀ s : Fin 4, ∀ p f : Fin 2, scN (fillC (s.val : Int) (p.val : Int) (f.val : Int)) = (s.val : Int) ∧ wt (fillC (s.val : Int) (p.val : Int) (f.val : Int)) % 2 = (p.val : Int) ∧ fillC (s.val : Int) (p.val : Int) (f.val : Int) % 2 = (f.val : Int) := by decide +kernel
theorem fill_back : ∀ n : Fin 16, fillC (scN (n.val : Int)) (wt (n.val : Int) % 2) ((n.val : Int) % 2) = (n.val : Int) := by decide +kernel
theorem fill_is {s p f : Int} (hs : IsD s) (hp : p = 0 ∨ p = 1) (hf : f = 0 ∨ f = 1) : scN (fillC s p f) = s ∧ wt (fillC s p f) % 2 = p ∧ fillC s p f % 2 = f := by
  obtain ⟨s, rfl⟩ := hs.fin; obtain ⟨p, rfl⟩ := fin2 hp; obtain ⟨f, rfl⟩ := fin2 hf
  exact fill_sc s p f
theorem xor01 {a b : Int} (ha : a = 0 ∨ a = 1) (hb : b = 0 ∨ b = 1) : xorI a b = 0 ∨ xorI a b = 1 := by
  rcases ha with rfl | rfl <;> rcases hb with rfl | rfl <;> decide
theorem bit_top (w : Int) (c : Nat) : bitI w (4 * (c : Int)) = colI w c % 2 := by
  have := bit_col w c 0 (by omega)
  simp only [Int.natCast_zero, Int.add_zero] at this
  rw [this]
  simp [bitI]
theorem top_f2 : ∀ a b c d e p : Fin 2, xorI (xorI (xorI (xorI (xorI (xorI 0 (xorI (xorI (xorI (xorI (xorI (xorI 0 (a.val : Int)) (b.val : Int)) (c.val : Int)) (d.val : Int)) (e.val : Int)) (p.val : Int))) (a.val : Int)) (b.val : Int)) (c.val : Int)) (d.val : Int)) (e.val : Int) = (p.val : Int) := by decide +kernel

/-- The six columns of the word of a message. -/
theorem code_cols (m : Int) : ∃ f0 f1 f2 f3 f4 f5 p : Int, (f0 = 0 ∨ f0 = 1) ∧ (f1 = 0 ∨ f1 = 1) ∧ (f2 = 0 ∨ f2 = 1) ∧ (f3 = 0 ∨ f3 = 1) ∧ (f4 = 0 ∨ f4 = 1) ∧ (f5 = 0 ∨ f5 = 1) ∧ (p = 0 ∨ p = 1) ∧
    xorI (xorI (xorI (xorI (xorI (xorI 0 f0) f1) f2) f3) f4) f5 = p ∧
    ∃ r0 r1 r2 r3 r4 r5 : Int, hexRow (m % 4) (m / 4 % 4) (m / 16 % 4) = [r0, r1, r2, r3, r4, r5] ∧ IsD r0 ∧ IsD r1 ∧ IsD r2 ∧ IsD r3 ∧ IsD r4 ∧ IsD r5 ∧
      codeOf m = fillC r0 p f0 + 16 * fillC r1 p f1 + 256 * fillC r2 p f2 + 4096 * fillC r3 p f3 + 65536 * fillC r4 p f4 + 1048576 * fillC r5 p f5 := by
  have hrow := hexRow_row (a := m % 4) (b := m / 4 % 4) (c := m / 16 % 4) ⟨by omega, by omega⟩ ⟨by omega, by omega⟩ ⟨by omega, by omega⟩
  have hp : m / 64 % 2 = 0 ∨ m / 64 % 2 = 1 := by omega
  have b1 := bitI_01 m (6 + ((0 : Nat) : Int) + 1)
  have b2 := bitI_01 m (6 + ((1 : Nat) : Int) + 1)
  have b3 := bitI_01 m (6 + ((2 : Nat) : Int) + 1)
  have b4 := bitI_01 m (6 + ((3 : Nat) : Int) + 1)
  have b5 := bitI_01 m (6 + ((4 : Nat) : Int) + 1)
  obtain ⟨r0, r1, r2, r3, r4, r5, hr, h0, h1, h2, h3, h4, h5⟩ := hrow.six
  have e0 : m % 4 = r0 := by simp only [hexRow, List.cons.injEq] at hr; exact hr.1
  have hc : codeOf m = (ofTo [r0, r1, r2, r3, r4, r5] m 5).1 + fillC r0 (m / 64 % 2) (xorI (ofTo [r0, r1, r2, r3, r4, r5] m 5).2 (m / 64 % 2)) := by
    unfold codeOf; rw [hr, e0]
  simp only [ofTo, Int.add_assoc] at hc b1 b2 b3 b4 b5
  generalize m / 64 % 2 = p at *
  generalize bitI m (6 + (((0 : Nat) : Int) + 1)) = g1 at *
  generalize bitI m (6 + (((1 : Nat) : Int) + 1)) = g2 at *
  generalize bitI m (6 + (((2 : Nat) : Int) + 1)) = g3 at *
  generalize bitI m (6 + (((3 : Nat) : Int) + 1)) = g4 at *
  generalize bitI m (6 + (((4 : Nat) : Int) + 1)) = g5 at *
  refine ⟨xorI (xorI (xorI (xorI (xorI (xorI 0 g1) g2) g3) g4) g5) p, g1, g2, g3, g4, g5, p, ?_, b1, b2, b3, b4, b5, hp, ?_, r0, r1, r2, r3, r4, r5, hr, h0, h1, h2, h3, h4, h5, ?_⟩
  · exact xor01 (xor01 (xor01 (xor01 (xor01 (xor01 (.inl rfl) b1) b2) b3) b4) b5) hp
  · obtain ⟨g1, rfl⟩ := fin2 b1; obtain ⟨g2, rfl⟩ := fin2 b2; obtain ⟨g3, rfl⟩ := fin2 b3; obtain ⟨g4, rfl⟩ := fin2 b4; obtain ⟨g5, rfl⟩ := fin2 b5; obtain ⟨p, rfl⟩ := fin2 hp
    exact top_f2 g1 g2 g3 g4 g5 p
  · rw [hc]
    simp only [List.getD_cons_succ, List.getD_cons_zero]
    have q1 : (2 : Int) ^ (4 * (0 + 1)) = 16 := by decide
    have q2 : (2 : Int) ^ (4 * (1 + 1)) = 256 := by decide
    have q3 : (2 : Int) ^ (4 * (2 + 1)) = 4096 := by decide
    have q4 : (2 : Int) ^ (4 * (3 + 1)) = 65536 := by decide
    have q5 : (2 : Int) ^ (4 * (4 + 1)) = 1048576 := by decide
    rw [q1, q2, q3, q4, q5]
    omega
theorem col_sum (n0 n1 n2 n3 n4 n5 : Int) (h0 : 0 ≤ n0 ∧ n0 ≤ 15) (h1 : 0 ≤ n1 ∧ n1 ≤ 15) (h2 : 0 ≤ n2 ∧ n2 ≤ 15) (h3 : 0 ≤ n3 ∧ n3 ≤ 15) (h4 : 0 ≤ n4 ∧ n4 ≤ 15) (h5 : 0 ≤ n5 ∧ n5 ≤ 15) :
    colI (n0 + 16 * n1 + 256 * n2 + 4096 * n3 + 65536 * n4 + 1048576 * n5) 0 = n0 ∧ colI (n0 + 16 * n1 + 256 * n2 + 4096 * n3 + 65536 * n4 + 1048576 * n5) 1 = n1 ∧ colI (n0 + 16 * n1 + 256 * n2 + 4096 * n3 + 65536 * n4 + 1048576 * n5) 2 = n2 ∧
    colI (n0 + 16 * n1 + 256 * n2 + 4096 * n3 + 65536 * n4 + 1048576 * n5) 3 = n3 ∧ colI (n0 + 16 * n1 + 256 * n2 + 4096 * n3 + 65536 * n4 + 1048576 * n5) 4 = n4 ∧ colI (n0 + 16 * n1 + 256 * n2 + 4096 * n3 + 65536 * n4 + 1048576 * n5) 5 = n5 := by
  unfold colI
  have q0 : (2 : Int) ^ (4 * 0) = 1 := by decide
  have q1 : (2 : Int) ^ (4 * 1) = 16 := by decide
  have q2 : (2 : Int) ^ (4 * 2) = 256 := by decide
  have q3 : (2 : Int) ^ (4 * 3) = 4096 := by decide
  have q4 : (2 : Int) ^ (4 * 4) = 65536 := by decide
  have q5 : (2 : Int) ^ (4 * 5) = 1048576 := by decide
  rw [q0, q1, q2, q3, q4, q5]
  omega
theorem sum_cols (w : Int) (h0 : 0 ≤ w) (h1 : w ≤ 16777215) : w = colI w 0 + 16 * colI w 1 + 256 * colI w 2 + 4096 * colI w 3 + 65536 * colI w 4 + 1048576 * colI w 5 := by
  unfold colI
  have q0 : (2 : Int) ^ (4 * 0) = 1 := by decide
  have q1 : (2 : Int) ^ (4 * 1) = 16 := by decide
  have q2 : (2 : Int) ^ (4 * 2) = 256 := by decide
  have q3 : (2 : Int) ^ (4 * 3) = 4096 := by decide
  have q4 : (2 : Int) ^ (4 * 4) = 65536 := by decide
  have q5 : (2 : Int) ^ (4 * 5) = 1048576 := by decide
  rw [q0, q1, q2, q3, q4, q5]
  omega
theorem fillC_d {s p f : Int} (hs : IsD s) (hp : p = 0 ∨ p = 1) (hf : f = 0 ∨ f = 1) : 0 ≤ fillC s p f ∧ fillC s p f ≤ 15 := fillC_range s p f hs.1 hs.2 (by omega) (by omega) (by omega) (by omega)
theorem code_in (m : Int) : codeInB (codeOf m) = true ∧ scoresI (codeOf m) = hexRow (m % 4) (m / 4 % 4) (m / 16 % 4) := by
  obtain ⟨f0, f1, f2, f3, f4, f5, p, k0, k1, k2, k3, k4, k5, kp, htop, r0, r1, r2, r3, r4, r5, hr, h0, h1, h2, h3, h4, h5, hc⟩ := code_cols m
  obtain ⟨c0, c1, c2, c3, c4, c5⟩ := col_sum _ _ _ _ _ _ (fillC_d h0 kp k0) (fillC_d h1 kp k1) (fillC_d h2 kp k2) (fillC_d h3 kp k3) (fillC_d h4 kp k4) (fillC_d h5 kp k5)
  rw [← hc] at c0 c1 c2 c3 c4 c5
  obtain ⟨s0, p0, t0⟩ := fill_is h0 kp k0
  obtain ⟨s1, p1, t1⟩ := fill_is h1 kp k1
  obtain ⟨s2, p2, t2⟩ := fill_is h2 kp k2
  obtain ⟨s3, p3, t3⟩ := fill_is h3 kp k3
  obtain ⟨s4, p4, t4⟩ := fill_is h4 kp k4
  obtain ⟨s5, p5, t5⟩ := fill_is h5 kp k5
  have hs : scoresI (codeOf m) = [r0, r1, r2, r3, r4, r5] := by
    simp only [scoresI, scoreI, c0, c1, c2, c3, c4, c5, s0, s1, s2, s3, s4, s5]
  have ht : topI (codeOf m) = p := by
    have b0 := bit_top (codeOf m) 0
    have b1 := bit_top (codeOf m) 1
    have b2 := bit_top (codeOf m) 2
    have b3 := bit_top (codeOf m) 3
    have b4 := bit_top (codeOf m) 4
    have b5 := bit_top (codeOf m) 5
    simp only [topI, topTo]
    rw [b0, b1, b2, b3, b4, b5, c0, c1, c2, c3, c4, c5, t0, t1, t2, t3, t4, t5]
    exact htop
  refine ⟨?_, hs.trans hr.symm⟩
  unfold codeInB
  rw [hs, ht, ← hr, Bool.and_eq_true]
  refine ⟨?_, ?_⟩
  · simp only [parI, List.all_eq_true, List.mem_range, beq_iff_eq]
    intro c hc
    match c, hc with
    | 0, _ => rw [c0, p0]
    | 1, _ => rw [c1, p1]
    | 2, _ => rw [c2, p2]
    | 3, _ => rw [c3, p3]
    | 4, _ => rw [c4, p4]
    | 5, _ => rw [c5, p5]
  · exact InHex.b ⟨_, _, _, ⟨by omega, by omega⟩, ⟨by omega, by omega⟩, ⟨by omega, by omega⟩, rfl⟩
theorem topTo_01 (w : Int) (c : Nat) : topTo w c = 0 ∨ topTo w c = 1 := by
  induction c with
  | zero => exact .inl rfl
  | succ c ih => exact xor01 ih (bitI_01 _ _)
theorem msg_f2 : ∀ a b c d e f : Fin 2, xorI (xorI (xorI (xorI (xorI (xorI 0 (b.val : Int)) (c.val : Int)) (d.val : Int)) (e.val : Int)) (f.val : Int)) (xorI (xorI (xorI (xorI (xorI (xorI 0 (a.val : Int)) (b.val : Int)) (c.val : Int)) (d.val : Int)) (e.val : Int)) (f.val : Int)) = (a.val : Int) := by decide +kernel
theorem top01 (w : Int) : xorI (xorI (xorI (xorI (xorI (xorI 0 (colI w 1 % 2)) (colI w 2 % 2)) (colI w 3 % 2)) (colI w 4 % 2)) (colI w 5 % 2)) (topI w) = colI w 0 % 2 := by
  have b0 := bit_top w 0
  have b1 := bit_top w 1
  have b2 := bit_top w 2
  have b3 := bit_top w 3
  have b4 := bit_top w 4
  have b5 := bit_top w 5
  simp only [topI, topTo]
  rw [b0, b1, b2, b3, b4, b5]
  have k : ∀ c : Nat, colI w c % 2 = 0 ∨ colI w c % 2 = 1 := fun c => by omega
  obtain ⟨x0, e0⟩ := fin2 (k 0)
  obtain ⟨x1, e1⟩ := fin2 (k 1)
  obtain ⟨x2, e2⟩ := fin2 (k 2)
  obtain ⟨x3, e3⟩ := fin2 (k 3)
  obtain ⟨x4, e4⟩ := fin2 (k 4)
  obtain ⟨x5, e5⟩ := fin2 (k 5)
  rw [e0, e1, e2, e3, e4, e5]
  exact msg_f2 x0 x1 x2 x3 x4 x5
theorem message_ok (w : Int) (h0 : 0 ≤ w) (h1 : w ≤ 16777215) (h : codeInB w = true) : 0 ≤ messageOf w ∧ messageOf w ≤ 4095 ∧ codeOf (messageOf w) = w := by
  unfold codeInB at h
  rw [Bool.and_eq_true] at h
  obtain ⟨hp, hh⟩ := h
  have hpar : ∀ c : Nat, c < 6 → parI w c = topI w := fun c hc => by simpa using (List.all_eq_true.1 hp) c (List.mem_range.2 hc)
  have d0 := scoreI_d w 0
  have d1 := scoreI_d w 1
  have d2 := scoreI_d w 2
  have ht : topI w = 0 ∨ topI w = 1 := topTo_01 w 6
  have b0 := bit_top w 0
  have b1 := bit_top w 1
  have b2 := bit_top w 2
  have b3 := bit_top w 3
  have b4 := bit_top w 4
  have b5 := bit_top w 5
  simp only [Int.natCast_zero, Int.natCast_one, Int.mul_zero] at b0 b1
  have m5 : messageOf w = scoreI w 0 + 4 * scoreI w 1 + 16 * scoreI w 2 + 64 * topI w + 128 * (colI w 1 % 2) + 256 * (colI w 2 % 2) + 512 * (colI w 3 % 2) + 1024 * (colI w 4 % 2) + 2048 * (colI w 5 % 2) := by
    simp only [messageOf, msgTo]
    have q1 : (4 * (((0 : Nat) : Int) + 1)) = 4 * ((1 : Nat) : Int) := by omega
    have q2 : (4 * (((1 : Nat) : Int) + 1)) = 4 * ((2 : Nat) : Int) := by omega
    have q3 : (4 * (((2 : Nat) : Int) + 1)) = 4 * ((3 : Nat) : Int) := by omega
    have q4 : (4 * (((3 : Nat) : Int) + 1)) = 4 * ((4 : Nat) : Int) := by omega
    have q5 : (4 * (((4 : Nat) : Int) + 1)) = 4 * ((5 : Nat) : Int) := by omega
    rw [q1, q2, q3, q4, q5, bit_top, bit_top, bit_top, bit_top, bit_top]
    have r1 : (2 : Int) ^ (6 + (0 + 1)) = 128 := by decide
    have r2 : (2 : Int) ^ (6 + (1 + 1)) = 256 := by decide
    have r3 : (2 : Int) ^ (6 + (2 + 1)) = 512 := by decide
    have r4 : (2 : Int) ^ (6 + (3 + 1)) = 1024 := by decide
    have r5 : (2 : Int) ^ (6 + (4 + 1)) = 2048 := by decide
    rw [r1, r2, r3, r4, r5]
    omega
  unfold IsD at d0 d1 d2
  have hrng : 0 ≤ messageOf w ∧ messageOf w ≤ 4095 := by omega
  refine ⟨hrng.1, hrng.2, ?_⟩
  have a0 : messageOf w % 4 = scoreI w 0 := by omega
  have a1 : messageOf w / 4 % 4 = scoreI w 1 := by omega
  have a2 : messageOf w / 16 % 4 = scoreI w 2 := by omega
  have a3 : messageOf w / 64 % 2 = topI w := by omega
  have g1 : bitI (messageOf w) (6 + (((0 : Nat) : Int) + 1)) = colI w 1 % 2 := by
    unfold bitI; rw [show (6 + (((0 : Nat) : Int) + 1)).toNat = 7 from rfl]; simp only [show (2 : Int) ^ 7 = 128 from rfl]; omega
  have g2 : bitI (messageOf w) (6 + (((1 : Nat) : Int) + 1)) = colI w 2 % 2 := by
    unfold bitI; rw [show (6 + (((1 : Nat) : Int) + 1)).toNat = 8 from rfl]; simp only [show (2 : Int) ^ 8 = 256 from rfl]; omega
  have g3 : bitI (messageOf w) (6 + (((2 : Nat) : Int) + 1)) = colI w 3 % 2 := by
    unfold bitI; rw [show (6 + (((2 : Nat) : Int) + 1)).toNat = 9 from rfl]; simp only [show (2 : Int) ^ 9 = 512 from rfl]; omega
  have g4 : bitI (messageOf w) (6 + (((3 : Nat) : Int) + 1)) = colI w 4 % 2 := by
    unfold bitI; rw [show (6 + (((3 : Nat) : Int) + 1)).toNat = 10 from rfl]; simp only [show (2 : Int) ^ 10 = 1024 from rfl]; omega
  have g5 : bitI (messageOf w) (6 + (((4 : Nat) : Int) + 1)) = colI w 5 % 2 := by
    unfold bitI; rw [show (6 + (((4 : Nat) : Int) + 1)).toNat = 11 from rfl]; simp only [show (2 : Int) ^ 11 = 2048 from rfl]; omega
  have hrow : hexRow (messageOf w % 4) (messageOf w / 4 % 4) (messageOf w / 16 % 4) = scoresI w := by
    rw [a0, a1, a2]
    unfold hexB eqR at hh
    exact (of_decide_eq_true hh).symm
  have hz := top01 w
  unfold codeOf
  rw [hrow, a0]
  simp only [ofTo, a3]
  rw [g1, g2, g3, g4, g5]
  have fb : ∀ c : Nat, c < 6 → fillC (scoreI w c) (topI w) (colI w c % 2) = colI w c := by
    intro c hc
    obtain ⟨x, hx⟩ := nib_fin (colI_range w c).1 (colI_range w c).2
    rw [← hpar c hc]
    unfold parI scoreI
    rw [hx]; exact fill_back x
  have f1 := fb 1 (by omega)
  have f2 := fb 2 (by omega)
  have f3 := fb 3 (by omega)
  have f4 := fb 4 (by omega)
  have f5 := fb 5 (by omega)
  have f0 := fb 0 (by omega)
  rw [hz]
  simp only [scoresI, List.getD_cons_succ, List.getD_cons_zero]
  rw [f0, f1, f2, f3, f4, f5]
  have q1 : (2 : Int) ^ (4 * (0 + 1)) = 16 := by decide
  have q2 : (2 : Int) ^ (4 * (1 + 1)) = 256 := by decide
  have q3 : (2 : Int) ^ (4 * (2 + 1)) = 4096 := by decide
  have q4 : (2 : Int) ^ (4 * (3 + 1)) = 65536 := by decide
  have q5 : (2 : Int) ^ (4 * (4 + 1)) = 1048576 := by decide
  rw [q1, q2, q3, q4, q5]
  have := sum_cols w h0 h1
  omega
theorem codeIn_iff (w : Int) (h0 : 0 ≤ w) (h1 : w ≤ 16777215) : codeInB w = true ↔ ∃ m : Nat, m < 4096 ∧ codeOf m = w := by
  constructor
  · intro h
    obtain ⟨a, b, c⟩ := message_ok w h0 h1 h
    exact ⟨(messageOf w).toNat, by omega, by rw [Int.toNat_of_nonneg a]; exact c⟩
  · rintro ⟨m, hm, rfl⟩
    exact (code_in m).1
theorem message_code (m : Nat) (h : m < 4096) : messageOf (codeOf m) = m := by
  have hr := codeOf_range (m : Int)
  obtain ⟨a, b, c⟩ := message_ok _ hr.1 hr.2 (code_in m).1
  have e : messageOf (codeOf m) = ((messageOf (codeOf m)).toNat : Nat) := (Int.toNat_of_nonneg a).symm
  rw [e] at c
  have := codeOf_inj _ m (by omega) h c
  omega
theorem far_code (w : Int) (h0 : 0 ≤ w) (h1 : w ≤ 16777215) : farI w = 0 ↔ codeInB w = true := (far_zero w h0 h1).trans (codeIn_iff w h0 h1).symm

/-! ### Sums -/
theorem colI_xor (a b : Int) (ha : 0 ≤ a) (hb : 0 ≤ b) (c : Nat) : colI (xorI a b) c = xorI (colI a c) (colI b c) := by
  obtain ⟨A, rfl⟩ := Int.eq_ofNat_of_zero_le ha
  obtain ⟨B, rfl⟩ := Int.eq_ofNat_of_zero_le hb
  unfold colI xorI
  have e : ∀ X : Nat, (X : Int) / 2 ^ (4 * c) % 16 = ((X / 2 ^ (4 * c) % 16 : Nat) : Int) := fun X => by simp
  simp only [e, Int.toNat_natCast]
  congr 1
  apply Nat.eq_of_testBit_eq
  intro i
  rw [show 16 = 2 ^ 4 from rfl]
  simp only [Nat.testBit_mod_two_pow, Nat.testBit_xor, Nat.testBit_div_two_pow]
  by_cases h : i < 4 <;> simp [h]
theorem scN_xor16 : ∀ a b : Fin 16, scN (xorI (a.val : Int) (b.val : Int)) = xorI (scN (a.val : Int)) (scN (b.val : Int)) := by decide +kernel
theorem scoreI_xor (a b : Int) (ha : 0 ≤ a) (hb : 0 ≤ b) (c : Nat) : scoreI (xorI a b) c = xorI (scoreI a c) (scoreI b c) := by
  unfold scoreI
  rw [colI_xor a b ha hb]
  obtain ⟨x, hx⟩ := nib_fin (colI_range a c).1 (colI_range a c).2
  obtain ⟨y, hy⟩ := nib_fin (colI_range b c).1 (colI_range b c).2
  rw [hx, hy]; exact scN_xor16 x y
theorem scoresI_xor (a b : Int) (ha : 0 ≤ a) (hb : 0 ≤ b) : scoresI (xorI a b) = addR (scoresI a) (scoresI b) := by
  simp only [scoresI, scoreI_xor a b ha hb]; rfl
theorem scores_all : scoresI 16777215 = [0, 0, 0, 0, 0, 0] := by
  have h : ∀ c : Nat, c < 6 → colI 16777215 c = 15 := by
    intro c hc
    match c, hc with
    | 0, _ => rfl
    | 1, _ => rfl
    | 2, _ => rfl
    | 3, _ => rfl
    | 4, _ => rfl
    | 5, _ => rfl
  simp only [scoresI, scoreI, h 0 (by omega), h 1 (by omega), h 2 (by omega), h 3 (by omega), h 4 (by omega), h 5 (by omega)]
  rfl
theorem scores_other (w : Int) (h : 0 ≤ w) : scoresI (xorI w 16777215) = scoresI w := by
  rw [scoresI_xor w _ h (by omega), scores_all]
  obtain ⟨a, b, c, d, e, f, hr, h0, h1, h2, h3, h4, h5⟩ := (scoresI_row w).six
  rw [hr]
  show [_, _, _, _, _, _] = _
  rw [xorI_zero _ h0.1, xorI_zero _ h1.1, xorI_zero _ h2.1, xorI_zero _ h3.1, xorI_zero _ h4.1, xorI_zero _ h5.1]
theorem codeOf_xor (m n : Nat) (hm : m < 4096) (hn : n < 4096) : codeOf ((m ^^^ n : Nat) : Int) = xorI (codeOf m) (codeOf n) := by
  rw [codeOf_cN _ (xor_lt12 m n hm hn), codeOf_cN m hm, codeOf_cN n hn, cN_xor]
  unfold xorI
  rw [Int.toNat_natCast, Int.toNat_natCast]
theorem code_sum (a b : Int) (ha0 : 0 ≤ a) (ha1 : a ≤ 16777215) (hb0 : 0 ≤ b) (hb1 : b ≤ 16777215) (ha : codeInB a = true) (hb : codeInB b = true) : codeInB (xorI a b) = true := by
  obtain ⟨m, hm, rfl⟩ := (codeIn_iff a ha0 ha1).1 ha
  obtain ⟨n, hn, rfl⟩ := (codeIn_iff b hb0 hb1).1 hb
  rw [← codeOf_xor m n hm hn]
  exact (code_in _).1
theorem code_all : codeInB 16777215 = true := (codeIn_iff 16777215 (by omega) (by omega)).2 ⟨3968, by omega, by rw [codeOf_cN 3968 (by omega)]; decide +kernel⟩
theorem code_wtI (w : Int) (h0 : 0 ≤ w) (h1 : w ≤ 16777215) (h : codeInB w = true) : wt w = 0 ∨ wt w = 8 ∨ wt w = 12 ∨ wt w = 16 ∨ wt w = 24 := by
  obtain ⟨m, hm, rfl⟩ := (codeIn_iff w h0 h1).1 h
  rw [codeOf_cN m hm, wt_pop]
  have := (code_wts m hm).1
  omega
end Go.Proofs.YtiinekoepoonfabDoor
