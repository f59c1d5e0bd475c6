/- Joined texts: P2. -/
import Derived.Test.YtiodikflmijhkaaGreatDoorJ03
namespace Go.Proofs.YtiodikflmijhkaaGreatDoor
set_option linter.unusedVariables false

def colI (w : Int) (c : Nat) : Int := w / 2 ^ (4 * c) % 16
def scT : List Int := [0, 0, 1, 1, 2, 2, 3, 3, 3, 3, 2, 2, 1, 1, 0, 0]
def scN (n : Int) : Int := scT.getD n.toNat 0
def scoreI (w : Int) (c : Nat) : Int := scN (colI w c)
def scoresI (w : Int) : List Int := [scoreI w 0, scoreI w 1, scoreI w 2, scoreI w 3, scoreI w 4, scoreI w 5]
def topTo (w : Int) : Nat → Int
  | 0 => 0
  | c + 1 => xorI (topTo w c) (bitI w (4 * (c : Int)))
def topI (w : Int) : Int := topTo w 6
def parI (w : Int) (c : Nat) : Int := wt (colI w c) % 2
def codeInB (w : Int) : Bool := (List.range 6).all (fun c => parI w c == topI w) && hexB (scoresI w)
def msgTo (w : Int) : Nat → Int
  | 0 => scoreI w 0 + 4 * scoreI w 1 + 16 * scoreI w 2 + 64 * topI w
  | c + 1 => msgTo w c + bitI w (4 * ((c : Int) + 1)) * 2 ^ (6 + (c + 1))
def messageOf (w : Int) : Int := msgTo w 5

theorem colI_range (w : Int) (c : Nat) : 0 ≤ colI w c ∧ colI w c ≤ 15 := by unfold colI; omega
theorem nib_fin {n : Int} (h0 : 0 ≤ n) (h1 : n ≤ 15) : ∃ x : Fin 16, n = (x.val : Int) := by
  obtain ⟨N, rfl⟩ := Int.eq_ofNat_of_zero_le h0
  exact ⟨⟨N, by omega⟩, rfl⟩
theorem scN_d16 : ∀ n : Fin 16, 0 ≤ scN (n.val : Int) ∧ scN (n.val : Int) ≤ 3 := by decide
theorem scoreI_d (w : Int) (c : Nat) : IsD (scoreI w c) := by
  obtain ⟨h0, h1⟩ := colI_range w c
  obtain ⟨x, hx⟩ := nib_fin h0 h1
  unfold scoreI; rw [hx]; exact scN_d16 x
theorem scoresI_row (w : Int) : IsRow6 (scoresI w) := isRow6_mk (scoreI_d w 0) (scoreI_d w 1) (scoreI_d w 2) (scoreI_d w 3) (scoreI_d w 4) (scoreI_d w 5)
theorem fin2 {n : Int} (h : n = 0 ∨ n = 1) : ∃ x : Fin 2, n = (x.val : Int) := by
  rcases h with rfl | rfl
  · exact ⟨0, rfl⟩
  · exact ⟨1, rfl⟩
theorem bit_col (w : Int) (c r : Nat) (hr : r < 4) : bitI w (4 * (c : Int) + r) = bitI (colI w c) r := by
  unfold bitI colI
  have e : (4 * (c : Int) + r).toNat = 4 * c + r := by omega
  rw [e, Int.toNat_natCast, Int.pow_add]
  have h2 : (0 : Int) < 2 ^ (4 * c) := Int.pow_pos (by decide)
  rw [← Int.ediv_ediv_of_nonneg (by omega)]
  generalize w / 2 ^ (4 * c) = v
  have : r = 0 ∨ r = 1 ∨ r = 2 ∨ r = 3 := by omega
  rcases this with rfl | rfl | rfl | rfl <;> simp <;> omega
theorem fill_sc : ∀ s : Fin 4, ∀ p f : Fin 2, scN (fillC (s.val : Int) (p.val : Int) (f.val : Int)) = (s.val : Int) ∧ wt (fillC (s.val : Int) (p.val : Int) (f.val : Int)) % 2 = (p.val : Int) ∧ fillC (s.val : Int) (p.val : Int) (f.val : Int) % 2 = (f.val : Int) := by decide +kernel
theorem fill_back : ∀ n : Fin 16, fillC (scN (n.val : Int)) (wt (n.val : Int) % 2) ((n.val : Int) % 2) = (n.val : Int) := by decide +kernel
theorem fill_is {s p f : Int} (hs : IsD s) (hp : p = 0 ∨ p = 1) (hf : f = 0 ∨ f = 1) : scN (fillC s p f) = s ∧ wt (fillC s p f) % 2 = p ∧ fillC s p f % 2 = f := by
  obtain ⟨s, rfl⟩ := hs.fin; obtain ⟨p, rfl⟩ := fin2 hp; obtain ⟨f, rfl⟩ := fin2 hf
  exact fill_sc s p f
theorem xor01 {a b : Int} (ha : a = 0 ∨ a = 1) (hb : b = 0 ∨ b = 1) : xorI a b = 0 ∨ xorI a b = 1 := by
  rcases ha with rfl | rfl <;> rcases hb with rfl | rfl <;> decide
theorem bit_top (w : Int) (c : Nat) : bitI w (4 * (c : Int)) = colI w c % 2 := by
  have := bit_col w c 0 (by omega)
  simp only [Int.natCast_zero, Int.add_zero] at this
  rw [this]
  simp [bitI]
theorem top_f2 : ∀ a b c d e p : Fin 2, xorI (xorI (xorI (xorI (xorI (xorI 0 (xorI (xorI (xorI (xorI (xorI (xorI 0 (a.val : Int)) (b.val : Int)) (c.val : Int)) (d.val : Int)) (e.val : Int)) (p.val : Int))) (a.val : Int)) (b.val : Int)) (c.val : Int)) (d.val : Int)) (e.val : Int) = (p.val : Int) := by decide +kernel

/-- The six columns of the word of a message. -/
theorem code_cols (m : Int) : ∃ f0 f1 f2 f3 f4 f5 p : Int, (f0 = 0 ∨ f0 = 1) ∧ (f1 = 0 ∨ f1 = 1) ∧ (f2 = 0 ∨ f2 = 1) ∧ (f3 = 0 ∨ f3 = 1) ∧ (f4 = 0 ∨ f4 = 1) ∧ (f5 = 0 ∨ f5 = 1) ∧ (p = 0 ∨ p = 1) ∧
    xorI (xorI (xorI (xorI (xorI (xorI 0 f0) f1) f2) f3) f4) f5 = p ∧
    ∃ r0 r1 r2 r3 r4 r5 : Int, hexRow (m % 4) (m / 4 % 4) (m / 16 % 4) = [r0, r1, r2, r3, r4, r5] ∧ IsD r0 ∧ IsD r1 ∧ IsD r2 ∧ IsD r3 ∧ IsD r4 ∧ IsD r5 ∧
      codeOf m = fillC r0 p f0 + 16 * fillC r1 p f1 + 256 * fillC r2 p f2 + 4096 * fillC r3 p f3 + 65536 * fillC r4 p f4 + 1048576 * fillC r5 p f5 := by
  have hrow := hexRow_row (a := m % 4) (b := m / 4 % 4) (c := m / 16 % 4) ⟨by omega, by omega⟩ ⟨by omega, by omega⟩ ⟨by omega, by omega⟩
  have hp : m / 64 % 2 = 0 ∨ m / 64 % 2 = 1 := by omega
  have b1 := bitI_01 m (6 + ((0 : Nat) : Int) + 1)
  have b2 := bitI_01 m (6 + ((1 : Nat) : Int) + 1)
  have b3 := bitI_01 m (6 + ((2 : Nat) : Int) + 1)
  have b4 := bitI_01 m (6 + ((3 : Nat) : Int) + 1)
  have b5 := bitI_01 m (6 + ((4 : Nat) : Int) + 1)
  obtain ⟨r0, r1, r2, r3, r4, r5, hr, h0, h1, h2, h3, h4, h5⟩ := hrow.six
  have e0 : m % 4 = r0 := by simp only [hexRow, List.cons.injEq] at hr; exact hr.1
  have hc : codeOf m = (ofTo [r0, r1, r2, r3, r4, r5] m 5).1 + fillC r0 (m / 64 % 2) (xorI (ofTo [r0, r1, r2, r3, r4, r5] m 5).2 (m / 64 % 2)) := by
    unfold codeOf; rw [hr, e0]
  simp only [ofTo, Int.add_assoc] at hc b1 b2 b3 b4 b5
  generalize m / 64 % 2 = p at *
  generalize bitI m (6 + (((0 : Nat) : Int) + 1)) = g1 at *
  generalize bitI m (6 + (((1 : Nat) : Int) + 1)) = g2 at *
  generalize bitI m (6 + (((2 : Nat) : Int) + 1)) = g3 at *
  generalize bitI m (6 + (((3 : Nat) : Int) + 1)) = g4 at *
  generalize bitI m (6 + (((4 : Nat) : Int) + 1)) = g5 at *
  refine ⟨xorI (xorI (xorI (xorI (xorI (xorI 0 g1) g2) g3) g4) g5) p, g1, g2, g3, g4, g5, p, ?_, b1, b2, b3, b4, b5, hp, ?_, r0, r1, r2, r3, r4, r5, hr, h0, h1, h2, h3, h4, h5, ?_⟩
  · exact xor01 (xor01 (xor01 (xor01 (xor01 (xor01 (.inl rfl) b1) b2) b3) b4) b5) hp
  · obtain ⟨g1, rfl⟩ := fin2 b1; obtain ⟨g2, rfl⟩ := fin2 b2; obtain ⟨g3, rfl⟩ := fin2 b3; obtain ⟨g4, rfl⟩ := fin2 b4; obtain ⟨g5, rfl⟩ := fin2 b5; obtain ⟨p, rfl⟩ := fin2 hp
    exact top_f2 g1 g2 g3 g4 g5 p
  · rw [hc]
    simp only [List.getD_cons_succ, List.getD_cons_zero]
    have q1 : (2 : Int) ^ (4 * (0 + 1)) = 16 := by decide
    have q2 : (2 : Int) ^ (4 * (1 + 1)) = 256 := by decide
    have q3 : (2 : Int) ^ (4 * (2 + 1)) = 4096 := by decide
    have q4 : (2 : Int) ^ (4 * (3 + 1)) = 65536 := by decide
    have q5 : (2 : Int) ^ (4 * (4 + 1)) = 1048576 := by decide
    rw [q1, q2, q3, q4, q5]
    omega
theorem col_sum (n0 n1 n2 n3 n4 n5 : Int) (h0 : 0 ≤ n0 ∧ n0 ≤ 15) (h1 : 0 ≤ n1 ∧ n1 ≤ 15) (h2 : 0 ≤ n2 ∧ n2 ≤ 15) (h3 : 0 ≤ n3 ∧ n3 ≤ 15) (h4 : 0 ≤ n4 ∧ n4 ≤ 15) (h5 : 0 ≤ n5 ∧ n5 ≤ 15) :
    colI (n0 + 16 * n1 + 256 * n2 + 4096 * n3 + 65536 * n4 + 1048576 * n5) 0 = n0 ∧ colI (n0 + 16 * n1 + 256 * n2 + 4096 * n3 + 65536 * n4 + 1048576 * n5) 1 = n1 ∧ colI (n0 + 16 * n1 + 256 * n2 + 4096 * n3 + 65536 * n4 + 1048576 * n5) 2 = n2 ∧
    colI (n0 + 16 * n1 + 256 * n2 + 4096 * n3 + 65536 * n4 + 1048576 * n5) 3 = n3 ∧ colI (n0 + 16 * n1 + 256 * n2 + 4096 * n3 + 65536 * n4 + 1048576 * n5) 4 = n4 ∧ colI (n0 + 16 * n1 + 256 * n2 + 4096 * n3 + 65536 * n4 + 1048576 * n5) 5 = n5 := by
  unfold colI
  have q0 : (2 : Int) ^ (4 * 0) = 1 := by decide
  have q1 : (2 : Int) ^ (4 * 1) = 16 := by decide
  have q2 : (2 : Int) ^ (4 * 2) = 256 := by decide
  have q3 : (2 : Int) ^ (4 * 3) = 4096 := by decide
  have q4 : (2 : Int) ^ (4 * 4) = 65536 := by decide
  have q5 : (2 : Int) ^ (4 * 5) = 1048576 := by decide
  rw [q0, q1, q2, q3, q4, q5]
  omega
theorem sum_cols (w : Int) (h0 : 0 ≤ w) (h1 : w ≤ 16777215) : w = colI w 0 + 16 * colI w 1 + 256 * colI w 2 + 4096 * colI w 3 + 65536 * colI w 4 + 1048576 * colI w 5 := by
  unfold colI
  have q0 : (2 : Int) ^ (4 * 0) = 1 := by decide
  have q1 : (2 : Int) ^ (4 * 1) = 16 := by decide
  have q2 : (2 : Int) ^ (4 * 2) = 256 := by decide
  have q3 : (2 : Int) ^ (4 * 3) = 4096 := by decide
  have q4 : (2 : Int) ^ (4 * 4) = 65536 := by decide
  have q5 : (2 : Int) ^ (4 * 5) = 1048576 := by decide
  rw [q0, q1, q2, q3, q4, q5]
  omega
theorem fillC_d {s p f : Int} (hs : IsD s) (hp : p = 0 ∨ p = 1) (hf : f = 0 ∨ f = 1) : 0 ≤ fillC s p f ∧ fillC s p f ≤ 15 := fillC_range s p f hs.1 hs.2 (by omega) (by omega) (by omega) (by omega)
theorem code_in (m : Int) : codeInB (codeOf m) = true ∧ scoresI (codeOf m) = hexRow (m % 4) (m / 4 % 4) (m / 16 % 4) := by
  obtain ⟨f0, f1, f2, f3, f4, f5, p, k0, k1, k2, k3, k4, k5, kp, htop, r0, r1, r2, r3, r4, r5, hr, h0, h1, h2, h3, h4, h5, hc⟩ := code_cols m
  obtain ⟨c0, c1, c2, c3, c4, c5⟩ := col_sum _ _ _ _ _ _ (fillC_d h0 kp k0) (fillC_d h1 kp k1) (fillC_d h2 kp k2) (fillC_d h3 kp k3) (fillC_d h4 kp k4) (fillC_d h5 kp k5)
  rw [← hc] at c0 c1 c2 c3 c4 c5
  obtain ⟨s0, p0, t0⟩ := fill_is h0 kp k0
  obtain ⟨s1, p1, t1⟩ := fill_is h1 kp k1
  obtain ⟨s2, p2, t2⟩ := fill_is h2 kp k2
  obtain ⟨s3, p3, t3⟩ := fill_is h3 kp k3
  obtain ⟨s4, p4, t4⟩ := fill_is h4 kp k4
  obtain ⟨s5, p5, t5⟩ := fill_is h5 kp k5
  have hs : scoresI (codeOf m) = [r0, r1, r2, r3, r4, r5] := by
    simp only [scoresI, scoreI, c0, c1, c2, c3, c4, c5, s0, s1, s2, s3, s4, s5]
  have ht : topI (codeOf m) = p := by
    have b0 := bit_top (codeOf m) 0
    have b1 := bit_top (codeOf m) 1
    have b2 := bit_top (codeOf m) 2
    have b3 := bit_top (codeOf m) 3
    have b4 := bit_top (codeOf m) 4
    have b5 := bit_top (codeOf m) 5
    simp only [topI, topTo]
    rw [b0, b1, b2, b3, b4, b5, c0, c1, c2, c3, c4, c5, t0, t1, t2, t3, t4, t5]
    exact htop
  refine ⟨?_, hs.trans hr.symm⟩
  unfold codeInB
  rw [hs, ht, ← hr, Bool.and_eq_true]
  refine ⟨?_, ?_⟩
  · simp only [parI, List.all_eq_true, List.mem_range, beq_iff_eq]
    intro c hc
    match c, hc with
    | 0, _ => rw [c0, p0]
    | 1, _ => rw [c1, p1]
    | 2, _ => rw [c2, p2]
    | 3, _ => rw [c3, p3]
    | 4, _ => rw [c4, p4]
    | 5, _ => rw [c5, p5]
  · exact InHex.b ⟨_, _, _, ⟨by omega, by omega⟩, ⟨by omega, by omega⟩, ⟨by omega, by omega⟩, rfl⟩
theorem topTo_01 (w : Int) (c : Nat) : topTo w c = 0 ∨ topTo w c = 1 := by
  induction c with
  | zero => exact .inl rfl
  | succ c ih => exact xor01 ih (bitI_01 _ _)
theorem msg_f2 : ∀ a b c d e f : Fin 2, xorI (xorI (xorI (xorI (xorI (xorI 0 (b.val : Int)) (c.val : Int)) (d.val : Int)) (e.val : Int)) (f.val : Int)) (xorI (xorI (xorI (xorI (xorI (xorI 0 (a.val : Int)) (b.val : Int)) (c.val : Int)) (d.val : Int)) (e.val : Int)) (f.val : Int)) = (a.val : Int) := by decide +kernel
theorem top01 (w : Int) : xorI (xorI (xorI (xorI (xorI (xorI 0 (colI w 1 % 2)) (colI w 2 % 2)) (colI w 3 % 2)) (colI w 4 % 2)) (colI w 5 % 2)) (topI w) = colI w 0 % 2 := by
  have b0 := bit_top w 0
  have b1 := bit_top w 1
  have b2 := bit_top w 2
  have b3 := bit_top w 3
  have b4 := bit_top w 4
  have b5 := bit_top w 5
  simp only [topI, topTo]
  rw [b0, b1, b2, b3, b4, b5]
  have k : ∀ c : Nat, colI w c % 2 = 0 ∨ colI w c % 2 = 1 := fun c => by omega
  obtain ⟨x0, e0⟩ := fin2 (k 0)
  obtain ⟨x1, e1⟩ := fin2 (k 1)
  obtain ⟨x2, e2⟩ := fin2 (k 2)
  obtain ⟨x3, e3⟩ := fin2 (k 3)
  obtain ⟨x4, e4⟩ := fin2 (k 4)
  obtain ⟨x5, e5⟩ := fin2 (k 5)
  rw [e0, e1, e2, e3, e4, e5]
  exact msg_f2 x0 x1 x2 x3 x4 x5
theorem message_ok (w : Int) (h0 : 0 ≤ w) (h1 : w ≤ 16777215) (h : codeInB w = true) : 0 ≤ messageOf w ∧ messageOf w ≤ 4095 ∧ codeOf (messageOf w) = w := by
  unfold codeInB at h
  rw [Bool.and_eq_true] at h
  obtain ⟨hp, hh⟩ := h
  have hpar : ∀ c : Nat, c < 6 → parI w c = topI w := fun c hc => by simpa using (List.all_eq_true.1 hp) c (List.mem_range.2 hc)
  have d0 := scoreI_d w 0
  have d1 := scoreI_d w 1
  have d2 := scoreI_d w 2
  have ht : topI w = 0 ∨ topI w = 1 := topTo_01 w 6
  have b0 := bit_top w 0
  have b1 := bit_top w 1
  have b2 := bit_top w 2
  have b3 := bit_top w 3
  have b4 := bit_top w 4
  have b5 := bit_top w 5
  simp only [Int.natCast_zero, Int.natCast_one, Int.mul_zero] at b0 b1
  have m5 : messageOf w = scoreI w 0 + 4 * scoreI w 1 + 16 * scoreI w 2 + 64 * topI w + 128 * (colI w 1 % 2) + 256 * (colI w 2 % 2) + 512 * (colI w 3 % 2) + 1024 * (colI w 4 % 2) + 2048 * (colI w 5 % 2) := by
    simp only [messageOf, msgTo]
    have q1 : (4 * (((0 : Nat) : Int) + 1)) = 4 * ((1 : Nat) : Int) := by omega
    have q2 : (4 * (((1 : Nat) : Int) + 1)) = 4 * ((2 : Nat) : Int) := by omega
    have q3 : (4 * (((2 : Nat) : Int) + 1)) = 4 * ((3 : Nat) : Int) := by omega
    have q4 : (4 * (((3 : Nat) : Int) + 1)) = 4 * ((4 : Nat) : Int) := by omega
    have q5 : (4 * (((4 : Nat) : Int) + 1)) = 4 * ((5 : Nat) : Int) := by omega
    rw [q1, q2, q3, q4, q5, bit_top, bit_top, bit_top, bit_top, bit_top]
    have r1 : (2 : Int) ^ (6 + (0 + 1)) = 128 := by decide
    have r2 : (2 : Int) ^ (6 + (1 + 1)) = 256 := by decide
    have r3 : (2 : Int) ^ (6 + (2 + 1)) = 512 := by decide
    have r4 : (2 : Int) ^ (6 + (3 + 1)) = 1024 := by decide
    have r5 : (2 : Int) ^ (6 + (4 + 1)) = 2048 := by decide
    rw [r1, r2, r3, r4, r5]
    omega
  unfold IsD at d0 d1 d2
  have hrng : 0 ≤ messageOf w ∧ messageOf w ≤ 4095 := by omega
  refine ⟨hrng.1, hrng.2, ?_⟩
  have a0 : messageOf w % 4 = scoreI w 0 := by omega
  have a1 : messageOf w / 4 % 4 = scoreI w 1 := by omega
  have a2 : messageOf w / 16 % 4 = scoreI w 2 := by omega
  have a3 : messageOf w / 64 % 2 = topI w := by omega
  have g1 : bitI (messageOf w) (6 + (((0 : Nat) : Int) + 1)) = colI w 1 % 2 := by
    unfold bitI; rw [show (6 + (((0 : Nat) : Int) + 1)).toNat = 7 from rfl]; simp only [show (2 : Int) ^ 7 = 128 from rfl]; omega
  have g2 : bitI (messageOf w) (6 + (((1 : Nat) : Int) + 1)) = colI w 2 % 2 := by
    unfold bitI; rw [show (6 + (((1 : Nat) : Int) + 1)).toNat = 8 from rfl]; simp only [show (2 : Int) ^ 8 = 256 from rfl]; omega
  have g3 : bitI (messageOf w) (6 + (((2 : Nat) : Int) + 1)) = colI w 3 % 2 := by
    unfold bitI; rw [show (6 + (((2 : Nat) : Int) + 1)).toNat = 9 from rfl]; simp only [show (2 : Int) ^ 9 = 512 from rfl]; omega
  have g4 : bitI (messageOf w) (6 + (((3 : Nat) : Int) + 1)) = colI w 4 % 2 := by
    unfold bitI; rw [show (6 + (((3 : Nat) : Int) + 1)).toNat = 10 from rfl]; simp only [show (2 : Int) ^ 10 = 1024 from rfl]; omega
  have g5 : bitI (messageOf w) (6 + (((4 : Nat) : Int) + 1)) = colI w 5 % 2 := by
    unfold bitI; rw [show (6 + (((4 : Nat) : Int) + 1)).toNat = 11 from rfl]; simp only [show (2 : Int) ^ 11 = 2048 from rfl]; omega
  have hrow : hexRow (messageOf w % 4) (messageOf w / 4 % 4) (messageOf w / 16 % 4) = scoresI w := by
    rw [a0, a1, a2]
    unfold hexB eqR at hh
    exact (of_decide_eq_true hh).symm
  have hz := top01 w
  unfold codeOf
  rw [hrow, a0]
  simp only [ofTo, a3]
  rw [g1, g2, g3, g4, g5]
  have fb : ∀ c : Nat, c < 6 → fillC (scoreI w c) (topI w) (colI w c % 2) = colI w c := by
    intro c hc
    obtain ⟨x, hx⟩ := nib_fin (colI_range w c).1 (colI_range w c).2
    rw [← hpar c hc]
    unfold parI scoreI
    rw [hx]; exact fill_back x
  have f1 := fb 1 (by omega)
  have f2 := fb 2 (by omega)
  have f3 := fb 3 (by omega)
  have f4 := fb 4 (by omega)
  have f5 := fb 5 (by omega)
  have f0 := fb 0 (by omega)
  rw [hz]
  simp only [scoresI, List.getD_cons_succ, List.getD_cons_zero]
  rw [f0, f1, f2, f3, f4, f5]
  have q1 : (2 : Int) ^ (4 * (0 + 1)) = 16 := by decide
  have q2 : (2 : Int) ^ (4 * (1 + 1)) = 256 := by decide
  have q3 : (2 : Int) ^ (4 * (2 + 1)) = 4096 := by decide
  have q4 : (2 : Int) ^ (4 * (3 + 1)) = 65536 := by decide
  have q5 : (2 : Int) ^ (4 * (4 + 1)) = 1048576 := by decide
  rw [q1, q2, q3, q4, q5]
  have := sum_cols w h0 h1
  omega
theorem codeIn_iff (w : Int) (h0 : 0 ≤ w) (h1 : w ≤ 16777215) : codeInB w = true ↔ ∃ m : Nat, m < 4096 ∧ codeOf m = w := by
  constructor
  · intro h
    obtain ⟨a, b, c⟩ := message_ok w h0 h1 h
    exact ⟨(messageOf w).toNat, by omega, by rw [Int.toNat_of_nonneg a]; exact c⟩
  · rintro ⟨m, hm, rfl⟩
    exact (code_in m).1
theorem codeOf_xor (m n : Nat) (hm : m < 4096) (hn : n < 4096) : codeOf ((m ^^^ n : Nat) : Int) = xorI (codeOf m) (codeOf n) := by
  rw [codeOf_cN _ (xor_lt12 m n hm hn), codeOf_cN m hm, codeOf_cN n hn, cN_xor]
  unfold xorI
  rw [Int.toNat_natCast, Int.toNat_natCast]
theorem code_sum (a b : Int) (ha0 : 0 ≤ a) (ha1 : a ≤ 16777215) (hb0 : 0 ≤ b) (hb1 : b ≤ 16777215) (ha : codeInB a = true) (hb : codeInB b = true) : codeInB (xorI a b) = true := by
  obtain ⟨m, hm, rfl⟩ := (codeIn_iff a ha0 ha1).1 ha
  obtain ⟨n, hn, rfl⟩ := (codeIn_iff b hb0 hb1).1 hb
  rw [← codeOf_xor m n hm hn]
  exact (code_in _).1
theorem code_all : codeInB 16777215 = true := (codeIn_iff 16777215 (by omega) (by omega)).2 ⟨3968, by omega, by rw [codeOf_cN 3968 (by omega)]; decide +kernel⟩
theorem code_wtI (w : Int) (h0 : 0 ≤ w) (h1 : w ≤ 16777215) (h : codeInB w = true) : wt w = 0 ∨ wt w = 8 ∨ wt w = 12 ∨ wt w = 16 ∨ wt w = 24 := by
  obtain ⟨m, hm, rfl⟩ := (codeIn_iff w h0 h1).1 h
  rw [codeOf_cN m hm, wt_pop]
  have := (code_wts m hm).1
  omega
end Go.Proofs.YtiodikflmijhkaaGreatDoor
/- Nearest words as the program and the model gather them; sorting; counting weights; the answers of chapter 3 as functions. No program is named here. -/
namespace Go.Proofs.YtiodikflmijhkaaGreatDoor
set_option linter.unusedVariables false

/-! ### Gathering -/
theorem snocInd {α : Type} {P : List α → Prop} (nil : P []) (append_singleton : ∀ (ms : List α) (m : α), P ms → P (ms ++ [m])) (ms : List α) : P ms := by
  rw [← List.reverse_reverse ms]
  induction ms.reverse with
  | nil => exact nil
  | cons a l ih => rw [List.reverse_cons]; exact append_singleton _ _ ih
def sumTo (c : List Int) : Nat → Int
  | 0 => 0
  | k + 1 => sumTo c k + c.getD k 0
def wordB (w : Int) : Bool := decide (0 ≤ w ∧ w ≤ 16777215)
theorem wordB_iff (w : Int) : wordB w = true ↔ 0 ≤ w ∧ w ≤ 16777215 := by simp [wordB]
theorem wordB_no (w : Int) : wordB w = false ↔ w < 0 ∨ 16777215 < w := by simp [wordB]; omega
def cIn (w : Int) : Bool := wordB w && codeInB w
end Go.Proofs.YtiodikflmijhkaaGreatDoor
/- The word of a message and the message of a word as the program makes them. No program is named here. -/
namespace Go.Proofs.YtiodikflmijhkaaGreatDoor
set_option linter.unusedVariables false

def bareT : List Int := [0, 12, 10, 6, 14, 2, 4, 8]
def rowM (m : Int) : List Int := hexRow (m % 4) (m / 4 % 4) (m / 16 % 4)
def topB (m : Int) (c : Nat) : Bool := decide (0 < c ∧ m / 2 ^ (6 + c) % 2 = 1)
def bareM (m : Int) (c : Nat) : Int := bareT.getD (m / 64 % 2 * 4 + (rowM m).getD c 0).toNat 0
def partM (m : Int) (c : Nat) : Int := if topB m c then xorI (bareM m c) 15 else bareM m c
def wordTo (m : Int) : Nat → Int
  | 0 => 0
  | c + 1 => xorI (wordTo m c) (partM m c * 2 ^ (4 * c))
def wordM (m : Int) : Int := if wt (andI (wordTo m 6) 1118481) % 2 = m / 64 % 2 then wordTo m 6 else xorI (wordTo m 6) 15
theorem rowM_d (m : Int) (c : Nat) : IsD ((rowM m).getD c 0) :=
  (hexRow_row (a := m % 4) (b := m / 4 % 4) (c := m / 16 % 4) ⟨by omega, by omega⟩ ⟨by omega, by omega⟩ ⟨by omega, by omega⟩).get c
theorem bareT_rng : ∀ i : Fin 8, 0 ≤ bareT.getD i.val 0 ∧ bareT.getD i.val 0 ≤ 15 := by decide
theorem bareM_rng (m : Int) (c : Nat) : 0 ≤ bareM m c ∧ bareM m c ≤ 15 := by
  have h := rowM_d m c
  unfold IsD at h
  exact bareT_rng ⟨(m / 64 % 2 * 4 + (rowM m).getD c 0).toNat, by omega⟩
theorem xorI_le15 (a b : Int) (h1 : a ≤ 15) (h3 : b ≤ 15) : xorI a b ≤ 15 := by
  unfold xorI
  have := Nat.xor_lt_two_pow (n := 4) (x := a.toNat) (y := b.toNat) (by omega) (by omega)
  omega
theorem partM_rng (m : Int) (c : Nat) : 0 ≤ partM m c ∧ partM m c ≤ 15 := by
  have h := bareM_rng m c
  unfold partM
  split
  · exact ⟨xorI_nonneg _ _, xorI_le15 _ _ h.2 (by omega)⟩
  · exact h
theorem shift_rng (x : Int) (c : Nat) (hc : c < 6) (h0 : 0 ≤ x) (h1 : x ≤ 15) : 0 ≤ x * 2 ^ (4 * c) ∧ x * 2 ^ (4 * c) ≤ 15728640 := by
  have : c = 0 ∨ c = 1 ∨ c = 2 ∨ c = 3 ∨ c = 4 ∨ c = 5 := by omega
  rcases this with rfl | rfl | rfl | rfl | rfl | rfl <;> simp <;> omega
theorem wordTo_rng (m : Int) (c : Nat) (hc : c ≤ 6) : 0 ≤ wordTo m c ∧ wordTo m c ≤ 16777215 := by
  induction c with
  | zero => simp [wordTo]
  | succ c ih =>
    have := ih (by omega)
    have := partM_rng m c
    have := shift_rng (partM m c) c (by omega) this.1 this.2
    exact ⟨xorI_nonneg _ _, xorI_le _ _ (by omega) (by omega)⟩

theorem xorI_disjoint (a b : Int) (k : Nat) (ha0 : 0 ≤ a) (ha : a < 2 ^ k) (hb : 0 ≤ b) : xorI a (b * 2 ^ k) = a + b * 2 ^ k := by
  obtain ⟨A, rfl⟩ := Int.eq_ofNat_of_zero_le ha0
  obtain ⟨B, rfl⟩ := Int.eq_ofNat_of_zero_le hb
  have hA : A < 2 ^ k := by exact_mod_cast ha
  have e : ((B : Int) * 2 ^ k).toNat = B * 2 ^ k := by
    rw [show ((B : Int) * 2 ^ k) = ((B * 2 ^ k : Nat) : Int) by simp, Int.toNat_natCast]
  have hz : A &&& (B * 2 ^ k) = 0 := by
    apply Nat.eq_of_testBit_eq
    intro i
    rw [Nat.testBit_and, Nat.zero_testBit, Nat.mul_comm, Nat.testBit_two_pow_mul]
    by_cases h : k ≤ i
    · rw [Nat.testBit_lt_two_pow (Nat.lt_of_lt_of_le hA (Nat.pow_le_pow_right (by decide) h))]; simp
    · simp [h]
  have hx : A ^^^ (B * 2 ^ k) = A + B * 2 ^ k := by
    have h2 := Nat.two_pow_add_eq_or_of_lt hA B
    rw [Nat.mul_comm] at h2
    have h3 : A ^^^ (B * 2 ^ k) = A ||| (B * 2 ^ k) := by
      apply Nat.eq_of_testBit_eq
      intro i
      have hi : (A &&& (B * 2 ^ k)).testBit i = false := by rw [hz]; exact Nat.zero_testBit i
      rw [Nat.testBit_and] at hi
      rw [Nat.testBit_xor, Nat.testBit_or]
      cases hA' : A.testBit i <;> cases hB' : (B * 2 ^ k).testBit i <;> simp_all
    rw [h3, Nat.or_comm, ← h2, Nat.add_comm]
  unfold xorI
  rw [e, Int.toNat_natCast, hx]
  push_cast
  omega
theorem fill_bare : ∀ s : Fin 4, ∀ p : Fin 2, fillC (s.val : Int) (p.val : Int) 0 = bareT.getD (p.val * 4 + s.val) 0 ∧ fillC (s.val : Int) (p.val : Int) 1 = xorI (bareT.getD (p.val * 4 + s.val) 0) 15 := by decide
theorem partM_fill (m : Int) (c : Nat) : partM m c = fillC ((rowM m).getD c 0) (m / 64 % 2) (if topB m c then 1 else 0) := by
  obtain ⟨s, hs⟩ := (rowM_d m c).fin
  obtain ⟨p, hp⟩ := fin2 (n := m / 64 % 2) (by omega)
  obtain ⟨h0, h1⟩ := fill_bare s p
  have e : (m / 64 % 2 * 4 + (rowM m).getD c 0).toNat = p.val * 4 + s.val := by rw [hs, hp]; omega
  unfold partM bareM
  rw [e, hs, hp]
  cases topB m c
  · simpa using h0.symm
  · simpa using h1.symm
theorem wordTo_sum (m : Int) : wordTo m 6 = partM m 0 + 16 * partM m 1 + 256 * partM m 2 + 4096 * partM m 3 + 65536 * partM m 4 + 1048576 * partM m 5 := by
  have r := partM_rng m
  have r0 := r 0
  have r1 := r 1
  have r2 := r 2
  have r3 := r 3
  have r4 := r 4
  have r5 := r 5
  have w1 : wordTo m 1 = partM m 0 := by
    show xorI 0 (partM m 0 * 2 ^ 0) = _
    rw [show partM m 0 * 2 ^ 0 = partM m 0 by simp, zero_xorI _ r0.1]
  have w2 : wordTo m 2 = partM m 0 + 16 * partM m 1 := by
    show xorI (wordTo m 1) (partM m 1 * 2 ^ 4) = _
    rw [w1, xorI_disjoint _ _ 4 r0.1 (by omega) r1.1]; omega
  have w3 : wordTo m 3 = partM m 0 + 16 * partM m 1 + 256 * partM m 2 := by
    show xorI (wordTo m 2) (partM m 2 * 2 ^ 8) = _
    rw [w2, xorI_disjoint _ _ 8 (by omega) (by omega) r2.1]; omega
  have w4 : wordTo m 4 = partM m 0 + 16 * partM m 1 + 256 * partM m 2 + 4096 * partM m 3 := by
    show xorI (wordTo m 3) (partM m 3 * 2 ^ 12) = _
    rw [w3, xorI_disjoint _ _ 12 (by omega) (by omega) r3.1]; omega
  have w5 : wordTo m 5 = partM m 0 + 16 * partM m 1 + 256 * partM m 2 + 4096 * partM m 3 + 65536 * partM m 4 := by
    show xorI (wordTo m 4) (partM m 4 * 2 ^ 16) = _
    rw [w4, xorI_disjoint _ _ 16 (by omega) (by omega) r4.1]; omega
  show xorI (wordTo m 5) (partM m 5 * 2 ^ 20) = _
  rw [w5, xorI_disjoint _ _ 20 (by omega) (by omega) r5.1]; omega
/-- The weight of row 0 modulo 2. -/
theorem top_sum : ∀ a b c d e f : Fin 2, ((a.val : Int) + (b.val : Int) + (c.val : Int) + (d.val : Int) + (e.val : Int) + (f.val : Int)) % 2 = xorI (xorI (xorI (xorI (xorI (xorI 0 (a.val : Int)) (b.val : Int)) (c.val : Int)) (d.val : Int)) (e.val : Int)) (f.val : Int) := by decide +kernel
theorem and_bit (a b : Int) (ha : 0 ≤ a) (hb : 0 ≤ b) (i : Nat) : bitI (andI a b) i = bitI a i * bitI b i := by
  obtain ⟨A, rfl⟩ := Int.eq_ofNat_of_zero_le ha
  obtain ⟨B, rfl⟩ := Int.eq_ofNat_of_zero_le hb
  unfold andI
  rw [Int.toNat_natCast, Int.toNat_natCast, bitI_nat, bitI_nat, bitI_nat, Nat.testBit_and]
  cases A.testBit i <;> cases B.testBit i <;> rfl
theorem topRow_bits : ∀ i : Fin 24, bitI 1118481 (i.val : Int) = if i.val % 4 = 0 then 1 else 0 := by decide
theorem wt_top (w : Int) (h0 : 0 ≤ w) : wt (andI w 1118481) % 2 = topI w := by
  have hb : ∀ i : Nat, i < 24 → bitI (andI w 1118481) i = if i % 4 = 0 then bitI w i else 0 := by
    intro i hi
    rw [and_bit w _ h0 (by omega), topRow_bits ⟨i, hi⟩]
    split <;> simp
  have hs : wt (andI w 1118481) = bitI w 0 + bitI w 4 + bitI w 8 + bitI w 12 + bitI w 16 + bitI w 20 := by
    unfold wt
    simp only [wtTo]
    rw [hb 0 (by omega), hb 1 (by omega), hb 2 (by omega), hb 3 (by omega), hb 4 (by omega), hb 5 (by omega), hb 6 (by omega), hb 7 (by omega), hb 8 (by omega), hb 9 (by omega), hb 10 (by omega), hb 11 (by omega), hb 12 (by omega), hb 13 (by omega), hb 14 (by omega), hb 15 (by omega), hb 16 (by omega), hb 17 (by omega), hb 18 (by omega), hb 19 (by omega), hb 20 (by omega), hb 21 (by omega), hb 22 (by omega), hb 23 (by omega)]
    simp
  rw [hs]
  have e : topI w = xorI (xorI (xorI (xorI (xorI (xorI 0 (bitI w 0)) (bitI w 4)) (bitI w 8)) (bitI w 12)) (bitI w 16)) (bitI w 20) := rfl
  rw [e]
  obtain ⟨x0, e0⟩ := fin2 (bitI_01 w 0)
  obtain ⟨x1, e1⟩ := fin2 (bitI_01 w 4)
  obtain ⟨x2, e2⟩ := fin2 (bitI_01 w 8)
  obtain ⟨x3, e3⟩ := fin2 (bitI_01 w 12)
  obtain ⟨x4, e4⟩ := fin2 (bitI_01 w 16)
  obtain ⟨x5, e5⟩ := fin2 (bitI_01 w 20)
  rw [e0, e1, e2, e3, e4, e5]
  exact top_sum x0 x1 x2 x3 x4 x5
theorem xor15_low (x R : Int) (h0 : 0 ≤ x) (h1 : x ≤ 15) (hR : 0 ≤ R) : xorI (x + 16 * R) 15 = xorI x 15 + 16 * R := by
  have e1 : x + 16 * R = xorI x (R * 2 ^ 4) := by rw [xorI_disjoint x R 4 h0 (by omega) hR]; omega
  have h2 := xorI_le15 x 15 h1 (by omega)
  rw [e1, xorI_assoc, xorI_comm _ 15, ← xorI_assoc, xorI_disjoint _ R 4 (xorI_nonneg _ _) (by omega) hR]; omega
theorem last_f : ∀ a b c d e p : Fin 2, xorI (xorI (xorI (xorI (xorI (xorI 0 0) (a.val : Int)) (b.val : Int)) (c.val : Int)) (d.val : Int)) (e.val : Int) = xorI (xorI (xorI (xorI (xorI 0 (a.val : Int)) (b.val : Int)) (c.val : Int)) (d.val : Int)) (e.val : Int) ∧
    xorI (xorI (xorI (xorI (xorI (xorI 0 (a.val : Int)) (b.val : Int)) (c.val : Int)) (d.val : Int)) (e.val : Int)) (p.val : Int) = if xorI (xorI (xorI (xorI (xorI 0 (a.val : Int)) (b.val : Int)) (c.val : Int)) (d.val : Int)) (e.val : Int) = (p.val : Int) then 0 else 1 := by decide +kernel
theorem wordM_code (m : Int) (h0 : 0 ≤ m) (h1 : m ≤ 4095) : wordM m = codeOf m := by
  have hrow : rowM m = [m % 4, m / 4 % 4, m / 16 % 4, (rowM m).getD 3 0, (rowM m).getD 4 0, (rowM m).getD 5 0] := rfl
  have b : ∀ c : Nat, (if topB m (c + 1) then (1 : Int) else 0) = bitI m (6 + ((c : Int) + 1)) := by
    intro c
    have := bitI_01 m (6 + ((c : Int) + 1))
    have e : bitI m (6 + ((c : Int) + 1)) = m / 2 ^ (6 + (c + 1)) % 2 := by unfold bitI; rw [show (6 + ((c : Int) + 1)).toNat = 6 + (c + 1) by omega]
    unfold topB
    by_cases h : m / 2 ^ (6 + (c + 1)) % 2 = 1
    · simp [h, e]
    · rw [e]; simp [h]; omega
  have r := partM_rng m
  have r0 := r 0
  have r1 := r 1
  have r2 := r 2
  have r3 := r 3
  have r4 := r 4
  have r5 := r 5
  have hsum := wordTo_sum m
  have hw0 : 0 ≤ wordTo m 6 := by omega
  have htop := wt_top _ hw0
  obtain ⟨c0, c1, c2, c3, c4, c5⟩ := col_sum _ _ _ _ _ _ r0 r1 r2 r3 r4 r5
  rw [← hsum] at c0 c1 c2 c3 c4 c5
  have pf := partM_fill m
  have q : ∀ c : Nat, partM m c % 2 = if topB m c then 1 else 0 := by
    intro c
    rw [pf c]
    exact (fill_is (rowM_d m c) (by omega) (by cases topB m c <;> simp)).2.2
  have t0 : topB m 0 = false := rfl
  have htop2 : topI (wordTo m 6) = xorI (xorI (xorI (xorI (xorI (xorI 0 0) (bitI m (6 + (((0 : Nat) : Int) + 1)))) (bitI m (6 + (((1 : Nat) : Int) + 1)))) (bitI m (6 + (((2 : Nat) : Int) + 1)))) (bitI m (6 + (((3 : Nat) : Int) + 1)))) (bitI m (6 + (((4 : Nat) : Int) + 1))) := by
    have e0 := bit_top (wordTo m 6) 0
    have e1 := bit_top (wordTo m 6) 1
    have e2 := bit_top (wordTo m 6) 2
    have e3 := bit_top (wordTo m 6) 3
    have e4 := bit_top (wordTo m 6) 4
    have e5 := bit_top (wordTo m 6) 5
    simp only [topI, topTo]
    rw [e0, e1, e2, e3, e4, e5, c0, c1, c2, c3, c4, c5, q 0, q 1, q 2, q 3, q 4, q 5, ← b 0, ← b 1, ← b 2, ← b 3, ← b 4, t0]
    rfl
  have f0 := pf 0
  have f1 := pf 1
  have f2 := pf 2
  have f3 := pf 3
  have f4 := pf 4
  have f5 := pf 5
  rw [t0] at f0
  rw [b 0] at f1
  rw [b 1] at f2
  rw [b 2] at f3
  rw [b 3] at f4
  rw [b 4] at f5
  have hcode : codeOf m = (ofTo (rowM m) m 5).1 + fillC (m % 4) (m / 64 % 2) (xorI (ofTo (rowM m) m 5).2 (m / 64 % 2)) := rfl
  simp only [ofTo] at hcode
  have p1 : (2 : Int) ^ (4 * (0 + 1)) = 16 := by decide
  have p2 : (2 : Int) ^ (4 * (1 + 1)) = 256 := by decide
  have p3 : (2 : Int) ^ (4 * (2 + 1)) = 4096 := by decide
  have p4 : (2 : Int) ^ (4 * (3 + 1)) = 65536 := by decide
  have p5 : (2 : Int) ^ (4 * (4 + 1)) = 1048576 := by decide
  rw [p1, p2, p3, p4, p5, ← f1, ← f2, ← f3, ← f4, ← f5] at hcode
  have s0 : (rowM m).getD 0 0 = m % 4 := rfl
  rw [s0] at f0
  have hf1 : fillC (m % 4) (m / 64 % 2) 1 = xorI (partM m 0) 15 := by
    obtain ⟨s, hs⟩ := (show IsD (m % 4) from ⟨by omega, by omega⟩).fin
    obtain ⟨p, hp⟩ := fin2 (n := m / 64 % 2) (by omega)
    rw [f0, hs, hp]
    have := fill_bare s p
    simp only [Bool.false_eq_true, if_false]
    rw [this.1, this.2]
  simp only [Bool.false_eq_true, if_false] at f0
  unfold wordM
  rw [htop, htop2]
  obtain ⟨x1, hx1⟩ := fin2 (bitI_01 m (6 + (((0 : Nat) : Int) + 1)))
  obtain ⟨x2, hx2⟩ := fin2 (bitI_01 m (6 + (((1 : Nat) : Int) + 1)))
  obtain ⟨x3, hx3⟩ := fin2 (bitI_01 m (6 + (((2 : Nat) : Int) + 1)))
  obtain ⟨x4, hx4⟩ := fin2 (bitI_01 m (6 + (((3 : Nat) : Int) + 1)))
  obtain ⟨x5, hx5⟩ := fin2 (bitI_01 m (6 + (((4 : Nat) : Int) + 1)))
  obtain ⟨xp, hxp⟩ := fin2 (n := m / 64 % 2) (by omega)
  obtain ⟨L1, L2⟩ := last_f x1 x2 x3 x4 x5 xp
  rw [← hx1, ← hx2, ← hx3, ← hx4, ← hx5] at L1
  rw [← hx1, ← hx2, ← hx3, ← hx4, ← hx5, ← hxp] at L2
  rw [L1]
  rw [L2] at hcode
  generalize xorI (xorI (xorI (xorI (xorI 0 (bitI m (6 + (((0 : Nat) : Int) + 1)))) (bitI m (6 + (((1 : Nat) : Int) + 1)))) (bitI m (6 + (((2 : Nat) : Int) + 1)))) (bitI m (6 + (((3 : Nat) : Int) + 1)))) (bitI m (6 + (((4 : Nat) : Int) + 1))) = T at *
  by_cases hT : T = m / 64 % 2
  · rw [if_pos hT] at hcode ⊢
    rw [hcode, hsum, ← f0]; omega
  · rw [if_neg hT] at hcode ⊢
    have hl := xor15_low (partM m 0) (partM m 1 + 16 * partM m 2 + 256 * partM m 3 + 4096 * partM m 4 + 65536 * partM m 5) r0.1 r0.2 (by omega)
    rw [hcode, hf1, hsum, show partM m 0 + 16 * partM m 1 + 256 * partM m 2 + 4096 * partM m 3 + 65536 * partM m 4 + 1048576 * partM m 5 = partM m 0 + 16 * (partM m 1 + 16 * partM m 2 + 256 * partM m 3 + 4096 * partM m 4 + 65536 * partM m 5) by omega, hl]
    omega

/-! ### The message of a word -/
def msgHead (w : Int) : Nat → Int
  | 0 => wt (colI w 0) % 2 * 64
  | i + 1 => orI (msgHead w i) (scoreI w i * 2 ^ (2 * i))
def msgTail (w : Int) : Nat → Int
  | 0 => msgHead w 3
  | j + 1 => if bitI w (4 * ((j : Int) + 1)) = 1 then orI (msgTail w j) (2 ^ (7 + j)) else msgTail w j
def messageM (w : Int) : Int := msgTail w 5
theorem orI_disjoint (a b : Int) (k : Nat) (ha0 : 0 ≤ a) (ha : a < 2 ^ k) (hb : 0 ≤ b) : orI a (b * 2 ^ k) = a + b * 2 ^ k := by
  obtain ⟨A, rfl⟩ := Int.eq_ofNat_of_zero_le ha0
  obtain ⟨B, rfl⟩ := Int.eq_ofNat_of_zero_le hb
  have hA : A < 2 ^ k := by exact_mod_cast ha
  unfold orI
  have e : ((B : Int) * 2 ^ k).toNat = 2 ^ k * B := by
    rw [show ((B : Int) * 2 ^ k) = ((B * 2 ^ k : Nat) : Int) by simp, Int.toNat_natCast, Nat.mul_comm]
  rw [e, Int.toNat_natCast, Nat.or_comm, ← Nat.two_pow_add_eq_or_of_lt hA]
  rw [Nat.mul_comm]
  push_cast
  omega
def headAll (s0 s1 s2 p : Int) : Int := orI (orI (orI (p * 64) (s0 * 1)) (s1 * 4)) (s2 * 16)
theorem headAll_is : ∀ s0 s1 s2 : Fin 4, ∀ p : Fin 2, headAll (s0.val : Int) (s1.val : Int) (s2.val : Int) (p.val : Int) = (s0.val : Int) + 4 * (s1.val : Int) + 16 * (s2.val : Int) + 64 * (p.val : Int) := by decide +kernel
theorem msgHead_is (w : Int) : msgHead w 3 = scoreI w 0 + 4 * scoreI w 1 + 16 * scoreI w 2 + 64 * (wt (colI w 0) % 2) := by
  have e : msgHead w 3 = headAll (scoreI w 0) (scoreI w 1) (scoreI w 2) (wt (colI w 0) % 2) := rfl
  rw [e]
  obtain ⟨a, ha⟩ := (scoreI_d w 0).fin
  obtain ⟨b, hb⟩ := (scoreI_d w 1).fin
  obtain ⟨c, hc⟩ := (scoreI_d w 2).fin
  obtain ⟨p, hp⟩ := fin2 (n := wt (colI w 0) % 2) (by omega)
  rw [ha, hb, hc, hp]
  exact headAll_is a b c p
theorem msgHead_rng (w : Int) : 0 ≤ msgHead w 3 ∧ msgHead w 3 ≤ 127 := by
  have h0 := scoreI_d w 0
  have h1 := scoreI_d w 1
  have h2 := scoreI_d w 2
  unfold IsD at h0 h1 h2
  rw [msgHead_is]
  omega
theorem msgTail_rng (w : Int) (j : Nat) : 0 ≤ msgTail w j ∧ msgTail w j < 2 ^ (7 + j) := by
  induction j with
  | zero => have := msgHead_rng w; simp only [msgTail]; omega
  | succ j ih =>
    have hp : (2 : Int) ^ (7 + (j + 1)) = 2 * 2 ^ (7 + j) := by rw [← Nat.add_assoc, Int.pow_succ, Int.mul_comm]
    have h2 : (0 : Int) < 2 ^ (7 + j) := Int.pow_pos (by decide)
    simp only [msgTail]
    split
    · have := orI_disjoint (msgTail w j) 1 (7 + j) ih.1 ih.2 (by omega)
      rw [Int.one_mul] at this
      rw [this]; omega
    · omega
theorem msgTail_step (w : Int) (j : Nat) : msgTail w (j + 1) = msgTail w j + bitI w (4 * ((j : Int) + 1)) * 2 ^ (7 + j) := by
  have ih := msgTail_rng w j
  simp only [msgTail]
  split
  · rename_i h
    have := orI_disjoint (msgTail w j) 1 (7 + j) ih.1 ih.2 (by omega)
    rw [Int.one_mul] at this
    rw [this, h, Int.one_mul]
  · rename_i h
    have := bitI_01 w (4 * ((j : Int) + 1))
    rw [show bitI w (4 * ((j : Int) + 1)) = 0 by omega]; simp
theorem messageM_is (w : Int) (h : wt (colI w 0) % 2 = topI w) : messageM w = messageOf w := by
  have : ∀ j : Nat, msgTail w j = msgTo w j := by
    intro j
    induction j with
    | zero => simp only [msgTail, msgTo]; rw [msgHead_is, h]
    | succ j ih =>
      rw [msgTail_step, ih]
      simp only [msgTo]
      rw [show 7 + j = 6 + (j + 1) by omega]
  exact this 5
theorem messageM_rng (w : Int) : 0 ≤ messageM w ∧ messageM w ≤ 4095 := by
  have := msgTail_rng w 5
  unfold messageM
  omega
/-- A word is of the code just if its message leads back to it. -/
theorem codeIn_back (w : Int) (h0 : 0 ≤ w) (h1 : w ≤ 16777215) : codeInB w = decide (codeOf (messageM w) = w) := by
  have hr := messageM_rng w
  by_cases h : codeOf (messageM w) = w
  · rw [decide_eq_true h, ← h]
    exact (code_in _).1
  · rw [decide_eq_false h]
    cases hc : codeInB w with
    | false => rfl
    | true =>
      exfalso
      have hp : parI w 0 = topI w := by
        unfold codeInB at hc
        rw [Bool.and_eq_true] at hc
        simpa using (List.all_eq_true.1 hc.1) 0 (List.mem_range.2 (by omega))
      exact h (by rw [messageM_is w hp]; exact (message_ok w h0 h1 hc).2.2)
end Go.Proofs.YtiodikflmijhkaaGreatDoor