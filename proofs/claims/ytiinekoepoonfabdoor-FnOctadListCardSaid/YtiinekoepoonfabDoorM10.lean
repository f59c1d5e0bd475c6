/- Digits, rows of six digits and the hexacode: plain facts. No program is named here. -/
import Derived.Test.YtiinekoepoonfabDoorM4
namespace Go.Proofs.YtiinekoepoonfabDoor
set_option linter.unusedVariables false

def IsD (n : Int) : Prop := 0 ≤ n ∧ n ≤ 3
def NoD (n : Int) : Prop := n < 0 ∨ 3 < n
theorem isD_or (n : Int) : IsD n ∨ NoD n := by unfold IsD NoD; omega
theorem isD_not {n : Int} (h : IsD n) : ¬ NoD n := by unfold IsD at h; unfold NoD; omega
theorem IsD.fin {n : Int} (h : IsD n) : ∃ x : Fin 4, n = (x.val : Int) := by
  obtain ⟨N, rfl⟩ := Int.eq_ofNat_of_zero_le h.1
  exact ⟨⟨N, by have := h.2; omega⟩, rfl⟩
/-- A row: six digits. -/
def IsRow6 (xs : List Int) : Prop := xs.length = 6 ∧ ∀ x ∈ xs, IsD x
theorem IsRow6.six {xs : List Int} (h : IsRow6 xs) : ∃ a b c d e f : Int, xs = [a, b, c, d, e, f] ∧ IsD a ∧ IsD b ∧ IsD c ∧ IsD d ∧ IsD e ∧ IsD f := by
  obtain ⟨hl, hd⟩ := h
  match xs, hl with
  | [a, b, c, d, e, f], _ => exact ⟨a, b, c, d, e, f, rfl, hd a (by simp), hd b (by simp), hd c (by simp), hd d (by simp), hd e (by simp), hd f (by simp)⟩
theorem isRow6_mk {a b c d e f : Int} (ha : IsD a) (hb : IsD b) (hc : IsD c) (hd : IsD d) (he : IsD e) (hf : IsD f) : IsRow6 [a, b, c, d, e, f] := by
  refine ⟨rfl, ?_⟩
  intro x hx
  simp only [List.mem_cons, List.not_mem_nil, or_false] at hx
  rcases hx with rfl | rfl | rfl | rfl | rfl | rfl <;> assumption

def addR (a b : List Int) : List Int := List.zipWith xorI a b
def mulR (a : List Int) (n : Int) : List Int := a.map fun d => mulD d n
def nz (d : Int) : Int := if d = 0 then 0 else 1
def wtR (a : List Int) : Int := a.foldl (fun n d => n + nz d) 0
def sq (d : Int) : Int := mulD d d
def innTo (a b : List Int) : Nat → Int
  | 0 => 0
  | k + 1 => xorI (innTo a b k) (mulD (a.getD k 0) (sq (b.getD k 0)))
def innR (a b : List Int) : Int := innTo a b 6
def hexAt (k : Nat) : List Int := hexRow ((k : Int) / 16) ((k : Int) / 4 % 4) ((k : Int) % 4)
def InHex (xs : List Int) : Prop := ∃ a b c : Int, IsD a ∧ IsD b ∧ IsD c ∧ xs = hexRow a b c
def eqR (a b : List Int) : Bool := decide (a = b)
def hexB (xs : List Int) : Bool := eqR xs (hexRow (xs.getD 0 0) (xs.getD 1 0) (xs.getD 2 0))
/-- The nearest of the first k rows of the hexacode. -/
def nearTo (r : List Int) : Nat → List Int × Int
  | 0 => ([], 7)
  | k + 1 => if wtR (addR r (hexAt k)) < (nearTo r k).2 then (hexAt k, wtR (addR r (hexAt k))) else nearTo r k

theorem xorI_d {a b : Int} (ha : IsD a) (hb : IsD b) : IsD (xorI a b) := ⟨xorI_nonneg _ _, xorI_lt4 _ _ ha.2 hb.2⟩
theorem mulD_d {a b : Int} (ha : IsD a) (hb : IsD b) : IsD (mulD a b) := mulD_range a b ha.1 ha.2 hb.1 hb.2
theorem sq_d {a : Int} (ha : IsD a) : IsD (sq a) := mulD_d ha ha
theorem zero_d : IsD 0 := ⟨by omega, by omega⟩
theorem xorI_comm (a b : Int) : xorI a b = xorI b a := by unfold xorI; rw [Nat.xor_comm]
theorem xorI_self (a : Int) : xorI a a = 0 := by unfold xorI; rw [Nat.xor_self]; rfl
theorem xorI_zero (a : Int) (h : 0 ≤ a) : xorI a 0 = a := by unfold xorI; simp; omega
theorem zero_xorI (a : Int) (h : 0 ≤ a) : xorI 0 a = a := by rw [xorI_comm, xorI_zero a h]
theorem xorI_assoc (a b c : Int) : xorI (xorI a b) c = xorI a (xorI b c) := by unfold xorI; simp only [Int.toNat_natCast, Nat.xor_assoc]
theorem xorI_back (a b : Int) (h : 0 ≤ a) : xorI (xorI a b) b = a := by rw [xorI_assoc, xorI_self, xorI_zero a h]

theorem mul_comm4 : ∀ a b : Fin 4, mulD (a.val : Int) (b.val : Int) = mulD (b.val : Int) (a.val : Int) := by decide
theorem mul_zero4 : ∀ a b : Fin 4, (mulD (a.val : Int) (b.val : Int) = 0 ↔ (a.val : Int) = 0 ∨ (b.val : Int) = 0) := by decide
theorem mul_add4 : ∀ a b c : Fin 4, mulD (a.val : Int) (xorI (b.val : Int) (c.val : Int)) = xorI (mulD (a.val : Int) (b.val : Int)) (mulD (a.val : Int) (c.val : Int)) := by decide
theorem sq_add4 : ∀ a b : Fin 4, sq (xorI (a.val : Int) (b.val : Int)) = xorI (sq (a.val : Int)) (sq (b.val : Int)) := by decide
theorem sq_mul4 : ∀ a b : Fin 4, sq (mulD (a.val : Int) (sq (b.val : Int))) = mulD (b.val : Int) (sq (a.val : Int)) := by decide
theorem mul_thrice4 : ∀ a n : Fin 4, n.val ≠ 0 → mulD (mulD (mulD (a.val : Int) (n.val : Int)) (n.val : Int)) (n.val : Int) = (a.val : Int) := by decide
theorem nz_mul4 : ∀ a n : Fin 4, n.val ≠ 0 → nz (mulD (a.val : Int) (n.val : Int)) = nz (a.val : Int) := by decide
theorem mul_one4 : ∀ a : Fin 4, mulD (a.val : Int) 1 = (a.val : Int) := by decide

theorem mulD_comm {a b : Int} (ha : IsD a) (hb : IsD b) : mulD a b = mulD b a := by
  obtain ⟨a, rfl⟩ := ha.fin; obtain ⟨b, rfl⟩ := hb.fin; exact mul_comm4 a b
theorem mulD_add {a b c : Int} (ha : IsD a) (hb : IsD b) (hc : IsD c) : mulD a (xorI b c) = xorI (mulD a b) (mulD a c) := by
  obtain ⟨a, rfl⟩ := ha.fin; obtain ⟨b, rfl⟩ := hb.fin; obtain ⟨c, rfl⟩ := hc.fin; exact mul_add4 a b c
theorem add_mulD {a b c : Int} (ha : IsD a) (hb : IsD b) (hc : IsD c) : mulD (xorI a b) c = xorI (mulD a c) (mulD b c) := by
  rw [mulD_comm (xorI_d ha hb) hc, mulD_add hc ha hb, mulD_comm hc ha, mulD_comm hc hb]
theorem sq_add {a b : Int} (ha : IsD a) (hb : IsD b) : sq (xorI a b) = xorI (sq a) (sq b) := by
  obtain ⟨a, rfl⟩ := ha.fin; obtain ⟨b, rfl⟩ := hb.fin; exact sq_add4 a b
theorem sq_mul {a b : Int} (ha : IsD a) (hb : IsD b) : sq (mulD a (sq b)) = mulD b (sq a) := by
  obtain ⟨a, rfl⟩ := ha.fin; obtain ⟨b, rfl⟩ := hb.fin; exact sq_mul4 a b
theorem mulD_zero_iff {a b : Int} (ha : IsD a) (hb : IsD b) : mulD a b = 0 ↔ a = 0 ∨ b = 0 := by
  obtain ⟨a, rfl⟩ := ha.fin; obtain ⟨b, rfl⟩ := hb.fin; exact mul_zero4 a b
theorem mulD_next {a b : Int} (ha : IsD a) (hb : IsD b) : mulD a (xorI b 1) = xorI (mulD a b) a := by
  rw [mulD_add ha hb ⟨by omega, by omega⟩]
  obtain ⟨a, rfl⟩ := ha.fin
  rw [mul_one4]
theorem mulD_thrice {a n : Int} (ha : IsD a) (hn : IsD n) (h : n ≠ 0) : mulD (mulD (mulD a n) n) n = a := by
  obtain ⟨a, rfl⟩ := ha.fin; obtain ⟨n, rfl⟩ := hn.fin; exact mul_thrice4 a n (by omega)
theorem nz_mulD {a n : Int} (ha : IsD a) (hn : IsD n) (h : n ≠ 0) : nz (mulD a n) = nz a := by
  obtain ⟨a, rfl⟩ := ha.fin; obtain ⟨n, rfl⟩ := hn.fin; exact nz_mul4 a n (by omega)
theorem nz_01 (d : Int) : nz d = 0 ∨ nz d = 1 := by unfold nz; split <;> simp
theorem nz_zero (d : Int) : nz d = 0 ↔ d = 0 := by unfold nz; split <;> simp_all

theorem hexF_d {a b c x : Int} (ha : IsD a) (hb : IsD b) (hc : IsD c) (hx : IsD x) : IsD (hexF a b c x) := hexF_range a b c x hc.2 ha.1 ha.2 hb.1 hb.2 hx.1 hx.2
theorem hexRow_row {a b c : Int} (ha : IsD a) (hb : IsD b) (hc : IsD c) : IsRow6 (hexRow a b c) :=
  isRow6_mk ha hb hc (hexF_d ha hb hc ⟨by omega, by omega⟩) (hexF_d ha hb hc ⟨by omega, by omega⟩) (hexF_d ha hb hc ⟨by omega, by omega⟩)
theorem hexAt_row (k : Nat) (h : k < 64) : IsRow6 (hexAt k) := hexRow_row ⟨by omega, by omega⟩ ⟨by omega, by omega⟩ ⟨by omega, by omega⟩
theorem addR_row {a b : List Int} (ha : IsRow6 a) (hb : IsRow6 b) : IsRow6 (addR a b) := by
  obtain ⟨a0, a1, a2, a3, a4, a5, rfl, h0, h1, h2, h3, h4, h5⟩ := ha.six
  obtain ⟨b0, b1, b2, b3, b4, b5, rfl, g0, g1, g2, g3, g4, g5⟩ := hb.six
  exact isRow6_mk (xorI_d h0 g0) (xorI_d h1 g1) (xorI_d h2 g2) (xorI_d h3 g3) (xorI_d h4 g4) (xorI_d h5 g5)
theorem mulR_row {a : List Int} {n : Int} (ha : IsRow6 a) (hn : IsD n) : IsRow6 (mulR a n) := by
  obtain ⟨a0, a1, a2, a3, a4, a5, rfl, h0, h1, h2, h3, h4, h5⟩ := ha.six
  exact isRow6_mk (mulD_d h0 hn) (mulD_d h1 hn) (mulD_d h2 hn) (mulD_d h3 hn) (mulD_d h4 hn) (mulD_d h5 hn)
theorem addR_back {a b : List Int} (ha : IsRow6 a) (hb : IsRow6 b) : addR (addR a b) b = a := by
  obtain ⟨a0, a1, a2, a3, a4, a5, rfl, h0, h1, h2, h3, h4, h5⟩ := ha.six
  obtain ⟨b0, b1, b2, b3, b4, b5, rfl, _⟩ := hb.six
  show [_, _, _, _, _, _] = [_, _, _, _, _, _]
  rw [xorI_back _ _ h0.1, xorI_back _ _ h1.1, xorI_back _ _ h2.1, xorI_back _ _ h3.1, xorI_back _ _ h4.1, xorI_back _ _ h5.1]
theorem addR_comm (a b : List Int) : addR a b = addR b a := by
  unfold addR; rw [List.zipWith_comm]; congr 1; funext x y; exact xorI_comm _ _
theorem addR_assoc {a b c : List Int} (ha : IsRow6 a) (hb : IsRow6 b) (hc : IsRow6 c) : addR (addR a b) c = addR a (addR b c) := by
  obtain ⟨a0, a1, a2, a3, a4, a5, rfl, _⟩ := ha.six
  obtain ⟨b0, b1, b2, b3, b4, b5, rfl, _⟩ := hb.six
  obtain ⟨c0, c1, c2, c3, c4, c5, rfl, _⟩ := hc.six
  show [_, _, _, _, _, _] = [_, _, _, _, _, _]
  simp only [xorI_assoc]
theorem wtR_six (a b c d e f : Int) : wtR [a, b, c, d, e, f] = nz a + nz b + nz c + nz d + nz e + nz f := by simp [wtR]
theorem wtR_range {a : List Int} (ha : IsRow6 a) : 0 ≤ wtR a ∧ wtR a ≤ 6 := by
  obtain ⟨a0, a1, a2, a3, a4, a5, rfl, _⟩ := ha.six
  rw [wtR_six]
  have := nz_01 a0; have := nz_01 a1; have := nz_01 a2; have := nz_01 a3; have := nz_01 a4; have := nz_01 a5
  omega
theorem wtR_zero {a : List Int} (ha : IsRow6 a) : wtR a = 0 ↔ a = [0, 0, 0, 0, 0, 0] := by
  obtain ⟨a0, a1, a2, a3, a4, a5, rfl, _⟩ := ha.six
  rw [wtR_six]
  have k0 := nz_zero a0; have k1 := nz_zero a1; have k2 := nz_zero a2; have k3 := nz_zero a3; have k4 := nz_zero a4; have k5 := nz_zero a5
  have := nz_01 a0; have := nz_01 a1; have := nz_01 a2; have := nz_01 a3; have := nz_01 a4; have := nz_01 a5
  simp only [List.cons.injEq, and_true]
  omega
theorem mulR_thrice {a : List Int} {n : Int} (ha : IsRow6 a) (hn : IsD n) (h : n ≠ 0) : mulR (mulR (mulR a n) n) n = a := by
  obtain ⟨a0, a1, a2, a3, a4, a5, rfl, h0, h1, h2, h3, h4, h5⟩ := ha.six
  show [mulD (mulD (mulD a0 n) n) n, mulD (mulD (mulD a1 n) n) n, mulD (mulD (mulD a2 n) n) n, mulD (mulD (mulD a3 n) n) n, mulD (mulD (mulD a4 n) n) n, mulD (mulD (mulD a5 n) n) n] = _
  rw [mulD_thrice h0 hn h, mulD_thrice h1 hn h, mulD_thrice h2 hn h, mulD_thrice h3 hn h, mulD_thrice h4 hn h, mulD_thrice h5 hn h]
theorem wtR_mul {a : List Int} {n : Int} (ha : IsRow6 a) (hn : IsD n) (h : n ≠ 0) : wtR (mulR a n) = wtR a := by
  obtain ⟨a0, a1, a2, a3, a4, a5, rfl, h0, h1, h2, h3, h4, h5⟩ := ha.six
  show wtR [_, _, _, _, _, _] = _
  rw [wtR_six, wtR_six, nz_mulD h0 hn h, nz_mulD h1 hn h, nz_mulD h2 hn h, nz_mulD h3 hn h, nz_mulD h4 hn h, nz_mulD h5 hn h]
theorem innR_six (a b c d e f g h i j k l : Int) (h0 : 0 ≤ mulD a (sq g)) : innR [a, b, c, d, e, f] [g, h, i, j, k, l] = xorI (xorI (xorI (xorI (xorI (mulD a (sq g)) (mulD b (sq h))) (mulD c (sq i))) (mulD d (sq j))) (mulD e (sq k))) (mulD f (sq l)) := by
  show xorI (xorI (xorI (xorI (xorI (xorI 0 (mulD a (sq g))) (mulD b (sq h))) (mulD c (sq i))) (mulD d (sq j))) (mulD e (sq k))) (mulD f (sq l)) = _
  rw [zero_xorI _ h0]
theorem innR_d {a b : List Int} (ha : IsRow6 a) (hb : IsRow6 b) : IsD (innR a b) := by
  obtain ⟨a0, a1, a2, a3, a4, a5, rfl, h0, h1, h2, h3, h4, h5⟩ := ha.six
  obtain ⟨b0, b1, b2, b3, b4, b5, rfl, g0, g1, g2, g3, g4, g5⟩ := hb.six
  rw [innR_six _ _ _ _ _ _ _ _ _ _ _ _ (mulD_d h0 (sq_d g0)).1]
  exact xorI_d (xorI_d (xorI_d (xorI_d (xorI_d (mulD_d h0 (sq_d g0)) (mulD_d h1 (sq_d g1))) (mulD_d h2 (sq_d g2))) (mulD_d h3 (sq_d g3))) (mulD_d h4 (sq_d g4))) (mulD_d h5 (sq_d g5))
theorem innTo_d {a b : List Int} (ha : ∀ i, IsD (a.getD i 0)) (hb : ∀ i, IsD (b.getD i 0)) (k : Nat) : IsD (innTo a b k) := by
  induction k with
  | zero => exact zero_d
  | succ k ih => exact xorI_d ih (mulD_d (ha k) (sq_d (hb k)))
theorem IsRow6.get {a : List Int} (ha : IsRow6 a) (i : Nat) : IsD (a.getD i 0) := by
  by_cases h : i < a.length
  · rw [List.getD_eq_getElem?_getD, List.getElem?_eq_getElem h]; exact ha.2 _ (List.getElem_mem _)
  · rw [List.getD_eq_getElem?_getD, List.getElem?_eq_none (by omega)]; exact zero_d
theorem innR_turn {a b : List Int} (ha : IsRow6 a) (hb : IsRow6 b) : innR b a = mulD (innR a b) (innR a b) := by
  show _ = sq (innR a b)
  obtain ⟨a0, a1, a2, a3, a4, a5, rfl, h0, h1, h2, h3, h4, h5⟩ := ha.six
  obtain ⟨b0, b1, b2, b3, b4, b5, rfl, g0, g1, g2, g3, g4, g5⟩ := hb.six
  have m0 := mulD_d h0 (sq_d g0); have m1 := mulD_d h1 (sq_d g1); have m2 := mulD_d h2 (sq_d g2)
  have m3 := mulD_d h3 (sq_d g3); have m4 := mulD_d h4 (sq_d g4); have m5 := mulD_d h5 (sq_d g5)
  rw [innR_six _ _ _ _ _ _ _ _ _ _ _ _ m0.1, innR_six _ _ _ _ _ _ _ _ _ _ _ _ (mulD_d g0 (sq_d h0)).1,
    sq_add (xorI_d (xorI_d (xorI_d (xorI_d m0 m1) m2) m3) m4) m5, sq_add (xorI_d (xorI_d (xorI_d m0 m1) m2) m3) m4, sq_add (xorI_d (xorI_d m0 m1) m2) m3, sq_add (xorI_d m0 m1) m2, sq_add m0 m1,
    sq_mul h0 g0, sq_mul h1 g1, sq_mul h2 g2, sq_mul h3 g3, sq_mul h4 g4, sq_mul h5 g5]
theorem innTo_add {a b c : List Int} (ha : ∀ i, IsD (a.getD i 0)) (hb : ∀ i, IsD (b.getD i 0)) (hc : ∀ i, IsD (c.getD i 0)) (hs : ∀ i, i < 6 → (addR a b).getD i 0 = xorI (a.getD i 0) (b.getD i 0)) (k : Nat) (hk : k ≤ 6) :
    innTo (addR a b) c k = xorI (innTo a c k) (innTo b c k) := by
  induction k with
  | zero => show (0 : Int) = xorI 0 0; rw [xorI_self]
  | succ k ih =>
    simp only [innTo]
    rw [ih (by omega), hs k (by omega), add_mulD (ha k) (hb k) (sq_d (hc k))]
    generalize innTo a c k = p; generalize innTo b c k = q; generalize mulD (a.getD k 0) (sq (c.getD k 0)) = r; generalize mulD (b.getD k 0) (sq (c.getD k 0)) = s
    rw [xorI_assoc, ← xorI_assoc q r s, xorI_comm q r, xorI_assoc r q s, ← xorI_assoc]
theorem addR_get {a b : List Int} (ha : IsRow6 a) (hb : IsRow6 b) (i : Nat) (hi : i < 6) : (addR a b).getD i 0 = xorI (a.getD i 0) (b.getD i 0) := by
  obtain ⟨a0, a1, a2, a3, a4, a5, rfl, _⟩ := ha.six
  obtain ⟨b0, b1, b2, b3, b4, b5, rfl, _⟩ := hb.six
  match i, hi with
  | 0, _ => rfl
  | 1, _ => rfl
  | 2, _ => rfl
  | 3, _ => rfl
  | 4, _ => rfl
  | 5, _ => rfl
theorem innR_add {a b c : List Int} (ha : IsRow6 a) (hb : IsRow6 b) (hc : IsRow6 c) : innR (addR a b) c = xorI (innR a c) (innR b c) := innTo_add ha.get hb.get hc.get (addR_get ha hb) 6 (by omega)

theorem hexF_add {a b c d e f x : Int} (ha : IsD a) (hb : IsD b) (hc : IsD c) (hd : IsD d) (he : IsD e) (hf : IsD f) (hx : IsD x) : xorI (hexF a b c x) (hexF d e f x) = hexF (xorI a d) (xorI b e) (xorI c f) x := by
  unfold hexF
  rw [add_mulD ha hd (mulD_d hx hx), add_mulD hb he hx]
  generalize mulD a (mulD x x) = p; generalize mulD d (mulD x x) = q; generalize mulD b x = r; generalize mulD e x = s
  unfold xorI
  simp only [Int.toNat_natCast]
  congr 1
  apply Nat.eq_of_testBit_eq
  intro i
  simp only [Nat.testBit_xor]
  cases p.toNat.testBit i <;> cases q.toNat.testBit i <;> cases r.toNat.testBit i <;> cases s.toNat.testBit i <;> cases c.toNat.testBit i <;> cases f.toNat.testBit i <;> rfl
theorem hexRow_add {a b c d e f : Int} (ha : IsD a) (hb : IsD b) (hc : IsD c) (hd : IsD d) (he : IsD e) (hf : IsD f) : addR (hexRow a b c) (hexRow d e f) = hexRow (xorI a d) (xorI b e) (xorI c f) := by
  show [_, _, _, _, _, _] = [_, _, _, _, _, _]
  rw [hexF_add ha hb hc hd he hf ⟨by omega, by omega⟩, hexF_add ha hb hc hd he hf ⟨by omega, by omega⟩, hexF_add ha hb hc hd he hf ⟨by omega, by omega⟩]
theorem hexRow_inj {a b c d e f : Int} (h : hexRow a b c = hexRow d e f) : a = d ∧ b = e ∧ c = f := by
  simp only [hexRow, List.cons.injEq] at h; exact ⟨h.1, h.2.1, h.2.2.1⟩
theorem hexB_iff {xs : List Int} (h : IsRow6 xs) : hexB xs = true ↔ InHex xs := by
  unfold hexB eqR
  rw [decide_eq_true_iff]
  constructor
  · intro e; exact ⟨_, _, _, h.get 0, h.get 1, h.get 2, e⟩
  · rintro ⟨a, b, c, _, _, _, rfl⟩; rfl
theorem InHex.row {xs : List Int} (h : InHex xs) : IsRow6 xs := by obtain ⟨a, b, c, ha, hb, hc, rfl⟩ := h; exact hexRow_row ha hb hc
theorem InHex.b {xs : List Int} (h : InHex xs) : hexB xs = true := (hexB_iff h.row).2 h
theorem InHex.add {a b : List Int} (ha : InHex a) (hb : InHex b) : InHex (addR a b) := by
  obtain ⟨d, e, f, hd, he, hf, rfl⟩ := hb
  obtain ⟨a, b, c, ha, hb, hc, rfl⟩ := ha
  exact ⟨_, _, _, xorI_d ha hd, xorI_d hb he, xorI_d hc hf, hexRow_add ha hb hc hd he hf⟩
theorem hexRow_of4 : ∀ a b c : Fin 4, ∀ n : Fin 4, mulR (hexRow (a.val : Int) (b.val : Int) (c.val : Int)) (n.val : Int) = hexRow (mulD (a.val : Int) (n.val : Int)) (mulD (b.val : Int) (n.val : Int)) (mulD (c.val : Int) (n.val : Int)) := by decide +kernel
theorem InHex.mul {a : List Int} {n : Int} (ha : InHex a) (hn : IsD n) : InHex (mulR a n) := by
  obtain ⟨a, b, c, ha, hb, hc, rfl⟩ := ha
  refine ⟨_, _, _, mulD_d ha hn, mulD_d hb hn, mulD_d hc hn, ?_⟩
  obtain ⟨a, rfl⟩ := ha.fin; obtain ⟨b, rfl⟩ := hb.fin; obtain ⟨c, rfl⟩ := hc.fin; obtain ⟨n, rfl⟩ := hn.fin
  exact hexRow_of4 a b c n
theorem inn_hex4 : ∀ a b c d e f : Fin 4, innR (hexRow (a.val : Int) (b.val : Int) (c.val : Int)) (hexRow (d.val : Int) (e.val : Int) (f.val : Int)) = 0 := by decide +kernel
theorem InHex.inn {a b : List Int} (ha : InHex a) (hb : InHex b) : innR a b = 0 := by
  obtain ⟨d, e, f, hd, he, hf, rfl⟩ := hb
  obtain ⟨a, b, c, ha, hb, hc, rfl⟩ := ha
  obtain ⟨a, rfl⟩ := ha.fin; obtain ⟨b, rfl⟩ := hb.fin; obtain ⟨c, rfl⟩ := hc.fin
  obtain ⟨d, rfl⟩ := hd.fin; obtain ⟨e, rfl⟩ := he.fin; obtain ⟨f, rfl⟩ := hf.fin
  exact inn_hex4 a b c d e f
theorem wt_hex4 : ∀ a b c : Fin 4, wtR (hexRow (a.val : Int) (b.val : Int) (c.val : Int)) = 0 ∨ wtR (hexRow (a.val : Int) (b.val : Int) (c.val : Int)) = 4 ∨ wtR (hexRow (a.val : Int) (b.val : Int) (c.val : Int)) = 6 := by decide +kernel
theorem InHex.wt {a : List Int} (ha : InHex a) : wtR a = 0 ∨ wtR a = 4 ∨ wtR a = 6 := by
  obtain ⟨a, b, c, ha, hb, hc, rfl⟩ := ha
  obtain ⟨a, rfl⟩ := ha.fin; obtain ⟨b, rfl⟩ := hb.fin; obtain ⟨c, rfl⟩ := hc.fin
  exact wt_hex4 a b c
theorem hexAt_in (k : Nat) (h : k < 64) : InHex (hexAt k) := ⟨_, _, _, ⟨by omega, by omega⟩, ⟨by omega, by omega⟩, ⟨by omega, by omega⟩, rfl⟩
theorem InHex.at_ {xs : List Int} (h : InHex xs) : ∃ k, k < 64 ∧ xs = hexAt k := by
  obtain ⟨a, b, c, ha, hb, hc, rfl⟩ := h
  obtain ⟨a, rfl⟩ := ha.fin; obtain ⟨b, rfl⟩ := hb.fin; obtain ⟨c, rfl⟩ := hc.fin
  refine ⟨16 * a.val + 4 * b.val + c.val, by omega, ?_⟩
  unfold hexAt
  have h0 := a.isLt; have h1 := b.isLt; have h2 := c.isLt
  congr 1 <;> omega

/-! ### The nearest row -/
theorem nearTo_inv {r : List Int} (hr : IsRow6 r) (k : Nat) (hk : k ≤ 64) : (k = 0 ∨ InHex (nearTo r k).1 ∧ (nearTo r k).2 = wtR (addR r (nearTo r k).1)) ∧ (∀ j, j < k → (nearTo r k).2 ≤ wtR (addR r (hexAt j))) := by
  induction k with
  | zero => exact ⟨.inl rfl, fun j hj => by omega⟩
  | succ k ih =>
    obtain ⟨h1, h2⟩ := ih (by omega)
    have hw := wtR_range (addR_row hr (hexAt_row k (by omega)))
    simp only [nearTo]
    by_cases h : wtR (addR r (hexAt k)) < (nearTo r k).2
    · rw [if_pos h]
      refine ⟨.inr ⟨hexAt_in k (by omega), rfl⟩, fun j hj => ?_⟩
      by_cases e : j = k
      · subst e; exact Int.le_refl _
      · have := h2 j (by omega); show wtR (addR r (hexAt k)) ≤ _; omega
    · rw [if_neg h]
      refine ⟨?_, fun j hj => ?_⟩
      · rcases h1 with rfl | h1
        · exact absurd (show wtR (addR r (hexAt 0)) < 7 by omega) h
        · exact .inr h1
      · by_cases e : j = k
        · subst e; omega
        · exact h2 j (by omega)
theorem near_syn : ∀ s t u : Fin 4, ∃ k : Fin 64, wtR (addR [0, 0, 0, (s.val : Int), (t.val : Int), (u.val : Int)] (hexAt k.val)) ≤ 2 := by decide +kernel
theorem row_split {r : List Int} (hr : IsRow6 r) : ∃ s t u : Int, IsD s ∧ IsD t ∧ IsD u ∧ r = addR [0, 0, 0, s, t, u] (hexRow (r.getD 0 0) (r.getD 1 0) (r.getD 2 0)) := by
  obtain ⟨a, b, c, d, e, f, rfl, h0, h1, h2, h3, h4, h5⟩ := hr.six
  have g1 := hexF_d (x := 1) h0 h1 h2 ⟨by omega, by omega⟩
  have g2 := hexF_d (x := 2) h0 h1 h2 ⟨by omega, by omega⟩
  have g3 := hexF_d (x := 3) h0 h1 h2 ⟨by omega, by omega⟩
  refine ⟨xorI d (hexF a b c 1), xorI e (hexF a b c 2), xorI f (hexF a b c 3), xorI_d h3 g1, xorI_d h4 g2, xorI_d h5 g3, ?_⟩
  show [a, b, c, d, e, f] = [xorI 0 a, xorI 0 b, xorI 0 c, xorI (xorI d (hexF a b c 1)) (hexF a b c 1), xorI (xorI e (hexF a b c 2)) (hexF a b c 2), xorI (xorI f (hexF a b c 3)) (hexF a b c 3)]
  rw [zero_xorI _ h0.1, zero_xorI _ h1.1, zero_xorI _ h2.1, xorI_back _ _ h3.1, xorI_back _ _ h4.1, xorI_back _ _ h5.1]
theorem near_le {r : List Int} (hr : IsRow6 r) : (nearTo r 64).2 ≤ 2 := by
  obtain ⟨s, t, u, hs, ht, hu, he⟩ := row_split hr
  have hz : IsRow6 [0, 0, 0, s, t, u] := isRow6_mk zero_d zero_d zero_d hs ht hu
  obtain ⟨S, rfl⟩ := hs.fin; obtain ⟨T, rfl⟩ := ht.fin; obtain ⟨U, rfl⟩ := hu.fin
  obtain ⟨k, hk⟩ := near_syn S T U
  have hh : InHex (hexRow (r.getD 0 0) (r.getD 1 0) (r.getD 2 0)) := ⟨_, _, _, hr.get 0, hr.get 1, hr.get 2, rfl⟩
  obtain ⟨j, hj, hje⟩ := ((hexAt_in k.val k.isLt).add hh).at_
  have h2 := (nearTo_inv hr 64 (by omega)).2 j hj
  have : addR r (hexAt j) = addR [0, 0, 0, (S.val : Int), (T.val : Int), (U.val : Int)] (hexAt k.val) := by
    rw [← hje, addR_comm (hexAt k.val), ← addR_assoc hr hh.row (hexAt_row k.val k.isLt)]
    congr 1
    conv => lhs; arg 1; rw [he]
    exact addR_back hz hh.row
  rw [this] at h2
  omega
theorem addR_zero {a b : List Int} (ha : IsRow6 a) (hb : IsRow6 b) (h : addR a b = [0, 0, 0, 0, 0, 0]) : a = b := by
  rw [← addR_back ha hb, h, addR_comm]
  obtain ⟨b0, b1, b2, b3, b4, b5, rfl, g0, g1, g2, g3, g4, g5⟩ := hb.six
  show [_, _, _, _, _, _] = _
  rw [xorI_zero _ g0.1, xorI_zero _ g1.1, xorI_zero _ g2.1, xorI_zero _ g3.1, xorI_zero _ g4.1, xorI_zero _ g5.1]
theorem addR_self {a : List Int} (ha : IsRow6 a) : addR a a = [0, 0, 0, 0, 0, 0] := by
  obtain ⟨b0, b1, b2, b3, b4, b5, rfl, g0, g1, g2, g3, g4, g5⟩ := ha.six
  show [_, _, _, _, _, _] = _
  simp only [xorI_self]
/-- What the nearest row is. -/
theorem near_is {r : List Int} (hr : IsRow6 r) : InHex (nearTo r 64).1 ∧ (nearTo r 64).2 = wtR (addR (nearTo r 64).1 r) ∧ 0 ≤ (nearTo r 64).2 ∧ (nearTo r 64).2 ≤ 2 ∧ ((nearTo r 64).2 = 0 ↔ InHex r) := by
  obtain ⟨h1, h2⟩ := nearTo_inv hr 64 (by omega)
  rcases h1 with h1 | ⟨h3, h4⟩
  · omega
  · have hw := wtR_range (addR_row hr h3.row)
    refine ⟨h3, by rw [h4, addR_comm], by omega, near_le hr, fun h => ?_, fun h => ?_⟩
    · rw [h4] at h
      have := addR_zero hr h3.row ((wtR_zero (addR_row hr h3.row)).1 h)
      rw [this]; exact h3
    · obtain ⟨k, hk, rfl⟩ := h.at_
      have := h2 k hk
      rw [addR_self (hexAt_row k hk), (wtR_zero (isRow6_mk zero_d zero_d zero_d zero_d zero_d zero_d)).2 rfl] at this
      omega
end Go.Proofs.YtiinekoepoonfabDoor
