/- Joined texts: P1. -/
import Derived.WalkKit
import Derived.Laws.BitsAllLaws
import Derived.Laws.BitsLemmas
import Derived.Lib.BitFns
import Derived.Lib.TrailingZeros
namespace Go.Proofs.YtiodikflmijhkaaGreatDoor
set_option linter.unusedVariables false

def bitI (w i : Int) : Int := w / 2 ^ i.toNat % 2
def powI (i : Int) : Int := 2 ^ i.toNat
def xorI (a b : Int) : Int := ((a.toNat ^^^ b.toNat : Nat) : Int)
def andI (a b : Int) : Int := ((a.toNat &&& b.toNat : Nat) : Int)
def orI (a b : Int) : Int := ((a.toNat ||| b.toNat : Nat) : Int)
/-- The number of places below n in a word. -/
def wtTo (w : Int) : Nat → Int
  | 0 => 0
  | n + 1 => wtTo w n + bitI w n
def wt (w : Int) : Int := wtTo w 24

theorem bitI_01 (w i : Int) : bitI w i = 0 ∨ bitI w i = 1 := by unfold bitI; omega
theorem bitI_nonneg (w i : Int) : 0 ≤ bitI w i := by unfold bitI; omega
theorem bitI_le (w i : Int) : bitI w i ≤ 1 := by unfold bitI; omega

section
variable (k : IntKind) (hk : k.bits = 32 ∨ k.bits = 64) (hw : ∀ n : Int, 0 ≤ n → n < 2147483648 → k.wrap n = n)
include hk hw
theorem bits_of_xor (a b : Int) (h0 : 0 ≤ a) (h1 : a < 2147483648) (h2 : 0 ≤ b) (h3 : b < 2147483648) : bits .xor k a b = xorI a b := by
  obtain ⟨A, rfl⟩ := Int.eq_ofNat_of_zero_le h0
  obtain ⟨B, rfl⟩ := Int.eq_ofNat_of_zero_le h2
  have hx : A ^^^ B < 2 ^ 31 := Nat.xor_lt_two_pow (by omega) (by omega)
  show k.wrap ((BitVec.ofInt k.bits (A : Int) ^^^ BitVec.ofInt k.bits (B : Int)).toNat : Int) = _
  have hA : A % 2 ^ k.bits = A := Nat.mod_eq_of_lt (by rcases hk with h | h <;> rw [h] <;> omega)
  have hB : B % 2 ^ k.bits = B := Nat.mod_eq_of_lt (by rcases hk with h | h <;> rw [h] <;> omega)
  rw [BitVec.toNat_xor, BitVec.ofInt_natCast, BitVec.ofInt_natCast, BitVec.toNat_ofNat, BitVec.toNat_ofNat, hA, hB]
  unfold xorI
  rw [Int.toNat_natCast, Int.toNat_natCast]
  exact hw _ (by omega) (by omega)
theorem bits_of_and (a b : Int) (h0 : 0 ≤ a) (h1 : a < 2147483648) (h2 : 0 ≤ b) (h3 : b < 2147483648) : bits .and k a b = andI a b := by
  obtain ⟨A, rfl⟩ := Int.eq_ofNat_of_zero_le h0
  obtain ⟨B, rfl⟩ := Int.eq_ofNat_of_zero_le h2
  have hx : A &&& B < 2 ^ 31 := Nat.and_lt_two_pow _ (by omega)
  show k.wrap ((BitVec.ofInt k.bits (A : Int) &&& BitVec.ofInt k.bits (B : Int)).toNat : Int) = _
  have hA : A % 2 ^ k.bits = A := Nat.mod_eq_of_lt (by rcases hk with h | h <;> rw [h] <;> omega)
  have hB : B % 2 ^ k.bits = B := Nat.mod_eq_of_lt (by rcases hk with h | h <;> rw [h] <;> omega)
  rw [BitVec.toNat_and, BitVec.ofInt_natCast, BitVec.ofInt_natCast, BitVec.toNat_ofNat, BitVec.toNat_ofNat, hA, hB]
  unfold andI
  rw [Int.toNat_natCast, Int.toNat_natCast]
  exact hw _ (by omega) (by omega)
end

theorem wrap_u32_in (n : Int) (h0 : 0 ≤ n) (h1 : n < 2147483648) : IntKind.u32.wrap n = n := by rw [IntKind.wrap_u32]; omega
theorem wrap_i64_in (n : Int) (h0 : 0 ≤ n) (h1 : n < 2147483648) : IntKind.i64.wrap n = n := by rw [IntKind.wrap_i64]; omega
theorem xor_u32 (a b : Int) (h0 : 0 ≤ a) (h1 : a < 2147483648) (h2 : 0 ≤ b) (h3 : b < 2147483648) : bits .xor .u32 a b = xorI a b := bits_of_xor .u32 (by decide) wrap_u32_in a b h0 h1 h2 h3
theorem and_u32 (a b : Int) (h0 : 0 ≤ a) (h1 : a < 2147483648) (h2 : 0 ≤ b) (h3 : b < 2147483648) : bits .and .u32 a b = andI a b := bits_of_and .u32 (by decide) wrap_u32_in a b h0 h1 h2 h3
theorem xor_i64 (a b : Int) (h0 : 0 ≤ a) (h1 : a < 2147483648) (h2 : 0 ≤ b) (h3 : b < 2147483648) : bits .xor .i64 a b = xorI a b := bits_of_xor .i64 (by decide) wrap_i64_in a b h0 h1 h2 h3
theorem and_i64 (a b : Int) (h0 : 0 ≤ a) (h1 : a < 2147483648) (h2 : 0 ≤ b) (h3 : b < 2147483648) : bits .and .i64 a b = andI a b := bits_of_and .i64 (by decide) wrap_i64_in a b h0 h1 h2 h3
/-- n & 1 of any int. -/
theorem and1_i64 (n : Int) : bits .and .i64 n 1 = n % 2 := by
  show IntKind.i64.wrap ((BitVec.ofInt 64 n &&& BitVec.ofInt 64 1).toNat : Int) = _
  have e : (BitVec.ofInt 64 n &&& BitVec.ofInt 64 1).toNat = (n % 2).toNat := by
    have h1 : (BitVec.ofInt 64 1).toNat = 1 := by decide
    rw [BitVec.toNat_and, h1, Nat.and_one_is_mod, BitVec.toNat_ofInt]
    omega
  rw [e, IntKind.wrap_i64]
  omega

theorem and255_u32 (x : Int) (h0 : 0 ≤ x) (h1 : x < 4294967296) : bits .and .u32 x 255 = x % 256 :=
  bits_mask .u32 32 (by decide) (fun n h0 h1 => by rw [IntKind.wrap_u32]; omega) 8 (by decide) x h0 (by omega)

theorem xorI_le (a b : Int) (h1 : a ≤ 16777215) (h3 : b ≤ 16777215) : xorI a b ≤ 16777215 := by
  have : a.toNat ^^^ b.toNat < 2 ^ 24 := Nat.xor_lt_two_pow (by omega) (by omega)
  unfold xorI; omega
theorem andI_le (a b : Int) (h3 : b ≤ 16777215) : andI a b ≤ 16777215 := by
  have : a.toNat &&& b.toNat < 2 ^ 24 := Nat.and_lt_two_pow _ (by omega)
  unfold andI; omega
theorem xorI_nonneg (a b : Int) : 0 ≤ xorI a b := by unfold xorI; omega
theorem andI_nonneg (a b : Int) : 0 ≤ andI a b := by unfold andI; omega
theorem orI_nonneg (a b : Int) : 0 ≤ orI a b := by unfold orI; omega
theorem powI_vals (i : Int) (h0 : 0 ≤ i) (h1 : i ≤ 23) : powI i ∈ [(1 : Int), 2, 4, 8, 16, 32, 64, 128, 256, 512, 1024, 2048, 4096, 8192, 16384, 32768, 65536, 131072, 262144, 524288, 1048576, 2097152, 4194304, 8388608] := by
  obtain ⟨n, rfl⟩ := Int.eq_ofNat_of_zero_le h0
  have : n < 24 := by omega
  unfold powI
  rw [Int.toNat_natCast]
  clear h0 h1
  revert n
  decide
theorem powI_pos (i : Int) : 0 < powI i := by unfold powI; exact Int.pow_pos (by decide)
theorem powI_le (i : Int) (h0 : 0 ≤ i) (h1 : i ≤ 23) : powI i ≤ 8388608 := by
  have := powI_vals i h0 h1
  simp only [List.mem_cons, List.not_mem_nil, or_false] at this
  omega

theorem wtTo_range (w : Int) (n : Nat) : 0 ≤ wtTo w n ∧ wtTo w n ≤ n := by
  induction n with
  | zero => simp [wtTo]
  | succ n ih => have := bitI_01 w n; simp only [wtTo]; omega

/-- The bit as Nat.testBit. -/
theorem bitI_nat (n : Nat) (i : Nat) : bitI n i = if n.testBit i then 1 else 0 := by
  unfold bitI
  rw [Int.toNat_natCast, Nat.testBit_eq_decide_div_mod_eq]
  have : ((n : Int) / 2 ^ i % 2) = ((n / 2 ^ i % 2 : Nat) : Int) := by simp
  rw [this]
  have := Nat.mod_two_eq_zero_or_one (n / 2 ^ i)
  by_cases h : n / 2 ^ i % 2 = 1
  · simp [h]
  · have h0 : n / 2 ^ i % 2 = 0 := by omega
    simp [h0]

theorem and_pow (a i : Int) (h0 : 0 ≤ a) (h2 : 0 ≤ i) : andI a (powI i) = bitI a i * powI i := by
  obtain ⟨A, rfl⟩ := Int.eq_ofNat_of_zero_le h0
  obtain ⟨n, rfl⟩ := Int.eq_ofNat_of_zero_le h2
  unfold andI powI
  rw [bitI_nat, Int.toNat_natCast, Int.toNat_natCast]
  have e : ((2 : Int) ^ n).toNat = 2 ^ n := by
    rw [show ((2 : Int) ^ n) = ((2 ^ n : Nat) : Int) by simp, Int.toNat_natCast]
  rw [e]
  have f : A &&& 2 ^ n = if A.testBit n then 2 ^ n else 0 := by
    apply Nat.eq_of_testBit_eq
    intro i
    rw [Nat.testBit_and, Nat.testBit_two_pow]
    by_cases h : n = i
    · subst h
      cases A.testBit n <;> simp
    · cases A.testBit n <;> simp [h]
  rw [f]
  cases A.testBit n <;> simp
theorem wtTo_ext (a b : Int) (n : Nat) (h : ∀ i, i < n → bitI a i = bitI b i) : wtTo a n = wtTo b n := by
  induction n with
  | zero => rfl
  | succ n ih => simp only [wtTo]; rw [ih (fun i hi => h i (by omega)), h n (by omega)]

/-- The weight below a + b: the weight below a, and that of the rest below b. -/
theorem wtTo_add (w : Int) (a b : Nat) : wtTo w (a + b) = wtTo w a + wtTo (w / 2 ^ a) b := by
  induction b with
  | zero => simp [wtTo]
  | succ b ih =>
    rw [show a + (b + 1) = (a + b) + 1 from rfl]
    simp only [wtTo]
    rw [ih]
    have : bitI w ((a + b : Nat) : Int) = bitI (w / 2 ^ a) b := by
      unfold bitI
      rw [Int.toNat_natCast, Int.toNat_natCast, Int.pow_add, Int.ediv_ediv]
      have h2 : ¬ ((2 : Int) ^ a < 0) := by have : (0 : Int) < 2 ^ a := Int.pow_pos (by decide); omega
      simp [h2]
    rw [this]; omega

theorem wtTo_mod (w : Int) (h0 : 0 ≤ w) (n m : Nat) (h : n ≤ m) : wtTo (w % 2 ^ m) n = wtTo w n := by
  obtain ⟨W, rfl⟩ := Int.eq_ofNat_of_zero_le h0
  apply wtTo_ext
  intro i hi
  have : ((W : Int) % 2 ^ m) = ((W % 2 ^ m : Nat) : Int) := by simp
  rw [this, bitI_nat, bitI_nat, Nat.testBit_mod_two_pow]
  simp [show i < m by omega]

theorem pop8_wt : ∀ n : Fin 256, Lib.pop8 (n.val : Int) = wtTo (n.val : Int) 8 := by decide +kernel
theorem pop8_is (x : Int) (h0 : 0 ≤ x) (h1 : x < 256) : Lib.pop8 x = wtTo x 8 := by
  obtain ⟨X, rfl⟩ := Int.eq_ofNat_of_zero_le h0
  exact pop8_wt ⟨X, by omega⟩
theorem wt_bytes (w : Int) (h0 : 0 ≤ w) (h1 : w ≤ 16777215) :
    (Lib.pop8 0 + Lib.pop8 (w / 65536 % 256) + Lib.pop8 (w / 256 % 256) + Lib.pop8 (w % 256)) % 256 = wt w := by
  rw [pop8_is 0 (by omega) (by omega), pop8_is (w / 65536 % 256) (by omega) (by omega), pop8_is (w / 256 % 256) (by omega) (by omega), pop8_is (w % 256) (by omega) (by omega)]
  have a := wtTo_mod w h0 8 8 (by omega)
  have b := wtTo_mod (w / 256) (by omega) 8 8 (by omega)
  have c := wtTo_mod (w / 65536) (by omega) 8 8 (by omega)
  have d := wtTo_add w 8 16
  have e := wtTo_add (w / 256) 8 8
  have z : wtTo 0 8 = 0 := by decide
  have f : w / 256 / 256 = w / 65536 := by omega
  simp only [show (2 : Int) ^ 8 = 256 from rfl, show (8 + 16 : Nat) = 24 from rfl, show (8 + 8 : Nat) = 16 from rfl] at *
  have := wtTo_range w 24
  rw [a, b, c, z]
  unfold wt
  rw [f] at e
  omega
theorem wt_range (w : Int) : 0 ≤ wt w ∧ wt w ≤ 24 := wtTo_range w 24
end Go.Proofs.YtiodikflmijhkaaGreatDoor
/- The hexacode and the code as plain functions on numbers. No program is named here. -/
namespace Go.Proofs.YtiodikflmijhkaaGreatDoor
set_option linter.unusedVariables false

def mulD (a b : Int) : Int := if a = 0 ∨ b = 0 then 0 else 1 + (a + b - 2) % 3
def hexF (a b c x : Int) : Int := xorI (xorI (mulD a (mulD x x)) (mulD b x)) c
def hexRow (a b c : Int) : List Int := [a, b, c, hexF a b c 1, hexF a b c 2, hexF a b c 3]
def fillT : List Int := [0, 12, 10, 6, 15, 3, 5, 9, 14, 2, 4, 8, 1, 13, 11, 7]
def fillC (s p f : Int) : Int := fillT.getD (8 * p + 4 * f + s).toNat 0
/-- The places and the top parity of a message behind its columns 1 to j. -/
def ofTo (row : List Int) (m : Int) : Nat → Int × Int
  | 0 => (0, 0)
  | j + 1 => ((ofTo row m j).1 + fillC (row.getD (j + 1) 0) (m / 64 % 2) (bitI m (6 + ((j : Int) + 1))) * 2 ^ (4 * (j + 1)), xorI (ofTo row m j).2 (bitI m (6 + ((j : Int) + 1))))
def codeOf (m : Int) : Int :=
  (ofTo (hexRow (m % 4) (m / 4 % 4) (m / 16 % 4)) m 5).1 + fillC (m % 4) (m / 64 % 2) (xorI (ofTo (hexRow (m % 4) (m / 4 % 4) (m / 16 % 4)) m 5).2 (m / 64 % 2))

theorem mulD_range (a b : Int) (ha : 0 ≤ a) (ha' : a ≤ 3) (hb : 0 ≤ b) (hb' : b ≤ 3) : 0 ≤ mulD a b ∧ mulD a b ≤ 3 := by unfold mulD; split <;> omega
theorem xorI_lt4 (a b : Int) (ha' : a ≤ 3) (hb' : b ≤ 3) : xorI a b ≤ 3 := by
  have : a.toNat ^^^ b.toNat < 2 ^ 2 := Nat.xor_lt_two_pow (by omega) (by omega)
  unfold xorI; omega
theorem xorI_lt2 (a b : Int) (ha' : a ≤ 1) (hb' : b ≤ 1) : xorI a b ≤ 1 := by
  have : a.toNat ^^^ b.toNat < 2 ^ 1 := Nat.xor_lt_two_pow (by omega) (by omega)
  unfold xorI; omega
theorem hexF_range (a b c x : Int) (hc : c ≤ 3) (ha : 0 ≤ a) (ha' : a ≤ 3) (hb : 0 ≤ b) (hb' : b ≤ 3) (hx : 0 ≤ x) (hx' : x ≤ 3) : 0 ≤ hexF a b c x ∧ hexF a b c x ≤ 3 := by
  have h1 := mulD_range x x hx hx' hx hx'
  have h2 := mulD_range a (mulD x x) ha ha' h1.1 h1.2
  have h3 := mulD_range b x hb hb' hx hx'
  exact ⟨xorI_nonneg _ _, xorI_lt4 _ _ (xorI_lt4 _ _ h2.2 h3.2) hc⟩
theorem hexRow_range (a b c : Int) (ha : 0 ≤ a) (ha' : a ≤ 3) (hb : 0 ≤ b) (hb' : b ≤ 3) (hc : 0 ≤ c) (hc' : c ≤ 3) : ∀ i, 0 ≤ (hexRow a b c).getD i 0 ∧ (hexRow a b c).getD i 0 ≤ 3 := by
  have h1 := hexF_range a b c 1 hc' ha ha' hb hb' (by omega) (by omega)
  have h2 := hexF_range a b c 2 hc' ha ha' hb hb' (by omega) (by omega)
  have h3 := hexF_range a b c 3 hc' ha ha' hb hb' (by omega) (by omega)
  intro i
  match i with
  | 0 => exact ⟨ha, ha'⟩
  | 1 => exact ⟨hb, hb'⟩
  | 2 => exact ⟨hc, hc'⟩
  | 3 => exact h1
  | 4 => exact h2
  | 5 => exact h3
  | n + 6 => simp [hexRow]
theorem fillC_all : ∀ s : Fin 4, ∀ p : Fin 2, ∀ f : Fin 2, 0 ≤ fillC (s.val : Int) (p.val : Int) (f.val : Int) ∧ fillC (s.val : Int) (p.val : Int) (f.val : Int) ≤ 15 := by decide
theorem fillC_range (s p f : Int) (h1 : 0 ≤ s) (h2 : s ≤ 3) (h3 : 0 ≤ p) (h4 : p ≤ 1) (h5 : 0 ≤ f) (h6 : f ≤ 1) : 0 ≤ fillC s p f ∧ fillC s p f ≤ 15 := by
  obtain ⟨S, rfl⟩ := Int.eq_ofNat_of_zero_le h1
  obtain ⟨P, rfl⟩ := Int.eq_ofNat_of_zero_le h3
  obtain ⟨F, rfl⟩ := Int.eq_ofNat_of_zero_le h5
  exact fillC_all ⟨S, by omega⟩ ⟨P, by omega⟩ ⟨F, by omega⟩
theorem ofTo_range (row : List Int) (m : Int) (hrow : ∀ i, 0 ≤ row.getD i 0 ∧ row.getD i 0 ≤ 3) (j : Nat) (hj : j ≤ 5) :
    0 ≤ (ofTo row m j).1 ∧ (ofTo row m j).1 ≤ 16 ^ (j + 1) - 16 ∧ 0 ≤ (ofTo row m j).2 ∧ (ofTo row m j).2 ≤ 1 := by
  induction j with
  | zero => simp [ofTo]
  | succ j ih =>
    obtain ⟨h1, h2, h3, h4⟩ := ih (by omega)
    have hb := bitI_01 m (6 + ((j : Int) + 1))
    have hf := fillC_range (row.getD (j + 1) 0) (m / 64 % 2) (bitI m (6 + ((j : Int) + 1))) (hrow _).1 (hrow _).2 (by omega) (by omega) (by omega) (by omega)
    simp only [ofTo]
    generalize fillC (row.getD (j + 1) 0) (m / 64 % 2) (bitI m (6 + ((j : Int) + 1))) = f at *
    refine ⟨?_, ?_, xorI_nonneg _ _, xorI_lt2 _ _ h4 (by omega)⟩
    · have : (0 : Int) ≤ 2 ^ (4 * (j + 1)) := Int.le_of_lt (Int.pow_pos (by decide))
      have := Int.mul_nonneg hf.1 this
      omega
    · have hj' : j = 0 ∨ j = 1 ∨ j = 2 ∨ j = 3 ∨ j = 4 := by omega
      rcases hj' with rfl | rfl | rfl | rfl | rfl <;> simp at * <;> omega
theorem ofTo_le (row : List Int) (m : Int) (hrow : ∀ i, 0 ≤ row.getD i 0 ∧ row.getD i 0 ≤ 3) (j : Nat) (hj : j ≤ 5) : (ofTo row m j).1 ≤ 16777200 := by
  have h := (ofTo_range row m hrow j hj).2.1
  have hj' : j = 0 ∨ j = 1 ∨ j = 2 ∨ j = 3 ∨ j = 4 ∨ j = 5 := by omega
  rcases hj' with rfl | rfl | rfl | rfl | rfl | rfl <;> simp at h <;> omega
theorem fill_shift (f : Int) (j : Nat) (hj : j < 5) (h0 : 0 ≤ f) (h1 : f ≤ 15) : 0 ≤ f * 2 ^ (4 * (j + 1)) ∧ f * 2 ^ (4 * (j + 1)) ≤ 15728640 := by
  have hj' : j = 0 ∨ j = 1 ∨ j = 2 ∨ j = 3 ∨ j = 4 := by omega
  rcases hj' with rfl | rfl | rfl | rfl | rfl <;> simp <;> omega
theorem codeOf_range (m : Int) : 0 ≤ codeOf m ∧ codeOf m ≤ 16777215 := by
  have hr := hexRow_range (m % 4) (m / 4 % 4) (m / 16 % 4) (by omega) (by omega) (by omega) (by omega) (by omega) (by omega)
  obtain ⟨h1, h2, h3, h4⟩ := ofTo_range _ m hr 5 (by omega)
  have hf := fillC_range (m % 4) (m / 64 % 2) (xorI (ofTo (hexRow (m % 4) (m / 4 % 4) (m / 16 % 4)) m 5).2 (m / 64 % 2)) (by omega) (by omega) (by omega) (by omega) (xorI_nonneg _ _) (xorI_lt2 _ _ h4 (by omega))
  unfold codeOf
  simp at h2
  omega
theorem hexRow_step (a b c : Int) (k : Nat) (h : k < 3) : (hexRow a b c).take (3 + k) ++ [hexF a b c ((k : Int) + 1)] = (hexRow a b c).take (3 + (k + 1)) := by
  match k, h with
  | 0, _ => rfl
  | 1, _ => rfl
  | 2, _ => rfl
end Go.Proofs.YtiodikflmijhkaaGreatDoor
/- The places of a word in ascending order, and the lowest one of them: plain facts. -/
namespace Go.Proofs.YtiodikflmijhkaaGreatDoor
set_option linter.unusedVariables false

def plN (W N : Nat) : List Nat := (List.range N).filter fun i => W.testBit i
def pl (W : Nat) : List Nat := plN W 24
/-- The places as ints. -/
def plI (W : Nat) : List Int := (pl W).map fun (i : Nat) => (i : Int)

theorem plN_succ (W N : Nat) : plN W (N + 1) = plN W N ++ if W.testBit N then [N] else [] := by
  unfold plN
  rw [List.range_succ, List.filter_append]
  congr 1
  cases h : W.testBit N <;> simp [h]
theorem plN_none (W N : Nat) (h : ∀ j, j < N → W.testBit j = false) : plN W N = [] := by
  unfold plN
  rw [List.filter_eq_nil_iff]
  intro a ha
  simp [h a (List.mem_range.1 ha)]
theorem plN_head (W V k N : Nat) (hk : W.testBit k = true) (hv : V.testBit k = false) (hl : ∀ j, j < k → W.testBit j = false) (he : ∀ j, j ≠ k → V.testBit j = W.testBit j) (hN : k < N) :
    plN W N = k :: plN V N := by
  induction N with
  | zero => omega
  | succ N ih =>
    rw [plN_succ, plN_succ]
    by_cases h : k < N
    · rw [ih h, he N (by omega)]; rfl
    · obtain rfl : k = N := by omega
      rw [plN_none W k hl, plN_none V k (fun j hj => by rw [he j (by omega)]; exact hl j hj), hk, hv]
      rfl
theorem lowest_bits (W : Nat) (h0 : W ≠ 0) (h : W < 2 ^ 32) : ∃ m, W = 2 ^ Lib.ctz 32 W * (2 * m + 1) ∧ Lib.ctz 32 W < 32 := by
  have := Lib.ctzFrom_spec 32 W (by omega) h
  have e : Lib.ctz 32 W = Lib.ctzFrom 32 W := by simp [Lib.ctz, h0]
  rw [e]; exact this
theorem clear_low (k m : Nat) : (2 ^ k * (2 * m + 1)) &&& (2 ^ k * (2 * m + 1) - 1) = 2 ^ k * (2 * m) := by
  have hp : 0 < 2 ^ k := Nat.two_pow_pos k
  have e1 : 2 ^ k * (2 * m + 1) - 1 = 2 ^ k * (2 * m) + (2 ^ k - 1) := by rw [Nat.mul_add]; omega
  have e2 : 2 ^ k * (2 * m + 1) = 2 ^ k * (2 * m + 1) + 0 := rfl
  have e3 : 2 ^ k * (2 * m) = 2 ^ k * (2 * m) + 0 := rfl
  rw [e1]
  apply Nat.eq_of_testBit_eq
  intro i
  rw [Nat.testBit_and]
  rw [Nat.testBit_two_pow_mul_add (2 * m) (show 2 ^ k - 1 < 2 ^ k by omega) i]
  rw [show (2 ^ k * (2 * m + 1)).testBit i = (2 ^ k * (2 * m + 1) + 0).testBit i from rfl, Nat.testBit_two_pow_mul_add (2 * m + 1) hp i]
  rw [show (2 ^ k * (2 * m)).testBit i = (2 ^ k * (2 * m) + 0).testBit i from rfl, Nat.testBit_two_pow_mul_add (2 * m) hp i]
  by_cases hi : i < k
  · simp [hi]
  · simp only [hi, if_false]
    rcases Nat.eq_zero_or_pos (i - k) with h | h
    · rw [h]; simp
    · obtain ⟨j, hj⟩ : ∃ j, i - k = j + 1 := ⟨i - k - 1, by omega⟩
      rw [hj, Nat.testBit_succ, Nat.testBit_succ, show (2 * m + 1) / 2 = m by omega, show 2 * m / 2 = m by omega]
      simp
/-- One place less: the lowest one, and the rest. -/
theorem pl_step (W : Nat) (h0 : W ≠ 0) (h : W < 16777216) :
    pl W = Lib.ctz 32 W :: pl (W &&& (W - 1)) ∧ Lib.ctz 32 W < 24 ∧ (W &&& (W - 1)) < W ∧ (W &&& (W - 1)) < 16777216 := by
  obtain ⟨m, hm, hk⟩ := lowest_bits W h0 (by omega)
  generalize hkk : Lib.ctz 32 W = k at *
  have hp : 0 < 2 ^ k := Nat.two_pow_pos k
  have hle : 2 ^ k ≤ W := by rw [hm]; exact Nat.le_mul_of_pos_right _ (by omega)
  have hk24 : k < 24 := by
    apply Nat.lt_of_not_le
    intro hge
    have : 2 ^ 24 ≤ 2 ^ k := Nat.pow_le_pow_right (by decide) hge
    omega
  have hc : W &&& (W - 1) = 2 ^ k * (2 * m) := by
    have := clear_low k m
    rw [← hm] at this; exact this
  have hW : W = 2 ^ k * (2 * m) + 2 ^ k := by rw [hm, Nat.mul_add]; simp
  have hlt : 2 ^ k * (2 * m) < W := by omega
  refine ⟨?_, hk24, by omega, by omega⟩
  rw [hc]
  have tW : ∀ i, W.testBit i = if i < k then false else (2 * m + 1).testBit (i - k) := by
    intro i
    rw [hm, show (2 ^ k * (2 * m + 1)).testBit i = (2 ^ k * (2 * m + 1) + 0).testBit i from rfl, Nat.testBit_two_pow_mul_add (2 * m + 1) hp i]
    simp
  have tV : ∀ i, (2 ^ k * (2 * m)).testBit i = if i < k then false else (2 * m).testBit (i - k) := by
    intro i
    rw [show (2 ^ k * (2 * m)).testBit i = (2 ^ k * (2 * m) + 0).testBit i from rfl, Nat.testBit_two_pow_mul_add (2 * m) hp i]
    simp
  refine plN_head W _ k 24 ?_ ?_ ?_ ?_ hk24
  · rw [tW]; simp
  · rw [tV]; simp
  · intro j hj; rw [tW, if_pos hj]
  · intro j hj
    rw [tW, tV]
    by_cases h1 : j < k
    · rw [if_pos h1, if_pos h1]
    · rw [if_neg h1, if_neg h1]
      obtain ⟨q, hq⟩ : ∃ q, j - k = q + 1 := ⟨j - k - 1, by omega⟩
      rw [hq, Nat.testBit_succ, Nat.testBit_succ, show (2 * m + 1) / 2 = m by omega, show 2 * m / 2 = m by omega]
theorem pl_zero : pl 0 = [] := plN_none 0 24 (fun j _ => Nat.zero_testBit j)
theorem pl_lt (W : Nat) : ∀ x ∈ pl W, x < 24 := by
  intro x hx
  unfold pl plN at hx
  rw [List.mem_filter] at hx
  exact List.mem_range.1 hx.1
theorem pl_len (W : Nat) : (pl W).length ≤ 24 := by
  unfold pl plN
  have := List.length_filter_le (fun i => W.testBit i) (List.range 24)
  simpa using this
end Go.Proofs.YtiodikflmijhkaaGreatDoor
/- Digits, rows of six digits and the hexacode: plain facts. No program is named here. -/
namespace Go.Proofs.YtiodikflmijhkaaGreatDoor
set_option linter.unusedVariables false

def IsD (n : Int) : Prop := 0 ≤ n ∧ n ≤ 3
def NoD (n : Int) : Prop := n < 0 ∨ 3 < n
theorem isD_or (n : Int) : IsD n ∨ NoD n := by unfold IsD NoD; omega
theorem isD_not {n : Int} (h : IsD n) : ¬ NoD n := by unfold IsD at h; unfold NoD; omega
theorem IsD.fin {n : Int} (h : IsD n) : ∃ x : Fin 4, n = (x.val : Int) := by
  obtain ⟨N, rfl⟩ := Int.eq_ofNat_of_zero_le h.1
  exact ⟨⟨N, by have := h.2; omega⟩, rfl⟩
/-- A row: six digits. -/
def IsRow6 (xs : List Int) : Prop := xs.length = 6 ∧ ∀ x ∈ xs, IsD x
theorem IsRow6.six {xs : List Int} (h : IsRow6 xs) : ∃ a b c d e f : Int, xs = [a, b, c, d, e, f] ∧ IsD a ∧ IsD b ∧ IsD c ∧ IsD d ∧ IsD e ∧ IsD f := by
  obtain ⟨hl, hd⟩ := h
  match xs, hl with
  | [a, b, c, d, e, f], _ => exact ⟨a, b, c, d, e, f, rfl, hd a (by simp), hd b (by simp), hd c (by simp), hd d (by simp), hd e (by simp), hd f (by simp)⟩
theorem isRow6_mk {a b c d e f : Int} (ha : IsD a) (hb : IsD b) (hc : IsD c) (hd : IsD d) (he : IsD e) (hf : IsD f) : IsRow6 [a, b, c, d, e, f] := by
  refine ⟨rfl, ?_⟩
  intro x hx
  simp only [List.mem_cons, List.not_mem_nil, or_false] at hx
  rcases hx with rfl | rfl | rfl | rfl | rfl | rfl <;> assumption

def addR (a b : List Int) : List Int := List.zipWith xorI a b
def mulR (a : List Int) (n : Int) : List Int := a.map fun d => mulD d n
def nz (d : Int) : Int := if d = 0 then 0 else 1
def wtR (a : List Int) : Int := a.foldl (fun n d => n + nz d) 0
def sq (d : Int) : Int := mulD d d
def hexAt (k : Nat) : List Int := hexRow ((k : Int) / 16) ((k : Int) / 4 % 4) ((k : Int) % 4)
def InHex (xs : List Int) : Prop := ∃ a b c : Int, IsD a ∧ IsD b ∧ IsD c ∧ xs = hexRow a b c
def eqR (a b : List Int) : Bool := decide (a = b)
def hexB (xs : List Int) : Bool := eqR xs (hexRow (xs.getD 0 0) (xs.getD 1 0) (xs.getD 2 0))
theorem xorI_d {a b : Int} (ha : IsD a) (hb : IsD b) : IsD (xorI a b) := ⟨xorI_nonneg _ _, xorI_lt4 _ _ ha.2 hb.2⟩
theorem mulD_d {a b : Int} (ha : IsD a) (hb : IsD b) : IsD (mulD a b) := mulD_range a b ha.1 ha.2 hb.1 hb.2
theorem sq_d {a : Int} (ha : IsD a) : IsD (sq a) := mulD_d ha ha
theorem zero_d : IsD 0 := ⟨by omega, by omega⟩
theorem xorI_comm (a b : Int) : xorI a b = xorI b a := by unfold xorI; rw [Nat.xor_comm]
theorem xorI_self (a : Int) : xorI a a = 0 := by unfold xorI; rw [Nat.xor_self]; rfl
theorem xorI_zero (a : Int) (h : 0 ≤ a) : xorI a 0 = a := by unfold xorI; simp; omega
theorem zero_xorI (a : Int) (h : 0 ≤ a) : xorI 0 a = a := by rw [xorI_comm, xorI_zero a h]
theorem xorI_assoc (a b c : Int) : xorI (xorI a b) c = xorI a (xorI b c) := by unfold xorI; simp only [Int.toNat_natCast, Nat.xor_assoc]
theorem mul_comm4 : ∀ a b : Fin 4, mulD (a.val : Int) (b.val : Int) = mulD (b.val : Int) (a.val : Int) := by decide
theorem mul_add4 : ∀ a b c : Fin 4, mulD (a.val : Int) (xorI (b.val : Int) (c.val : Int)) = xorI (mulD (a.val : Int) (b.val : Int)) (mulD (a.val : Int) (c.val : Int)) := by decide
theorem mulD_comm {a b : Int} (ha : IsD a) (hb : IsD b) : mulD a b = mulD b a := by
  obtain ⟨a, rfl⟩ := ha.fin; obtain ⟨b, rfl⟩ := hb.fin; exact mul_comm4 a b
theorem mulD_add {a b c : Int} (ha : IsD a) (hb : IsD b) (hc : IsD c) : mulD a (xorI b c) = xorI (mulD a b) (mulD a c) := by
  obtain ⟨a, rfl⟩ := ha.fin; obtain ⟨b, rfl⟩ := hb.fin; obtain ⟨c, rfl⟩ := hc.fin; exact mul_add4 a b c
theorem add_mulD {a b c : Int} (ha : IsD a) (hb : IsD b) (hc : IsD c) : mulD (xorI a b) c = xorI (mulD a c) (mulD b c) := by
  rw [mulD_comm (xorI_d ha hb) hc, mulD_add hc ha hb, mulD_comm hc ha, mulD_comm hc hb]
theorem hexF_d {a b c x : Int} (ha : IsD a) (hb : IsD b) (hc : IsD c) (hx : IsD x) : IsD (hexF a b c x) := hexF_range a b c x hc.2 ha.1 ha.2 hb.1 hb.2 hx.1 hx.2
theorem hexRow_row {a b c : Int} (ha : IsD a) (hb : IsD b) (hc : IsD c) : IsRow6 (hexRow a b c) :=
  isRow6_mk ha hb hc (hexF_d ha hb hc ⟨by omega, by omega⟩) (hexF_d ha hb hc ⟨by omega, by omega⟩) (hexF_d ha hb hc ⟨by omega, by omega⟩)
theorem IsRow6.get {a : List Int} (ha : IsRow6 a) (i : Nat) : IsD (a.getD i 0) := by
  by_cases h : i < a.length
  · rw [List.getD_eq_getElem?_getD, List.getElem?_eq_getElem h]; exact ha.2 _ (List.getElem_mem _)
  · rw [List.getD_eq_getElem?_getD, List.getElem?_eq_none (by omega)]; exact zero_d
theorem hexF_add {a b c d e f x : Int} (ha : IsD a) (hb : IsD b) (hc : IsD c) (hd : IsD d) (he : IsD e) (hf : IsD f) (hx : IsD x) : xorI (hexF a b c x) (hexF d e f x) = hexF (xorI a d) (xorI b e) (xorI c f) x := by
  unfold hexF
  rw [add_mulD ha hd (mulD_d hx hx), add_mulD hb he hx]
  generalize mulD a (mulD x x) = p; generalize mulD d (mulD x x) = q; generalize mulD b x = r; generalize mulD e x = s
  unfold xorI
  simp only [Int.toNat_natCast]
  congr 1
  apply Nat.eq_of_testBit_eq
  intro i
  simp only [Nat.testBit_xor]
  cases p.toNat.testBit i <;> cases q.toNat.testBit i <;> cases r.toNat.testBit i <;> cases s.toNat.testBit i <;> cases c.toNat.testBit i <;> cases f.toNat.testBit i <;> rfl
theorem hexRow_add {a b c d e f : Int} (ha : IsD a) (hb : IsD b) (hc : IsD c) (hd : IsD d) (he : IsD e) (hf : IsD f) : addR (hexRow a b c) (hexRow d e f) = hexRow (xorI a d) (xorI b e) (xorI c f) := by
  show [_, _, _, _, _, _] = [_, _, _, _, _, _]
  rw [hexF_add ha hb hc hd he hf ⟨by omega, by omega⟩, hexF_add ha hb hc hd he hf ⟨by omega, by omega⟩, hexF_add ha hb hc hd he hf ⟨by omega, by omega⟩]
theorem hexB_iff {xs : List Int} (h : IsRow6 xs) : hexB xs = true ↔ InHex xs := by
  unfold hexB eqR
  rw [decide_eq_true_iff]
  constructor
  · intro e; exact ⟨_, _, _, h.get 0, h.get 1, h.get 2, e⟩
  · rintro ⟨a, b, c, _, _, _, rfl⟩; rfl
theorem InHex.row {xs : List Int} (h : InHex xs) : IsRow6 xs := by obtain ⟨a, b, c, ha, hb, hc, rfl⟩ := h; exact hexRow_row ha hb hc
theorem InHex.b {xs : List Int} (h : InHex xs) : hexB xs = true := (hexB_iff h.row).2 h
theorem InHex.add {a b : List Int} (ha : InHex a) (hb : InHex b) : InHex (addR a b) := by
  obtain ⟨d, e, f, hd, he, hf, rfl⟩ := hb
  obtain ⟨a, b, c, ha, hb, hc, rfl⟩ := ha
  exact ⟨_, _, _, xorI_d ha hd, xorI_d hb he, xorI_d hc hf, hexRow_add ha hb hc hd he hf⟩
theorem hexRow_of4 : ∀ a b c : Fin 4, ∀ n : Fin 4, mulR (hexRow (a.val : Int) (b.val : Int) (c.val : Int)) (n.val : Int) = hexRow (mulD (a.val : Int) (n.val : Int)) (mulD (b.val : Int) (n.val : Int)) (mulD (c.val : Int) (n.val : Int)) := by decide +kernel
theorem InHex.mul {a : List Int} {n : Int} (ha : InHex a) (hn : IsD n) : InHex (mulR a n) := by
  obtain ⟨a, b, c, ha, hb, hc, rfl⟩ := ha
  refine ⟨_, _, _, mulD_d ha hn, mulD_d hb hn, mulD_d hc hn, ?_⟩
  obtain ⟨a, rfl⟩ := ha.fin; obtain ⟨b, rfl⟩ := hb.fin; obtain ⟨c, rfl⟩ := hc.fin; obtain ⟨n, rfl⟩ := hn.fin
  exact hexRow_of4 a b c n
theorem wt_hex4 : ∀ a b c : Fin 4, wtR (hexRow (a.val : Int) (b.val : Int) (c.val : Int)) = 0 ∨ wtR (hexRow (a.val : Int) (b.val : Int) (c.val : Int)) = 4 ∨ wtR (hexRow (a.val : Int) (b.val : Int) (c.val : Int)) = 6 := by decide +kernel
theorem InHex.wt {a : List Int} (ha : InHex a) : wtR a = 0 ∨ wtR a = 4 ∨ wtR a = 6 := by
  obtain ⟨a, b, c, ha, hb, hc, rfl⟩ := ha
  obtain ⟨a, rfl⟩ := ha.fin; obtain ⟨b, rfl⟩ := hb.fin; obtain ⟨c, rfl⟩ := hc.fin
  exact wt_hex4 a b c
theorem InHex.at_ {xs : List Int} (h : InHex xs) : ∃ k, k < 64 ∧ xs = hexAt k := by
  obtain ⟨a, b, c, ha, hb, hc, rfl⟩ := h
  obtain ⟨a, rfl⟩ := ha.fin; obtain ⟨b, rfl⟩ := hb.fin; obtain ⟨c, rfl⟩ := hc.fin
  refine ⟨16 * a.val + 4 * b.val + c.val, by omega, ?_⟩
  unfold hexAt
  have h0 := a.isLt; have h1 := b.isLt; have h2 := c.isLt
  congr 1 <;> omega

/-! ### The nearest row -/
end Go.Proofs.YtiodikflmijhkaaGreatDoor