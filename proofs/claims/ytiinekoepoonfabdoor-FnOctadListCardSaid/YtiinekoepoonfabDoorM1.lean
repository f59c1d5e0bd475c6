/- Plain facts on words as numbers: bits, exclusive or, meet, difference, weight. No program is named here. -/
import Derived.WalkKit
import Derived.Laws.BitsAllLaws
import Derived.Laws.BitsLemmas
import Derived.Lib.BitFns
namespace Go.Proofs.YtiinekoepoonfabDoor
set_option linter.unusedVariables false

def bitI (w i : Int) : Int := w / 2 ^ i.toNat % 2
def powI (i : Int) : Int := 2 ^ i.toNat
def xorI (a b : Int) : Int := ((a.toNat ^^^ b.toNat : Nat) : Int)
def andI (a b : Int) : Int := ((a.toNat &&& b.toNat : Nat) : Int)
def orI (a b : Int) : Int := ((a.toNat ||| b.toNat : Nat) : Int)
def lessI (a b : Int) : Int := ((a.toNat ^^^ (a.toNat &&& b.toNat) : Nat) : Int)
/-- The number of places below n in a word. -/
def wtTo (w : Int) : Nat → Int
  | 0 => 0
  | n + 1 => wtTo w n + bitI w n
def wt (w : Int) : Int := wtTo w 24

theorem bitI_01 (w i : Int) : bitI w i = 0 ∨ bitI w i = 1 := by unfold bitI; omega
theorem bitI_nonneg (w i : Int) : 0 ≤ bitI w i := by unfold bitI; omega
theorem bitI_le (w i : Int) : bitI w i ≤ 1 := by unfold bitI; omega

section
variable (k : IntKind) (hk : k.bits = 32 ∨ k.bits = 64) (hw : ∀ n : Int, 0 ≤ n → n < 2147483648 → k.wrap n = n)
include hk hw
theorem bits_of_xor (a b : Int) (h0 : 0 ≤ a) (h1 : a < 2147483648) (h2 : 0 ≤ b) (h3 : b < 2147483648) : bits .xor k a b = xorI a b := by
  obtain ⟨A, rfl⟩ := Int.eq_ofNat_of_zero_le h0
  obtain ⟨B, rfl⟩ := Int.eq_ofNat_of_zero_le h2
  have hx : A ^^^ B < 2 ^ 31 := Nat.xor_lt_two_pow (by omega) (by omega)
  show k.wrap ((BitVec.ofInt k.bits (A : Int) ^^^ BitVec.ofInt k.bits (B : Int)).toNat : Int) = _
  have hA : A % 2 ^ k.bits = A := Nat.mod_eq_of_lt (by rcases hk with h | h <;> rw [h] <;> omega)
  have hB : B % 2 ^ k.bits = B := Nat.mod_eq_of_lt (by rcases hk with h | h <;> rw [h] <;> omega)
  rw [BitVec.toNat_xor, BitVec.ofInt_natCast, BitVec.ofInt_natCast, BitVec.toNat_ofNat, BitVec.toNat_ofNat, hA, hB]
  unfold xorI
  rw [Int.toNat_natCast, Int.toNat_natCast]
  exact hw _ (by omega) (by omega)
theorem bits_of_and (a b : Int) (h0 : 0 ≤ a) (h1 : a < 2147483648) (h2 : 0 ≤ b) (h3 : b < 2147483648) : bits .and k a b = andI a b := by
  obtain ⟨A, rfl⟩ := Int.eq_ofNat_of_zero_le h0
  obtain ⟨B, rfl⟩ := Int.eq_ofNat_of_zero_le h2
  have hx : A &&& B < 2 ^ 31 := Nat.and_lt_two_pow _ (by omega)
  show k.wrap ((BitVec.ofInt k.bits (A : Int) &&& BitVec.ofInt k.bits (B : Int)).toNat : Int) = _
  have hA : A % 2 ^ k.bits = A := Nat.mod_eq_of_lt (by rcases hk with h | h <;> rw [h] <;> omega)
  have hB : B % 2 ^ k.bits = B := Nat.mod_eq_of_lt (by rcases hk with h | h <;> rw [h] <;> omega)
  rw [BitVec.toNat_and, BitVec.ofInt_natCast, BitVec.ofInt_natCast, BitVec.toNat_ofNat, BitVec.toNat_ofNat, hA, hB]
  unfold andI
  rw [Int.toNat_natCast, Int.toNat_natCast]
  exact hw _ (by omega) (by omega)
theorem bits_of_or (a b : Int) (h0 : 0 ≤ a) (h1 : a < 2147483648) (h2 : 0 ≤ b) (h3 : b < 2147483648) : bits .or k a b = orI a b := by
  obtain ⟨A, rfl⟩ := Int.eq_ofNat_of_zero_le h0
  obtain ⟨B, rfl⟩ := Int.eq_ofNat_of_zero_le h2
  have hx : A ||| B < 2 ^ 31 := Nat.or_lt_two_pow (by omega) (by omega)
  show k.wrap ((BitVec.ofInt k.bits (A : Int) ||| BitVec.ofInt k.bits (B : Int)).toNat : Int) = _
  have hA : A % 2 ^ k.bits = A := Nat.mod_eq_of_lt (by rcases hk with h | h <;> rw [h] <;> omega)
  have hB : B % 2 ^ k.bits = B := Nat.mod_eq_of_lt (by rcases hk with h | h <;> rw [h] <;> omega)
  rw [BitVec.toNat_or, BitVec.ofInt_natCast, BitVec.ofInt_natCast, BitVec.toNat_ofNat, BitVec.toNat_ofNat, hA, hB]
  unfold orI
  rw [Int.toNat_natCast, Int.toNat_natCast]
  exact hw _ (by omega) (by omega)
theorem bits_of_less (a b : Int) (h0 : 0 ≤ a) (h1 : a < 2147483648) (h2 : 0 ≤ b) (h3 : b < 2147483648) : bits .andNot k a b = lessI a b := by
  obtain ⟨A, rfl⟩ := Int.eq_ofNat_of_zero_le h0
  obtain ⟨B, rfl⟩ := Int.eq_ofNat_of_zero_le h2
  have hx : A &&& B < 2 ^ 31 := Nat.and_lt_two_pow _ (by omega)
  have hy : A ^^^ (A &&& B) < 2 ^ 31 := Nat.xor_lt_two_pow (by omega) hx
  show k.wrap ((BitVec.ofInt k.bits (A : Int) &&& ~~~BitVec.ofInt k.bits (B : Int)).toNat : Int) = _
  have hA : A % 2 ^ k.bits = A := Nat.mod_eq_of_lt (by rcases hk with h | h <;> rw [h] <;> omega)
  have hB : B % 2 ^ k.bits = B := Nat.mod_eq_of_lt (by rcases hk with h | h <;> rw [h] <;> omega)
  have e : (BitVec.ofInt k.bits (A : Int) &&& ~~~BitVec.ofInt k.bits (B : Int)) = (BitVec.ofInt k.bits (A : Int) ^^^ (BitVec.ofInt k.bits (A : Int) &&& BitVec.ofInt k.bits (B : Int))) := by
    apply BitVec.eq_of_getLsbD_eq
    intro i hi
    simp only [BitVec.getLsbD_and, BitVec.getLsbD_not, BitVec.getLsbD_xor, hi, decide_true, Bool.true_and]
    cases (BitVec.ofInt k.bits (A : Int)).getLsbD i <;> cases (BitVec.ofInt k.bits (B : Int)).getLsbD i <;> rfl
  rw [e, BitVec.toNat_xor, BitVec.toNat_and, BitVec.ofInt_natCast, BitVec.ofInt_natCast, BitVec.toNat_ofNat, BitVec.toNat_ofNat, hA, hB]
  unfold lessI
  rw [Int.toNat_natCast, Int.toNat_natCast]
  exact hw _ (by omega) (by omega)
end

theorem wrap_u32_in (n : Int) (h0 : 0 ≤ n) (h1 : n < 2147483648) : IntKind.u32.wrap n = n := by rw [IntKind.wrap_u32]; omega
theorem wrap_i64_in (n : Int) (h0 : 0 ≤ n) (h1 : n < 2147483648) : IntKind.i64.wrap n = n := by rw [IntKind.wrap_i64]; omega
theorem xor_u32 (a b : Int) (h0 : 0 ≤ a) (h1 : a < 2147483648) (h2 : 0 ≤ b) (h3 : b < 2147483648) : bits .xor .u32 a b = xorI a b := bits_of_xor .u32 (by decide) wrap_u32_in a b h0 h1 h2 h3
theorem and_u32 (a b : Int) (h0 : 0 ≤ a) (h1 : a < 2147483648) (h2 : 0 ≤ b) (h3 : b < 2147483648) : bits .and .u32 a b = andI a b := bits_of_and .u32 (by decide) wrap_u32_in a b h0 h1 h2 h3
theorem or_u32 (a b : Int) (h0 : 0 ≤ a) (h1 : a < 2147483648) (h2 : 0 ≤ b) (h3 : b < 2147483648) : bits .or .u32 a b = orI a b := bits_of_or .u32 (by decide) wrap_u32_in a b h0 h1 h2 h3
theorem less_u32 (a b : Int) (h0 : 0 ≤ a) (h1 : a < 2147483648) (h2 : 0 ≤ b) (h3 : b < 2147483648) : bits .andNot .u32 a b = lessI a b := bits_of_less .u32 (by decide) wrap_u32_in a b h0 h1 h2 h3
theorem xor_i64 (a b : Int) (h0 : 0 ≤ a) (h1 : a < 2147483648) (h2 : 0 ≤ b) (h3 : b < 2147483648) : bits .xor .i64 a b = xorI a b := bits_of_xor .i64 (by decide) wrap_i64_in a b h0 h1 h2 h3
theorem and_i64 (a b : Int) (h0 : 0 ≤ a) (h1 : a < 2147483648) (h2 : 0 ≤ b) (h3 : b < 2147483648) : bits .and .i64 a b = andI a b := bits_of_and .i64 (by decide) wrap_i64_in a b h0 h1 h2 h3
theorem or_i64 (a b : Int) (h0 : 0 ≤ a) (h1 : a < 2147483648) (h2 : 0 ≤ b) (h3 : b < 2147483648) : bits .or .i64 a b = orI a b := bits_of_or .i64 (by decide) wrap_i64_in a b h0 h1 h2 h3
theorem less_i64 (a b : Int) (h0 : 0 ≤ a) (h1 : a < 2147483648) (h2 : 0 ≤ b) (h3 : b < 2147483648) : bits .andNot .i64 a b = lessI a b := bits_of_less .i64 (by decide) wrap_i64_in a b h0 h1 h2 h3

/-- n & 1 of any int. -/
theorem and1_i64 (n : Int) : bits .and .i64 n 1 = n % 2 := by
  show IntKind.i64.wrap ((BitVec.ofInt 64 n &&& BitVec.ofInt 64 1).toNat : Int) = _
  have e : (BitVec.ofInt 64 n &&& BitVec.ofInt 64 1).toNat = (n % 2).toNat := by
    have h1 : (BitVec.ofInt 64 1).toNat = 1 := by decide
    rw [BitVec.toNat_and, h1, Nat.and_one_is_mod, BitVec.toNat_ofInt]
    omega
  rw [e, IntKind.wrap_i64]
  omega

theorem and255_u32 (x : Int) (h0 : 0 ≤ x) (h1 : x < 4294967296) : bits .and .u32 x 255 = x % 256 :=
  bits_mask .u32 32 (by decide) (fun n h0 h1 => by rw [IntKind.wrap_u32]; omega) 8 (by decide) x h0 (by omega)

theorem xorI_le (a b : Int) (h1 : a ≤ 16777215) (h3 : b ≤ 16777215) : xorI a b ≤ 16777215 := by
  have : a.toNat ^^^ b.toNat < 2 ^ 24 := Nat.xor_lt_two_pow (by omega) (by omega)
  unfold xorI; omega
theorem andI_le (a b : Int) (h3 : b ≤ 16777215) : andI a b ≤ 16777215 := by
  have : a.toNat &&& b.toNat < 2 ^ 24 := Nat.and_lt_two_pow _ (by omega)
  unfold andI; omega
theorem orI_le (a b : Int) (h1 : a ≤ 16777215) (h3 : b ≤ 16777215) : orI a b ≤ 16777215 := by
  have : a.toNat ||| b.toNat < 2 ^ 24 := Nat.or_lt_two_pow (by omega) (by omega)
  unfold orI; omega
theorem lessI_le (a b : Int) (h1 : a ≤ 16777215) : lessI a b ≤ 16777215 := by
  have : a.toNat &&& b.toNat < 2 ^ 24 := Nat.lt_of_le_of_lt Nat.and_le_left (by omega)
  have : a.toNat ^^^ (a.toNat &&& b.toNat) < 2 ^ 24 := Nat.xor_lt_two_pow (by omega) this
  unfold lessI; omega
theorem xorI_nonneg (a b : Int) : 0 ≤ xorI a b := by unfold xorI; omega
theorem andI_nonneg (a b : Int) : 0 ≤ andI a b := by unfold andI; omega
theorem orI_nonneg (a b : Int) : 0 ≤ orI a b := by unfold orI; omega
theorem lessI_nonneg (a b : Int) : 0 ≤ lessI a b := by unfold lessI; omega

theorem powI_vals (i : Int) (h0 : 0 ≤ i) (h1 : i ≤ 23) : powI i ∈ [(1 : Int), 2, 4, 8, 16, 32, 64, 128, 256, 512, 1024, 2048, 4096, 8192, 16384, 32768, 65536, 131072, 262144, 524288, 1048576, 2097152, 4194304, 8388608] := by
  obtain ⟨n, rfl⟩ := Int.eq_ofNat_of_zero_le h0
  have : n < 24 := by omega
  unfold powI
  rw [Int.toNat_natCast]
  clear h0 h1
  revert n
  decide
theorem powI_pos (i : Int) : 0 < powI i := by unfold powI; exact Int.pow_pos (by decide)
theorem powI_le (i : Int) (h0 : 0 ≤ i) (h1 : i ≤ 23) : powI i ≤ 8388608 := by
  have := powI_vals i h0 h1
  simp only [List.mem_cons, List.not_mem_nil, or_false] at this
  omega

theorem wtTo_range (w : Int) (n : Nat) : 0 ≤ wtTo w n ∧ wtTo w n ≤ n := by
  induction n with
  | zero => simp [wtTo]
  | succ n ih => have := bitI_01 w n; simp only [wtTo]; omega

/-- The bit as Nat.testBit. -/
theorem bitI_nat (n : Nat) (i : Nat) : bitI n i = if n.testBit i then 1 else 0 := by
  unfold bitI
  rw [Int.toNat_natCast, Nat.testBit_eq_decide_div_mod_eq]
  have : ((n : Int) / 2 ^ i % 2) = ((n / 2 ^ i % 2 : Nat) : Int) := by simp
  rw [this]
  have := Nat.mod_two_eq_zero_or_one (n / 2 ^ i)
  by_cases h : n / 2 ^ i % 2 = 1
  · simp [h]
  · have h0 : n / 2 ^ i % 2 = 0 := by omega
    simp [h0]

theorem and_pow (a i : Int) (h0 : 0 ≤ a) (h2 : 0 ≤ i) : andI a (powI i) = bitI a i * powI i := by
  obtain ⟨A, rfl⟩ := Int.eq_ofNat_of_zero_le h0
  obtain ⟨n, rfl⟩ := Int.eq_ofNat_of_zero_le h2
  unfold andI powI
  rw [bitI_nat, Int.toNat_natCast, Int.toNat_natCast]
  have e : ((2 : Int) ^ n).toNat = 2 ^ n := by
    rw [show ((2 : Int) ^ n) = ((2 ^ n : Nat) : Int) by simp, Int.toNat_natCast]
  rw [e]
  have f : A &&& 2 ^ n = if A.testBit n then 2 ^ n else 0 := by
    apply Nat.eq_of_testBit_eq
    intro i
    rw [Nat.testBit_and, Nat.testBit_two_pow]
    by_cases h : n = i
    · subst h
      cases A.testBit n <;> simp
    · cases A.testBit n <;> simp [h]
  rw [f]
  cases A.testBit n <;> simp
theorem wtTo_ext (a b : Int) (n : Nat) (h : ∀ i, i < n → bitI a i = bitI b i) : wtTo a n = wtTo b n := by
  induction n with
  | zero => rfl
  | succ n ih => simp only [wtTo]; rw [ih (fun i hi => h i (by omega)), h n (by omega)]

/-- The weight below a + b: the weight below a, and that of the rest below b. -/
theorem wtTo_add (w : Int) (a b : Nat) : wtTo w (a + b) = wtTo w a + wtTo (w / 2 ^ a) b := by
  induction b with
  | zero => simp [wtTo]
  | succ b ih =>
    rw [show a + (b + 1) = (a + b) + 1 from rfl]
    simp only [wtTo]
    rw [ih]
    have : bitI w ((a + b : Nat) : Int) = bitI (w / 2 ^ a) b := by
      unfold bitI
      rw [Int.toNat_natCast, Int.toNat_natCast, Int.pow_add, Int.ediv_ediv]
      have h2 : ¬ ((2 : Int) ^ a < 0) := by have : (0 : Int) < 2 ^ a := Int.pow_pos (by decide); omega
      simp [h2]
    rw [this]; omega

theorem wtTo_mod (w : Int) (h0 : 0 ≤ w) (n m : Nat) (h : n ≤ m) : wtTo (w % 2 ^ m) n = wtTo w n := by
  obtain ⟨W, rfl⟩ := Int.eq_ofNat_of_zero_le h0
  apply wtTo_ext
  intro i hi
  have : ((W : Int) % 2 ^ m) = ((W % 2 ^ m : Nat) : Int) := by simp
  rw [this, bitI_nat, bitI_nat, Nat.testBit_mod_two_pow]
  simp [show i < m by omega]

theorem pop8_wt : ∀ n : Fin 256, Lib.pop8 (n.val : Int) = wtTo (n.val : Int) 8 := by decide +kernel
theorem pop8_is (x : Int) (h0 : 0 ≤ x) (h1 : x < 256) : Lib.pop8 x = wtTo x 8 := by
  obtain ⟨X, rfl⟩ := Int.eq_ofNat_of_zero_le h0
  exact pop8_wt ⟨X, by omega⟩
theorem wt_bytes (w : Int) (h0 : 0 ≤ w) (h1 : w ≤ 16777215) :
    (Lib.pop8 0 + Lib.pop8 (w / 65536 % 256) + Lib.pop8 (w / 256 % 256) + Lib.pop8 (w % 256)) % 256 = wt w := by
  rw [pop8_is 0 (by omega) (by omega), pop8_is (w / 65536 % 256) (by omega) (by omega), pop8_is (w / 256 % 256) (by omega) (by omega), pop8_is (w % 256) (by omega) (by omega)]
  have a := wtTo_mod w h0 8 8 (by omega)
  have b := wtTo_mod (w / 256) (by omega) 8 8 (by omega)
  have c := wtTo_mod (w / 65536) (by omega) 8 8 (by omega)
  have d := wtTo_add w 8 16
  have e := wtTo_add (w / 256) 8 8
  have z : wtTo 0 8 = 0 := by decide
  have f : w / 256 / 256 = w / 65536 := by omega
  simp only [show (2 : Int) ^ 8 = 256 from rfl, show (8 + 16 : Nat) = 24 from rfl, show (8 + 8 : Nat) = 16 from rfl] at *
  have := wtTo_range w 24
  rw [a, b, c, z]
  unfold wt
  rw [f] at e
  omega
theorem wt_range (w : Int) : 0 ≤ wt w ∧ wt w ≤ 24 := wtTo_range w 24
end Go.Proofs.YtiinekoepoonfabDoor
