/- The places of a word in ascending order, and the lowest one of them: plain facts. -/
import Derived.Lib.TrailingZeros
import Derived.Test.YtiinekoepoonfabDoorM1
namespace Go.Proofs.YtiinekoepoonfabDoor
set_option linter.unusedVariables false

def plN (W N : Nat) : List Nat := (List.range N).filter fun i => W.testBit i
def pl (W : Nat) : List Nat := plN W 24
/-- The places as ints. -/
def plI (W : Nat) : List Int := (pl W).map fun (i : Nat) => (i : Int)

theorem plN_succ (W N : Nat) : plN W (N + 1) = plN W N ++ if W.testBit N then [N] else [] := by
  unfold plN
  rw [List.range_succ, List.filter_append]
  congr 1
  cases h : W.testBit N <;> simp [h]
theorem plN_none (W N : Nat) (h : ∀ j, j < N → W.testBit j = false) : plN W N = [] := by
  unfold plN
  rw [List.filter_eq_nil_iff]
  intro a ha
  simp [h a (List.mem_range.1 ha)]
theorem plN_head (W V k N : Nat) (hk : W.testBit k = true) (hv : V.testBit k = false) (hl : ∀ j, j < k → W.testBit j = false) (he : ∀ j, j ≠ k → V.testBit j = W.testBit j) (hN : k < N) :
    plN W N = k :: plN V N := by
  induction N with
  | zero => omega
  | succ N ih =>
    rw [plN_succ, plN_succ]
    by_cases h : k < N
    · rw [ih h, he N (by omega)]; rfl
    · obtain rfl : k = N := by omega
      rw [plN_none W k hl, plN_none V k (fun j hj => by rw [he j (by omega)]; exact hl j hj), hk, hv]
      rfl
theorem lowest_bits (W : Nat) (h0 : W ≠ 0) (h : W < 2 ^ 32) : ∃ m, W = 2 ^ Lib.ctz 32 W * (2 * m + 1) ∧ Lib.ctz 32 W < 32 := by
  have := Lib.ctzFrom_spec 32 W (by omega) h
  have e : Lib.ctz 32 W = Lib.ctzFrom 32 W := by simp [Lib.ctz, h0]
  rw [e]; exact this
theorem clear_low (k m : Nat) : (2 ^ k * (2 * m + 1)) &&& (2 ^ k * (2 * m + 1) - 1) = 2 ^ k * (2 * m) := by
  have hp : 0 < 2 ^ k := Nat.two_pow_pos k
  have e1 : 2 ^ k * (2 * m + 1) - 1 = 2 ^ k * (2 * m) + (2 ^ k - 1) := by rw [Nat.mul_add]; omega
  have e2 : 2 ^ k * (2 * m + 1) = 2 ^ k * (2 * m + 1) + 0 := rfl
  have e3 : 2 ^ k * (2 * m) = 2 ^ k * (2 * m) + 0 := rfl
  rw [e1]
  apply Nat.eq_of_testBit_eq
  intro i
  rw [Nat.testBit_and]
  rw [Nat.testBit_two_pow_mul_add (2 * m) (show 2 ^ k - 1 < 2 ^ k by omega) i]
  rw [show (2 ^ k * (2 * m + 1)).testBit i = (2 ^ k * (2 * m + 1) + 0).testBit i from rfl, Nat.testBit_two_pow_mul_add (2 * m + 1) hp i]
  rw [show (2 ^ k * (2 * m)).testBit i = (2 ^ k * (2 * m) + 0).testBit i from rfl, Nat.testBit_two_pow_mul_add (2 * m) hp i]
  by_cases hi : i < k
  · simp [hi]
  · simp only [hi, if_false]
    rcases Nat.eq_zero_or_pos (i - k) with h | h
    · rw [h]; simp
    · obtain ⟨j, hj⟩ : ∃ j, i - k = j + 1 := ⟨i - k - 1, by omega⟩
      rw [hj, Nat.testBit_succ, Nat.testBit_succ, show (2 * m + 1) / 2 = m by omega, show 2 * m / 2 = m by omega]
      simp
/-- One place less: the lowest one, and the rest. -/
theorem pl_step (W : Nat) (h0 : W ≠ 0) (h : W < 16777216) :
    pl W = Lib.ctz 32 W :: pl (W &&& (W - 1)) ∧ Lib.ctz 32 W < 24 ∧ (W &&& (W - 1)) < W ∧ (W &&& (W - 1)) < 16777216 := by
  obtain ⟨m, hm, hk⟩ := lowest_bits W h0 (by omega)
  generalize hkk : Lib.ctz 32 W = k at *
  have hp : 0 < 2 ^ k := Nat.two_pow_pos k
  have hle : 2 ^ k ≤ W := by rw [hm]; exact Nat.le_mul_of_pos_right _ (by omega)
  have hk24 : k < 24 := by
    apply Nat.lt_of_not_le
    intro hge
    have : 2 ^ 24 ≤ 2 ^ k := Nat.pow_le_pow_right (by decide) hge
    omega
  have hc : W &&& (W - 1) = 2 ^ k * (2 * m) := by
    have := clear_low k m
    rw [← hm] at this; exact this
  have hW : W = 2 ^ k * (2 * m) + 2 ^ k := by rw [hm, Nat.mul_add]; simp
  have hlt : 2 ^ k * (2 * m) < W := by omega
  refine ⟨?_, hk24, by omega, by omega⟩
  rw [hc]
  have tW : ∀ i, W.testBit i = if i < k then false else (2 * m + 1).testBit (i - k) := by
    intro i
    rw [hm, show (2 ^ k * (2 * m + 1)).testBit i = (2 ^ k * (2 * m + 1) + 0).testBit i from rfl, Nat.testBit_two_pow_mul_add (2 * m + 1) hp i]
    simp
  have tV : ∀ i, (2 ^ k * (2 * m)).testBit i = if i < k then false else (2 * m).testBit (i - k) := by
    intro i
    rw [show (2 ^ k * (2 * m)).testBit i = (2 ^ k * (2 * m) + 0).testBit i from rfl, Nat.testBit_two_pow_mul_add (2 * m) hp i]
    simp
  refine plN_head W _ k 24 ?_ ?_ ?_ ?_ hk24
  · rw [tW]; simp
  · rw [tV]; simp
  · intro j hj; rw [tW, if_pos hj]
  · intro j hj
    rw [tW, tV]
    by_cases h1 : j < k
    · rw [if_pos h1, if_pos h1]
    · rw [if_neg h1, if_neg h1]
      obtain ⟨q, hq⟩ : ∃ q, j - k = q + 1 := ⟨j - k - 1, by omega⟩
      rw [hq, Nat.testBit_succ, Nat.testBit_succ, show (2 * m + 1) / 2 = m by omega, show 2 * m / 2 = m by omega]
theorem pl_zero : pl 0 = [] := plN_none 0 24 (fun j _ => Nat.zero_testBit j)
theorem pl_lt (W : Nat) : ∀ x ∈ pl W, x < 24 := by
  intro x hx
  unfold pl plN at hx
  rw [List.mem_filter] at hx
  exact List.mem_range.1 hx.1
theorem pl_len (W : Nat) : (pl W).length ≤ 24 := by
  unfold pl plN
  have := List.length_filter_le (fun i => W.testBit i) (List.range 24)
  simpa using this
end Go.Proofs.YtiinekoepoonfabDoor
