/- The triangle: how many octads have of the first places just the first; it does not hang on the octad. No program is named here. -/
import Derived.Test.YtmeejnkpaiinaacGreatDoorP3
import Derived.Test.YtmeejnkpaiinaacGreatDoorM25
namespace Go.Proofs.YtmeejnkpaiinaacGreatDoor
set_option linter.unusedVariables false
attribute [local irreducible] octS cN octF

/-- How many octads have all of a places and none of c places of an octad. -/
def tT : Nat → Nat → Nat
  | a, 0 => [759, 253, 77, 21, 5, 1, 1, 1, 1].getD a 0
  | a, c + 1 => tT a c - tT (a + 1) c
def cntAC (A C : Nat) : Nat := octS.countP fun x => decide (x.toNat &&& (A ||| C) = A)
theorem thr_sub (W : Nat) (hW : ∃ m : Nat, m < 4096 ∧ W = cN m) (h8 : pop W = 8) (A : Nat) (hA : Sub A W) : (thr A).length = [759, 253, 77, 21, 5, 1, 1, 1, 1].getD (pop A) 0 := by
  obtain ⟨m, hm, rfl⟩ := hW
  have hlt : A < 16777216 := Nat.lt_of_le_of_lt (by rw [← hA]; exact Nat.and_le_left) (cN_lt m)
  have hle := hA.le
  rw [h8] at hle
  have hin : ((cN m : Nat) : Int) ∈ thr A := thr_mem.2 ⟨nat_oct hm h8, by rw [Int.toNat_natCast]; exact hA⟩
  have hp := List.length_pos_of_mem hin
  rcases (by omega : pop A = 0 ∨ pop A = 1 ∨ pop A = 2 ∨ pop A = 3 ∨ pop A = 4 ∨ 5 ≤ pop A) with e | e | e | e | e | e
  · rw [e, pop_zero A hlt e]; exact thr0
  · rw [e]; exact thr1 A hlt e
  · rw [e]; exact thr2 A hlt e
  · rw [e]; exact thr3 A hlt e
  · rw [e]; exact thr4 A hlt e
  · have h1 := thr_le A e
    rcases (by omega : pop A = 5 ∨ pop A = 6 ∨ pop A = 7 ∨ pop A = 8) with q | q | q | q <;> rw [q] <;> show (thr A).length = 1 <;> omega
theorem cntAC_zero (A : Nat) : cntAC A 0 = (thr A).length := by
  unfold cntAC thr
  rw [List.countP_eq_length_filter, Nat.or_zero]
theorem split_bit (x A C p : Nat) (hA : A.testBit p = false) (hC : C.testBit p = false) :
    (if decide (x &&& (A ||| C) = A) then 1 else 0) = (if decide (x &&& ((A ||| 2 ^ p) ||| C) = A ||| 2 ^ p) then 1 else 0) + (if decide (x &&& (A ||| (C ||| 2 ^ p)) = A) then 1 else 0) := by
  have key : ∀ q, x.testBit q = true ∨ x.testBit q = false := fun q => by cases x.testBit q <;> simp
  have e1 : (x &&& (A ||| C) = A) ↔ ∀ q, (x.testBit q && (A.testBit q || C.testBit q)) = A.testBit q :=
    ⟨fun h q => by rw [← Nat.testBit_or, ← Nat.testBit_and, h], fun h => Nat.eq_of_testBit_eq fun q => by rw [Nat.testBit_and, Nat.testBit_or]; exact h q⟩
  have e2 : (x &&& ((A ||| 2 ^ p) ||| C) = A ||| 2 ^ p) ↔ ∀ q, (x.testBit q && ((A.testBit q || decide (p = q)) || C.testBit q)) = (A.testBit q || decide (p = q)) :=
    ⟨fun h q => by rw [← or_bit, ← Nat.testBit_or, ← Nat.testBit_and, h], fun h => Nat.eq_of_testBit_eq fun q => by rw [Nat.testBit_and, Nat.testBit_or, or_bit]; exact h q⟩
  have e3 : (x &&& (A ||| (C ||| 2 ^ p)) = A) ↔ ∀ q, (x.testBit q && (A.testBit q || (C.testBit q || decide (p = q)))) = A.testBit q :=
    ⟨fun h q => by rw [← or_bit, ← Nat.testBit_or, ← Nat.testBit_and, h], fun h => Nat.eq_of_testBit_eq fun q => by rw [Nat.testBit_and, Nat.testBit_or, or_bit]; exact h q⟩
  rcases key p with hp | hp
  · have h3 : ¬ (x &&& (A ||| (C ||| 2 ^ p)) = A) := fun h => by
      have := (e3.1 h) p
      rw [hp, hA] at this
      simp at this
    have h12 : (x &&& (A ||| C) = A) ↔ (x &&& ((A ||| 2 ^ p) ||| C) = A ||| 2 ^ p) := by
      rw [e1, e2]
      refine forall_congr' fun q => ?_
      by_cases e : p = q
      · subst e; rw [hp, hA, hC]; simp
      · simp [e]
    rw [show decide (x &&& (A ||| (C ||| 2 ^ p)) = A) = false from decide_eq_false h3, show decide (x &&& (A ||| C) = A) = decide (x &&& ((A ||| 2 ^ p) ||| C) = A ||| 2 ^ p) from decide_eq_decide.2 h12]
    simp
  · have h2 : ¬ (x &&& ((A ||| 2 ^ p) ||| C) = A ||| 2 ^ p) := fun h => by
      have := (e2.1 h) p
      rw [hp] at this
      simp at this
    have h13 : (x &&& (A ||| C) = A) ↔ (x &&& (A ||| (C ||| 2 ^ p)) = A) := by
      rw [e1, e3]
      refine forall_congr' fun q => ?_
      by_cases e : p = q
      · subst e; rw [hp, hA]; simp
      · simp [e]
    rw [show decide (x &&& ((A ||| 2 ^ p) ||| C) = A ||| 2 ^ p) = false from decide_eq_false h2, show decide (x &&& (A ||| C) = A) = decide (x &&& (A ||| (C ||| 2 ^ p)) = A) from decide_eq_decide.2 h13]
    simp
theorem cntAC_step (A C p : Nat) (hA : A.testBit p = false) (hC : C.testBit p = false) : cntAC A C = cntAC (A ||| 2 ^ p) C + cntAC A (C ||| 2 ^ p) :=
  countP_two _ _ _ _ fun x _ => split_bit x.toNat A C p hA hC
theorem cntAC_is (W : Nat) (hW : ∃ m : Nat, m < 4096 ∧ W = cN m) (h8 : pop W = 8) : ∀ c A C, Sub A W → Sub C W → A &&& C = 0 → pop C = c → cntAC A C = tT (pop A) c := by
  have hWl : W < 16777216 := by obtain ⟨m, _, rfl⟩ := hW; exact cN_lt m
  have sub_lt : ∀ D, Sub D W → D < 16777216 := fun D h => Nat.lt_of_le_of_lt (by rw [← h]; exact Nat.and_le_left) hWl
  intro c
  induction c with
  | zero =>
    intro A C hA hC _ hc
    rw [pop_zero C (sub_lt C hC) hc, cntAC_zero, thr_sub W hW h8 A hA]
    rfl
  | succ c ih =>
    intro A C hA hC hd hc
    obtain ⟨p, p1, p2, _⟩ := new_place (F := 0) (w := C) (sub_of fun q hq => by simp at hq) (sub_lt C hC) (by omega) (by rw [pop_zero_]; omega)
    have hb : (C ^^^ 2 ^ p).testBit p = false := by rw [Nat.testBit_xor, p2, bit_pow2]; simp
    have hC' : C = (C ^^^ 2 ^ p) ||| 2 ^ p := Nat.eq_of_testBit_eq fun q => by
      rw [or_bit, Nat.testBit_xor, bit_pow2]
      by_cases e : p = q
      · subst e; simp [p2]
      · simp [e]
    have hAp : A.testBit p = false := by
      have : (A &&& C).testBit p = false := by rw [hd]; simp
      rw [Nat.testBit_and, p2] at this
      simpa using this
    have hsub : Sub (C ^^^ 2 ^ p) C := sub_of fun q hq => by rw [hC', or_bit, hq]; rfl
    have hpc : pop (C ^^^ 2 ^ p) = c := by
      have := pop_or (C ^^^ 2 ^ p) p p1 hb
      rw [← hC'] at this
      omega
    have hs := cntAC_step A (C ^^^ 2 ^ p) p hAp hb
    rw [← hC'] at hs
    have hdis : A &&& (C ^^^ 2 ^ p) = 0 := Nat.eq_of_testBit_eq fun q => by
      rw [Nat.testBit_and, Nat.zero_testBit]
      cases ha : A.testBit q
      · rfl
      · have h0 : (A &&& C).testBit q = false := by rw [hd]; simp
        rw [Nat.testBit_and, ha] at h0
        cases hx : (C ^^^ 2 ^ p).testBit q
        · rfl
        · rw [hsub.bit q hx] at h0; simp at h0
    have h1 := ih A (C ^^^ 2 ^ p) hA (hsub.trans hC) hdis hpc
    have h2 := ih (A ||| 2 ^ p) (C ^^^ 2 ^ p) (sub_of fun q hq => by
      rw [or_bit] at hq
      simp at hq
      rcases hq with hq | rfl
      · exact hA.bit q hq
      · exact hC.bit _ p2) (hsub.trans hC) (Nat.eq_of_testBit_eq fun q => by
        rw [Nat.testBit_and, or_bit, Nat.zero_testBit]
        by_cases e : p = q
        · subst e; rw [hb]; simp
        · have h0 : (A &&& (C ^^^ 2 ^ p)).testBit q = false := by rw [hdis]; simp
          rw [Nat.testBit_and] at h0
          simp only [e, decide_false, Bool.or_false]
          exact h0) hpc
    rw [pop_or A p p1 hAp] at h2
    rw [h1, h2] at hs
    show _ = tT (pop A) c - tT (pop A + 1) c
    omega
/-! ### The first places -/
theorem plN_len' (W : Nat) : ∀ N, (plN W N).length = popN N W
  | 0 => by simp [plN, popN]
  | N + 1 => by
    rw [plN_succ, List.length_append, plN_len' W N, popN_top]
    unfold bN
    cases h : W.testBit N <;> simp
theorem pop_pl (W : Nat) : pop W = (pl W).length := by unfold pl; exact (plN_len' W 24).symm
theorem pop_first (W n : Nat) (hW : W < 16777216) (hn : n ≤ pop W) : pop (firstW W n) = n := by
  rw [pop_pl, pl_firstW W n hW, List.length_take, ← pop_pl]
  omega
theorem bit_lt24 {W q : Nat} (hW : W < 16777216) (h : W.testBit q = true) : q < 24 := by
  refine Classical.byContradiction fun h24 => ?_
  have h2 : 2 ^ 24 ≤ 2 ^ q := Nat.pow_le_pow_right (by decide) (by omega)
  rw [Nat.testBit_lt_two_pow (show W < 2 ^ q by omega)] at h
  exact absurd h (by decide)
theorem first_mono (W i k : Nat) (hW : W < 16777216) (hk : k ≤ i) : Sub (firstW W k) (firstW W i) := sub_of fun q hq => by
  have hq24 := bit_lt24 (firstW_lt W k hW) hq
  have h1 : q ∈ pl (firstW W k) := (pl_mem _ _).2 ⟨hq24, hq⟩
  rw [pl_firstW W k hW] at h1
  have h2 : q ∈ (pl W).take i := (List.take_sublist_take_left hk).mem h1
  rw [← pl_firstW W i hW] at h2
  exact ((pl_mem _ _).1 h2).2
theorem first_sub (W i : Nat) (hW : W < 16777216) : Sub (firstW W i) W := sub_of fun q hq => by
  have hq24 := bit_lt24 (firstW_lt W i hW) hq
  have h1 : q ∈ pl (firstW W i) := (pl_mem _ _).2 ⟨hq24, hq⟩
  rw [pl_firstW W i hW] at h1
  exact ((pl_mem _ _).1 (List.mem_of_mem_take h1)).2
/-- A number of the triangle. -/
theorem tri_is (W : Nat) (hW : ∃ m : Nat, m < 4096 ∧ W = cN m) (h8 : pop W = 8) (i k : Nat) (hi : i ≤ 8) (hk : k ≤ i) :
    (octS.countP fun x => andI x ((firstW W i : Nat) : Int) == ((firstW W k : Nat) : Int)) = tT k (i - k) := by
  have hWl : W < 16777216 := by obtain ⟨m, _, rfl⟩ := hW; exact cN_lt m
  have hs := first_mono W i k hWl hk
  have hor : firstW W k ||| (firstW W i ^^^ firstW W k) = firstW W i := Nat.eq_of_testBit_eq fun q => by
    rw [Nat.testBit_or, Nat.testBit_xor]
    cases hq : (firstW W k).testBit q
    · simp
    · rw [hs.bit q hq]; rfl
  have hpk := pop_first W k hWl (by omega)
  have hpi := pop_first W i hWl (by omega)
  have hx := pop_xor (firstW W i) (firstW W k)
  rw [show firstW W i &&& firstW W k = firstW W k from hs] at hx
  have hz : firstW W k &&& (firstW W i ^^^ firstW W k) = 0 := Nat.eq_of_testBit_eq fun q => by
    rw [Nat.testBit_and, Nat.testBit_xor, Nat.zero_testBit]
    cases hq : (firstW W k).testBit q
    · simp
    · rw [hs.bit q hq]; rfl
  have h := cntAC_is W hW h8 (i - k) (firstW W k) (firstW W i ^^^ firstW W k) (first_sub W k hWl) (sub_of fun q hq => by
    rw [Nat.testBit_xor] at hq
    have : (firstW W i).testBit q = true := by
      cases h1 : (firstW W i).testBit q
      · cases h2 : (firstW W k).testBit q
        · rw [h1, h2] at hq; cases hq
        · rw [hs.bit q h2] at h1; cases h1
      · rfl
    exact (first_sub W i hWl).bit q this) hz (by omega)
  rw [hpk] at h
  rw [← h]
  unfold cntAC
  rw [hor]
  refine List.countP_congr fun x hx => ?_
  obtain ⟨n, _, e, e2, _⟩ := oct_nat hx
  rw [e2, e, andI_nat]
  simp only [beq_iff_eq, decide_eq_true_eq]
  omega
theorem tT_step (a c : Nat) (h : a + c ≤ 7) : tT a c = tT a (c + 1) + tT (a + 1) c := by
  have : ∀ a : Fin 8, ∀ c : Fin 8, a.val + c.val ≤ 7 → tT a.val c.val = tT a.val (c.val + 1) + tT (a.val + 1) c.val := by decide +kernel
  exact this ⟨a, by omega⟩ ⟨c, by omega⟩ h
end Go.Proofs.YtmeejnkpaiinaacGreatDoor
