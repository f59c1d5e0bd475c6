/- Joined texts: M14. -/
import Derived.Test.YtiodikflmijhkaaGreatDoorJ02
import Derived.Test.YtiodikflmijhkaaGreatDoorJ01
namespace Go.Proofs.YtiodikflmijhkaaGreatDoor
set_option linter.unusedVariables false

theorem and_mod2 (a b : Nat) : (a &&& b) % 2 = a % 2 * (b % 2) := by
  have h := Nat.testBit_and (x := a) (y := b) (i := 0)
  simp only [Nat.testBit_zero] at h
  have := Nat.mod_two_eq_zero_or_one a
  have := Nat.mod_two_eq_zero_or_one b
  have := Nat.mod_two_eq_zero_or_one (a &&& b)
  by_cases h1 : a % 2 = 1 <;> by_cases h2 : b % 2 = 1 <;> simp_all
theorem popN_xor : ∀ (k a b : Nat), popN k (a ^^^ b) + 2 * popN k (a &&& b) = popN k a + popN k b
  | 0, a, b => rfl
  | k + 1, a, b => by
    simp only [popN]
    have ih := popN_xor k (a / 2) (b / 2)
    rw [xor_mod2, and_mod2, Nat.xor_div_two, Nat.and_div_two]
    have h1 : a % 2 = 0 ∨ a % 2 = 1 := by omega
    have h2 : b % 2 = 0 ∨ b % 2 = 1 := by omega
    rcases h1 with e1 | e1 <;> rcases h2 with e2 | e2 <;> rw [e1, e2] <;> omega
theorem pop_xor (a b : Nat) : pop (a ^^^ b) + 2 * pop (a &&& b) = pop a + pop b := popN_xor 24 a b
theorem popN_zero : ∀ (k v : Nat), v < 2 ^ k → popN k v = 0 → v = 0
  | 0, v, h, _ => by simp at h; exact h
  | k + 1, v, h, hp => by
    simp only [popN] at hp
    have := popN_zero k (v / 2) (by rw [Nat.pow_succ] at h; omega) (by omega)
    omega
theorem pop_zero (v : Nat) (h : v < 16777216) (hp : pop v = 0) : v = 0 := popN_zero 24 v h hp
theorem code_wts (m : Nat) (h : m < 4096) : (pop (cN m) = 0 ∨ pop (cN m) = 8 ∨ pop (cN m) = 12 ∨ pop (cN m) = 16 ∨ pop (cN m) = 24) ∧ (pop (cN m) = 0 → m = 0) := by
  obtain ⟨h1, h2⟩ := code_weights ⟨m, h⟩
  refine ⟨?_, h2⟩
  simp only [wts, Bool.or_eq_true, beq_iff_eq] at h1
  omega
/-- How far the word of a message is from a word. -/
def dN (m w : Nat) : Nat := pop (cN m ^^^ w)
theorem xor_lt12 (a b : Nat) (ha : a < 4096) (hb : b < 4096) : a ^^^ b < 4096 := Nat.xor_lt_two_pow (n := 12) ha hb
theorem xor_lt24 (a b : Nat) (ha : a < 16777216) (hb : b < 16777216) : a ^^^ b < 16777216 := Nat.xor_lt_two_pow (n := 24) ha hb
theorem xor_cancel (a b w : Nat) : (a ^^^ w) ^^^ (b ^^^ w) = a ^^^ b := by
  rw [Nat.xor_comm b w, Nat.xor_assoc, ← Nat.xor_assoc w w b, Nat.xor_self, Nat.zero_xor]
theorem xor_eq_zero {a b : Nat} (h : a ^^^ b = 0) : a = b := by
  have := congrArg (fun x => x ^^^ b) h
  simp only [Nat.xor_assoc, Nat.xor_self, Nat.xor_zero, Nat.zero_xor] at this
  exact this
theorem xor_back (a b : Nat) : (a ^^^ b) ^^^ b = a := by rw [Nat.xor_assoc, Nat.xor_self, Nat.xor_zero]
theorem near_unique (m n w : Nat) (hm : m < 4096) (hn : n < 4096) (h : dN m w + dN n w < 8) : m = n := by
  have h1 := pop_xor (cN m ^^^ w) (cN n ^^^ w)
  rw [xor_cancel, ← cN_xor] at h1
  unfold dN at h
  obtain ⟨h2, h3⟩ := code_wts (m ^^^ n) (xor_lt12 m n hm hn)
  exact xor_eq_zero (h3 (by omega))
theorem lead_lt (s : Nat) : lead s < 16777216 := Nat.mod_lt _ (by decide)
theorem by_syn (e w : Nat) (he : e < 16777216) (hw : w < 16777216) (h : syn e = syn w) : ∃ m, m < 4096 ∧ cN m = w ^^^ e := 
  ⟨_, msg_lt _, (same_syn w e hw he h.symm).symm⟩
theorem far_ex (w : Nat) (hw : w < 16777216) : ∃ m, m < 4096 ∧ cN m ^^^ w = lead (syn w) ∧ dN m w ≤ 4 := by
  obtain ⟨h1, h2⟩ := lead_all ⟨syn w, syn_lt w⟩
  obtain ⟨m, hm, he⟩ := by_syn (lead (syn w)) w (lead_lt _) hw h1
  have e : cN m ^^^ w = lead (syn w) := by rw [he, Nat.xor_comm w, xor_back]
  exact ⟨m, hm, e, by unfold dN; rw [e]; exact h2⟩
structure Tets (s : Nat) (t0 t1 t2 t3 t4 t5 : Nat) : Prop where
  a0 : t0 < t1
  a1 : t1 < t2
  a2 : t2 < t3
  a3 : t3 < t4
  a4 : t4 < t5
  a5 : t5 < 16777216
  p : ∀ t ∈ [t0, t1, t2, t3, t4, t5], pop t = 4 ∧ syn t = s
  all : t0 ||| t1 ||| t2 ||| t3 ||| t4 ||| t5 = 16777215
def dI (m w : Int) : Int := wt (xorI (codeOf m) w)
theorem codeOf_cN (m : Nat) (h : m < 4096) : codeOf (m : Int) = (cN m : Nat) := code_of ⟨m, h⟩
theorem dI_dN (m w : Nat) (h : m < 4096) : dI m w = (dN m w : Nat) := by
  unfold dI dN xorI
  rw [codeOf_cN m h, Int.toNat_natCast, Int.toNat_natCast, wt_pop]
theorem near_uniqueI (m n : Nat) (w : Int) (hm : m < 4096) (hn : n < 4096) (h0 : 0 ≤ w) (h : dI m w + dI n w < 8) : m = n := by
  obtain ⟨W, rfl⟩ := Int.eq_ofNat_of_zero_le h0
  rw [dI_dN m W hm, dI_dN n W hn] at h
  exact near_unique m n W hm hn (by omega)
theorem codeOf_inj (m n : Nat) (hm : m < 4096) (hn : n < 4096) (h : codeOf m = codeOf n) : m = n := by
  have h3 : dI m (codeOf n) = 0 := by unfold dI; rw [h, xorI_self]; decide
  have h4 : dI n (codeOf n) = 0 := by unfold dI; rw [xorI_self]; decide
  exact near_uniqueI m n (codeOf n) hm hn (codeOf_range _).1 (by omega)

/-- A list that ascends. -/
def Asc (L : List Int) : Prop := L.Pairwise (· < ·)
theorem Asc.nodup {L : List Int} (h : Asc L) : L.Nodup := h.imp fun h => by omega
theorem asc_ext : ∀ (L M : List Int), Asc L → Asc M → (∀ x, x ∈ L ↔ x ∈ M) → L = M
  | [], [], _, _, _ => rfl
  | [], b :: M, _, _, h => by have := (h b).2 (by simp); simp at this
  | a :: L, [], _, _, h => by have := (h a).1 (by simp); simp at this
  | a :: L, b :: M, hL, hM, h => by
    have h1 := List.pairwise_cons.1 hL
    have h2 := List.pairwise_cons.1 hM
    have e : a = b := by
      rcases List.mem_cons.1 ((h a).1 (by simp)) with e | m1
      · exact e
      · rcases List.mem_cons.1 ((h b).2 (by simp)) with e | m2
        · exact e.symm
        · have := h1.1 b m2
          have := h2.1 a m1
          omega
    subst e
    congr 1
    refine asc_ext L M h1.2 h2.2 fun x => ⟨fun hx => ?_, fun hx => ?_⟩
    · rcases List.mem_cons.1 ((h x).1 (by simp [hx])) with e | m
      · subst e; have := h1.1 x hx; omega
      · exact m
    · rcases List.mem_cons.1 ((h x).2 (by simp [hx])) with e | m
      · subst e; have := h2.1 x hx; omega
      · exact m
theorem Tets.lt {s t0 t1 t2 t3 t4 t5 : Nat} (T : Tets s t0 t1 t2 t3 t4 t5) : ∀ t ∈ [t0, t1, t2, t3, t4, t5], t < 16777216 := by
  obtain ⟨a0, a1, a2, a3, a4, a5, _, _⟩ := T
  intro t ht
  simp only [List.mem_cons, List.not_mem_nil, or_false] at ht
  rcases ht with rfl | rfl | rfl | rfl | rfl | rfl <;> omega
end Go.Proofs.YtiodikflmijhkaaGreatDoor
