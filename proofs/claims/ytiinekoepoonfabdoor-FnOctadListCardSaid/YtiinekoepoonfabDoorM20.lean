/- The octads as a design: any five places are in just one; counting twice. No program is named here. -/
import Derived.Test.YtiinekoepoonfabDoorM19
namespace Go.Proofs.YtiinekoepoonfabDoor
set_option linter.unusedVariables false

/-! ### Sums -/
def sumR : Nat → (Nat → Nat) → Nat
  | 0, _ => 0
  | n + 1, f => sumR n f + f n
theorem sumR_add (n : Nat) (f g : Nat → Nat) : sumR n (fun p => f p + g p) = sumR n f + sumR n g := by
  induction n with
  | zero => rfl
  | succ n ih => simp only [sumR]; omega
theorem sumR_ext (n : Nat) (f g : Nat → Nat) (h : ∀ p, p < n → f p = g p) : sumR n f = sumR n g := by
  induction n with
  | zero => rfl
  | succ n ih => simp only [sumR]; rw [ih fun p hp => h p (by omega), h n (by omega)]
theorem sumR_le (n : Nat) (f g : Nat → Nat) (h : ∀ p, p < n → f p ≤ g p) : sumR n f ≤ sumR n g := by
  induction n with
  | zero => exact Nat.le_refl _
  | succ n ih => simp only [sumR]; have := ih fun p hp => h p (by omega); have := h n (by omega); omega
theorem sumR_mul (n c : Nat) (f : Nat → Nat) : sumR n (fun p => c * f p) = c * sumR n f := by
  induction n with
  | zero => rfl
  | succ n ih => simp only [sumR]; rw [ih, Nat.mul_add]
theorem sumR_zero (n : Nat) : sumR n (fun _ => 0) = 0 := by
  induction n with
  | zero => rfl
  | succ n ih => simp only [sumR]; rw [ih]
theorem sumR_one (n p : Nat) (h : p < n) : sumR n (fun q => if q = p then 1 else 0) = 1 := by
  induction n with
  | zero => omega
  | succ n ih =>
    simp only [sumR]
    by_cases hp : n = p
    · rw [if_pos hp, sumR_ext n _ (fun _ => 0) (fun q hq => if_neg (by omega)), sumR_zero]
    · rw [if_neg hp, ih (by omega)]
def bN (v p : Nat) : Nat := if v.testBit p then 1 else 0
theorem bN_le (v p : Nat) : bN v p ≤ 1 := by unfold bN; split <;> omega
theorem popN_top : ∀ (k v : Nat), popN (k + 1) v = popN k v + bN v k
  | 0, v => by
    simp only [popN, bN, Nat.testBit_zero]
    have : v % 2 = 0 ∨ v % 2 = 1 := by omega
    rcases this with h | h <;> simp [h]
  | k + 1, v => by
    have ih := popN_top k (v / 2)
    have hb : bN (v / 2) k = bN v (k + 1) := by simp only [bN, Nat.testBit_succ]
    rw [hb] at ih
    show v % 2 + popN (k + 1) (v / 2) = v % 2 + popN k (v / 2) + _
    omega
theorem popN_sum (k v : Nat) : popN k v = sumR k (bN v) := by
  induction k with
  | zero => rfl
  | succ k ih => rw [popN_top, ih]; rfl
theorem pop_sum (v : Nat) : pop v = sumR 24 (bN v) := popN_sum 24 v

/-! ### One word in another -/
def Sub (a b : Nat) : Prop := b &&& a = a
theorem Sub.bit {a b : Nat} (h : Sub a b) (p : Nat) (hp : a.testBit p = true) : b.testBit p = true := by
  rw [← h, Nat.testBit_and] at hp
  simp at hp
  exact hp.1
theorem sub_of {a b : Nat} (h : ∀ p, a.testBit p = true → b.testBit p = true) : Sub a b := by
  refine Nat.eq_of_testBit_eq fun p => ?_
  rw [Nat.testBit_and]
  cases ha : a.testBit p
  · simp
  · simp [h p ha]
theorem Sub.trans {a b c : Nat} (h : Sub a b) (k : Sub b c) : Sub a c := sub_of fun p hp => k.bit p (h.bit p hp)
theorem Sub.le {a b : Nat} (h : Sub a b) : pop a ≤ pop b := by
  rw [pop_sum, pop_sum]
  refine sumR_le 24 _ _ fun p _ => ?_
  unfold bN
  by_cases ha : a.testBit p
  · rw [if_pos ha, if_pos (h.bit p ha)]; exact Nat.le_refl _
  · rw [if_neg ha]; exact Nat.zero_le _
theorem and_sub (a b : Nat) : Sub (a &&& b) a := sub_of fun p hp => by rw [Nat.testBit_and] at hp; simp at hp; exact hp.1
theorem and_sub' (a b : Nat) : Sub (a &&& b) b := sub_of fun p hp => by rw [Nat.testBit_and] at hp; simp at hp; exact hp.2
theorem bit_pow2 (p q : Nat) : (2 ^ p).testBit q = decide (p = q) := Nat.testBit_two_pow
theorem or_bit (T p q : Nat) : (T ||| 2 ^ p).testBit q = (T.testBit q || decide (p = q)) := by rw [Nat.testBit_or, bit_pow2]
theorem or_lt (T p : Nat) (hT : T < 16777216) (hp : p < 24) : T ||| 2 ^ p < 16777216 :=
  Nat.or_lt_two_pow (n := 24) hT (Nat.pow_lt_pow_right (by omega) hp)
theorem pop_or (T p : Nat) (hp : p < 24) (h : T.testBit p = false) : pop (T ||| 2 ^ p) = pop T + 1 := by
  rw [pop_sum, pop_sum, ← sumR_one 24 p hp, ← sumR_add]
  refine sumR_ext 24 _ _ fun q _ => ?_
  unfold bN
  rw [or_bit]
  by_cases hq : q = p
  · subst hq; simp [h]
  · have : ¬ p = q := fun e => hq e.symm
    simp [hq, this]
theorem pop_zero_ : pop 0 = 0 := by decide
theorem sub_eq {a b : Nat} (h : Sub a b) (ha : a < 16777216) (hb : b < 16777216) (hp : pop b ≤ pop a) : a = b := by
  have h1 := pop_xor b a
  rw [show b &&& a = a from h] at h1
  exact (xor_eq_zero (pop_zero (b ^^^ a) (xor_lt24 _ _ hb ha) (by omega))).symm
theorem new_place {F w : Nat} (hF : Sub F w) (hw : w < 16777216) (hF2 : F < 16777216) (h : pop F < pop w) : ∃ p, p < 24 ∧ w.testBit p = true ∧ F.testBit p = false := by
  refine Classical.byContradiction fun hn => ?_
  have : Sub w F := sub_of fun p hp => by
    cases hf : F.testBit p
    · refine absurd ⟨p, ?_, hp, hf⟩ hn
      refine Classical.byContradiction fun h24 => ?_
      have h2 : 2 ^ 24 ≤ 2 ^ p := Nat.pow_le_pow_right (by decide) (by omega)
      rw [Nat.testBit_lt_two_pow (show w < 2 ^ p by omega)] at hp
      exact absurd hp (by decide)
    · rfl
  have := this.le
  omega
theorem part_of (w : Nat) (hw : w < 16777216) (n : Nat) (hn : n ≤ pop w) : ∃ F, F < 16777216 ∧ Sub F w ∧ pop F = n := by
  induction n with
  | zero => exact ⟨0, by omega, sub_of (by simp), pop_zero_⟩
  | succ n ih =>
    obtain ⟨F, h1, h2, h3⟩ := ih (by omega)
    obtain ⟨p, p1, p2, p3⟩ := new_place h2 hw h1 (by omega)
    refine ⟨F ||| 2 ^ p, or_lt F p h1 p1, sub_of fun q hq => ?_, by rw [pop_or F p p1 p3, h3]⟩
    rw [or_bit] at hq
    simp at hq
    rcases hq with hq | rfl
    · exact h2.bit q hq
    · exact p2

/-! ### Counting twice -/
theorem dbl (L : List Int) (T : Nat) (h : ∀ x ∈ L, Sub T x.toNat ∧ pop x.toNat = 8) :
    sumR 24 (fun p => if T.testBit p then 0 else L.countP fun x => x.toNat.testBit p) = (8 - pop T) * L.length := by
  induction L with
  | nil => simp [sumR_zero]
  | cons x L ih =>
    have ih := ih fun y hy => h y (List.mem_cons_of_mem _ hy)
    obtain ⟨hx, h8⟩ := h x (List.mem_cons_self ..)
    have hS : sumR 24 (fun p => if T.testBit p then 0 else bN x.toNat p) + pop T = 8 := by
      rw [← h8, pop_sum T, pop_sum x.toNat, ← sumR_add]
      refine sumR_ext 24 _ _ fun p _ => ?_
      unfold bN
      by_cases hp : T.testBit p = true
      · simp [hp, hx.bit p hp]
      · simp [hp]
    rw [sumR_ext 24 _ (fun p => (if T.testBit p then 0 else L.countP fun x => x.toNat.testBit p) + (if T.testBit p then 0 else bN x.toNat p)), sumR_add, ih, List.length_cons, Nat.mul_add, Nat.mul_one]
    · omega
    · intro p _
      by_cases hp : T.testBit p = true
      · simp [hp]
      · simp only [hp, Bool.false_eq_true, if_false, List.countP_cons, bN]
theorem and_or_bit (x T p : Nat) : (decide (x &&& T = T) && x.testBit p) = decide (x &&& (T ||| 2 ^ p) = T ||| 2 ^ p) := by
  rw [Bool.eq_iff_iff]
  simp only [Bool.and_eq_true, decide_eq_true_eq]
  constructor
  · rintro ⟨h1, h2⟩
    refine sub_of (b := x) fun q hq => ?_
    rw [or_bit] at hq
    simp at hq
    rcases hq with hq | rfl
    · exact Sub.bit (b := x) h1 q hq
    · exact h2
  · intro h
    refine ⟨sub_of (b := x) fun q hq => ?_, Sub.bit (b := x) h p (by rw [or_bit]; simp)⟩
    exact Sub.bit (b := x) h q (by rw [or_bit, hq]; rfl)

/-! ### The octads through places -/
attribute [local irreducible] octS cN
def thr (T : Nat) : List Int := octS.filter fun x => decide (x.toNat &&& T = T)
theorem oct_nat {x : Int} (h : x ∈ octS) : ∃ m : Nat, m < 4096 ∧ x = ((cN m : Nat) : Int) ∧ x.toNat = cN m ∧ pop (cN m) = 8 := by
  obtain ⟨m, hm, e, w⟩ := (octS_is.2 x).1 h
  rw [codeOf_cN m hm] at e
  rw [← e, wt_pop] at w
  exact ⟨m, hm, e.symm, by rw [← e, Int.toNat_natCast], by omega⟩
theorem nat_oct {m : Nat} (hm : m < 4096) (h : pop (cN m) = 8) : ((cN m : Nat) : Int) ∈ octS :=
  (octS_is.2 _).2 ⟨m, hm, codeOf_cN m hm, by rw [wt_pop, h]; decide⟩
theorem thr_mem {T : Nat} {x : Int} : x ∈ thr T ↔ x ∈ octS ∧ Sub T x.toNat := by
  unfold thr
  rw [List.mem_filter, decide_eq_true_eq]
  exact Iff.rfl
theorem thr_nodup (T : Nat) : (thr T).Nodup := octS_is.1.nodup.sublist List.filter_sublist
theorem one_of_all {L : List Int} (h : L.Nodup) (h2 : ∀ x ∈ L, ∀ y ∈ L, x = y) : L.length ≤ 1 := by
  match L, h with
  | [], _ => exact Nat.zero_le _
  | [x], _ => exact Nat.le_refl _
  | x :: y :: r, h =>
    exfalso
    have e := h2 x (by simp) y (by simp)
    rw [List.nodup_cons] at h
    exact h.1 (by rw [e]; simp)
theorem thr_le (T : Nat) (h : 5 ≤ pop T) : (thr T).length ≤ 1 := by
  refine one_of_all (thr_nodup T) fun x hx y hy => ?_
  obtain ⟨hx1, hx2⟩ := thr_mem.1 hx
  obtain ⟨hy1, hy2⟩ := thr_mem.1 hy
  obtain ⟨m, hm, ex, ex2, px⟩ := oct_nat hx1
  obtain ⟨n, hn, ey, ey2, py⟩ := oct_nat hy1
  rw [ex2] at hx2
  rw [ey2] at hy2
  have h1 := pop_xor (cN m) T
  have h2 := pop_xor (cN n) T
  rw [show cN m &&& T = T from hx2] at h1
  rw [show cN n &&& T = T from hy2] at h2
  rw [ex, ey, near_unique m n T hm hn (by unfold dN; omega)]
theorem thr_ex (F : Nat) (hF : F < 16777216) (h5 : pop F = 5) : ∃ x, x ∈ thr F := by
  obtain ⟨m, hm, _, hd⟩ := far_ex F hF
  unfold dN at hd
  have h1 := pop_xor (cN m) F
  have h2 := (code_wts m hm).1
  have h3 := (and_sub (cN m) F).le
  have h4 := (and_sub' (cN m) F).le
  have h8 : pop (cN m) = 8 ∧ pop (cN m &&& F) = 5 := by omega
  refine ⟨((cN m : Nat) : Int), thr_mem.2 ⟨nat_oct hm h8.1, ?_⟩⟩
  rw [Int.toNat_natCast]
  have hlt : cN m &&& F < 16777216 := Nat.lt_of_le_of_lt Nat.and_le_right hF
  exact sub_eq (and_sub' (cN m) F) hlt hF (by omega)
theorem thr5 (F : Nat) (hF : F < 16777216) (h5 : pop F = 5) : (thr F).length = 1 := by
  obtain ⟨x, hx⟩ := thr_ex F hF h5
  have := List.length_pos_of_mem hx
  have := thr_le F (by omega)
  omega
theorem thr_step (T c : Nat) (hT : T < 16777216) (h : ∀ p, p < 24 → T.testBit p = false → (thr (T ||| 2 ^ p)).length = c) : (8 - pop T) * (thr T).length = (24 - pop T) * c := by
  rw [← dbl (thr T) T fun x hx => by
    obtain ⟨h1, h2⟩ := thr_mem.1 hx
    obtain ⟨m, _, _, e, p8⟩ := oct_nat h1
    exact ⟨h2, by rw [e]; exact p8⟩]
  have hS : sumR 24 (fun p => if T.testBit p then 0 else 1) + pop T = 24 := by
    have h24 : sumR 24 (fun _ => 1) = 24 := rfl
    rw [pop_sum, ← sumR_add]
    refine Eq.trans (sumR_ext 24 _ _ fun p _ => ?_) h24
    unfold bN
    by_cases hp : T.testBit p = true <;> simp [hp]
  rw [show 24 - pop T = sumR 24 (fun p => if T.testBit p then 0 else 1) by omega, Nat.mul_comm, ← sumR_mul]
  refine sumR_ext 24 _ _ fun p hp => ?_
  by_cases hb : T.testBit p = true
  · simp [hb]
  · have hb' : T.testBit p = false := by simpa using hb
    simp only [hb', Bool.false_eq_true, if_false, Nat.mul_one]
    rw [← h p hp hb', List.countP_eq_length_filter]
    unfold thr
    rw [List.filter_filter]
    refine congrArg List.length (List.filter_congr fun x _ => ?_)
    rw [← and_or_bit, Bool.and_comm]
theorem thr_down (t c d : Nat) (ht : t < 8) (hc : ∀ T, T < 16777216 → pop T = t + 1 → (thr T).length = c) (hd : (8 - t) * d = (24 - t) * c) (T : Nat) (hT : T < 16777216) (hp : pop T = t) : (thr T).length = d := by
  have := thr_step T c hT fun p h1 h2 => hc _ (or_lt T p hT h1) (by rw [pop_or T p h1 h2, hp])
  rw [hp, ← hd] at this
  exact Nat.eq_of_mul_eq_mul_left (by omega) this
theorem thr4 : ∀ T, T < 16777216 → pop T = 4 → (thr T).length = 5 := thr_down 4 1 5 (by omega) thr5 (by omega)
theorem thr3 : ∀ T, T < 16777216 → pop T = 3 → (thr T).length = 21 := thr_down 3 5 21 (by omega) thr4 (by omega)
theorem thr2 : ∀ T, T < 16777216 → pop T = 2 → (thr T).length = 77 := thr_down 2 21 77 (by omega) thr3 (by omega)
theorem thr1 : ∀ T, T < 16777216 → pop T = 1 → (thr T).length = 253 := thr_down 1 77 253 (by omega) thr2 (by omega)
theorem thr0 : (thr 0).length = 759 := thr_down 0 253 759 (by omega) thr1 (by omega) 0 (by omega) pop_zero_
theorem thr_all : thr 0 = octS := by
  unfold thr
  rw [List.filter_eq_self]
  intro x _
  simp
theorem octS_759 : octS.length = 759 := by rw [← thr_all]; exact thr0
end Go.Proofs.YtiinekoepoonfabDoor
