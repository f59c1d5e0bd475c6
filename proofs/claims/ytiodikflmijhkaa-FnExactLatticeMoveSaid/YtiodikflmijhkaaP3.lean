import Derived.Test.YtiodikflmijhkaaM14
import Derived.Test.YtiodikflmijhkaaP2
/- The octads in a row: gathered by messages, sorted. Merging, plain. No program is named here. -/
namespace Go.Proofs.Ytiodikflmijhkaa
set_option linter.unusedVariables false

/-- The octads of the messages below k, in their order. -/
def octF : Nat → List Int
  | 0 => []
  | k + 1 => if wt (codeOf k) = 8 then octF k ++ [codeOf k] else octF k
theorem octF_len (k : Nat) : (octF k).length ≤ k := by
  induction k with
  | zero => simp [octF]
  | succ k ih => simp only [octF]; split <;> (try simp) <;> omega
theorem octF_mem (k : Nat) (x : Int) : x ∈ octF k ↔ ∃ m : Nat, m < k ∧ codeOf m = x ∧ wt x = 8 := by
  induction k with
  | zero => simp [octF]
  | succ k ih =>
    simp only [octF]
    split
    · rename_i h8
      rw [List.mem_append, ih]
      constructor
      · rintro (⟨m, h, e, w⟩ | h)
        · exact ⟨m, by omega, e, w⟩
        · have e : x = codeOf k := by simpa using h
          exact ⟨k, by omega, e.symm, by rw [e]; exact h8⟩
      · rintro ⟨m, h, e, w⟩
        by_cases hm : m = k
        · exact .inr (by rw [← e, hm]; simp)
        · exact .inl ⟨m, by omega, e, w⟩
    · rename_i h8
      rw [ih]
      constructor
      · rintro ⟨m, h, e, w⟩; exact ⟨m, by omega, e, w⟩
      · rintro ⟨m, h, e, w⟩
        by_cases hm : m = k
        · exact absurd (by rw [← hm, e]; exact w) h8
        · exact ⟨m, by omega, e, w⟩
theorem octF_nodup (k : Nat) (hk : k ≤ 4096) : (octF k).Nodup := by
  induction k with
  | zero => simp [octF]
  | succ k ih =>
    simp only [octF]
    split
    · rw [List.nodup_append]
      refine ⟨ih (by omega), by simp, ?_⟩
      intro a ha b hb e
      have e2 : b = codeOf k := by simpa using hb
      obtain ⟨m, hm, e3, _⟩ := (octF_mem k a).1 ha
      have := codeOf_inj m k (by omega) (by omega) (by rw [e3, e, e2])
      omega
    · exact ih (by omega)
/-- A list is the octads in a row. -/
def IsOcts (L : List Int) : Prop := Asc L ∧ ∀ x, x ∈ L ↔ ∃ m : Nat, m < 4096 ∧ codeOf m = x ∧ wt x = 8
theorem octs_same {L M : List Int} (hL : IsOcts L) (hM : IsOcts M) : L = M := asc_ext L M hL.1 hM.1 fun x => (hL.2 x).trans (hM.2 x).symm
theorem octs_of (k : Nat) (hk : k = 4096) (L : List Int) (hp : L.Perm (octF k)) (hs : L.Pairwise (· ≤ ·)) : IsOcts L := by
  have hn : L.Nodup := hp.nodup_iff.2 (octF_nodup k (by omega))
  refine ⟨?_, fun x => ?_⟩
  · unfold Asc
    exact (hs.and hn).imp fun {a b} h => by omega
  · rw [hp.mem_iff, octF_mem, hk]
def octK (k : Nat) : List Int := (octF k).mergeSort fun x y => decide (x ≤ y)
theorem ms_pair (L : List Int) : (L.mergeSort fun x y => decide (x ≤ y)).Pairwise (· ≤ ·) := by
  have := List.pairwise_mergeSort (le := fun (x y : Int) => decide (x ≤ y)) (by intro a b c; simp; omega) (by intro a b; simp; omega) L
  exact this.imp (by intro a b h; simpa using h)
theorem octK_is (k : Nat) (hk : k = 4096) : IsOcts (octK k) := octs_of k hk _ (List.mergeSort_perm _ _) (ms_pair _)
def octS : List Int := octK 4096
theorem octS_is : IsOcts octS := octK_is 4096 rfl
theorem octs_eq (k : Nat) (hk : k = 4096) (L : List Int) (hp : L.Perm (octF k)) (hs : L.Pairwise (· ≤ ·)) : L = octS := octs_same (octs_of k hk L hp hs) octS_is
theorem octS_len (k : Nat) (hk : k = 4096) : octS.length ≤ k := by
  have h := octK_is k hk
  rw [octs_same octS_is h]
  unfold octK
  rw [List.length_mergeSort]
  exact octF_len k
/-- Two rows made one. -/
def mrg (a b : List Int) : List Int := List.merge a b fun x y => decide (x ≤ y)
theorem mrg_nil (a : List Int) : mrg a [] = a := by cases a <;> simp [mrg]
theorem nil_mrg (b : List Int) : mrg [] b = b := by simp [mrg]
theorem mrg_left {x y : Int} {a b : List Int} (h : x ≤ y) : mrg (x :: a) (y :: b) = x :: mrg a (y :: b) := by simp [mrg, h]
theorem mrg_right {x y : Int} {a b : List Int} (h : ¬ x ≤ y) : mrg (x :: a) (y :: b) = y :: mrg (x :: a) b := by simp [mrg, h]
theorem mrg_perm (a b : List Int) : (mrg a b).Perm (a ++ b) := List.merge_perm_append _
theorem mrg_pair {a b : List Int} (ha : a.Pairwise (· ≤ ·)) (hb : b.Pairwise (· ≤ ·)) : (mrg a b).Pairwise (· ≤ ·) := by
  have := List.pairwise_merge (le := fun (x y : Int) => decide (x ≤ y)) (by intro a b c; simp; omega) (by intro a b; simp; omega) a b (ha.imp (by intro a b h; simpa using h)) (hb.imp (by intro a b h; simpa using h))
  exact this.imp (by intro a b h; simpa using h)
theorem drop_cons (a : List Int) (i : Nat) (h : i < a.length) : a.drop i = a.getD i 0 :: a.drop (i + 1) := by
  rw [List.drop_eq_getElem_cons h, List.getD_eq_getElem?_getD, List.getElem?_eq_getElem h]
  rfl
theorem mrg_takeA {a b zs : List Int} {i k : Nat} (hi : i < a.length) (hk : k ≤ b.length) (hle : k = b.length ∨ (k < b.length ∧ a.getD i 0 ≤ b.getD k 0)) (h : zs ++ mrg (a.drop i) (b.drop k) = mrg a b) : (zs ++ [a.getD i 0]) ++ mrg (a.drop (i + 1)) (b.drop k) = mrg a b := by
  rw [← h, List.append_assoc]
  congr 1
  rw [drop_cons a i hi]
  rcases hle with rfl | ⟨hk2, hle⟩
  · simp [mrg_nil]
  · rw [drop_cons b k hk2, mrg_left hle]; rfl
theorem mrg_takeB {a b zs : List Int} {i k : Nat} (hi : i ≤ a.length) (hk : k < b.length) (hle : i = a.length ∨ (i < a.length ∧ ¬ a.getD i 0 ≤ b.getD k 0)) (h : zs ++ mrg (a.drop i) (b.drop k) = mrg a b) : (zs ++ [b.getD k 0]) ++ mrg (a.drop i) (b.drop (k + 1)) = mrg a b := by
  rw [← h, List.append_assoc]
  congr 1
  rw [drop_cons b k hk]
  rcases hle with rfl | ⟨hi2, hle⟩
  · simp [nil_mrg]
  · rw [drop_cons a i hi2, mrg_right hle]; rfl
theorem mrg_len (a b : List Int) : (mrg a b).length = a.length + b.length := by rw [(mrg_perm a b).length_eq, List.length_append]
end Go.Proofs.Ytiodikflmijhkaa
/- The octads as a design: any five places are in just one; counting twice. No program is named here. -/
namespace Go.Proofs.Ytiodikflmijhkaa
set_option linter.unusedVariables false

/-! ### Sums -/
def sumR : Nat → (Nat → Nat) → Nat
  | 0, _ => 0
  | n + 1, f => sumR n f + f n
theorem sumR_add (n : Nat) (f g : Nat → Nat) : sumR n (fun p => f p + g p) = sumR n f + sumR n g := by
  induction n with
  | zero => rfl
  | succ n ih => simp only [sumR]; omega
theorem sumR_ext (n : Nat) (f g : Nat → Nat) (h : ∀ p, p < n → f p = g p) : sumR n f = sumR n g := by
  induction n with
  | zero => rfl
  | succ n ih => simp only [sumR]; rw [ih fun p hp => h p (by omega), h n (by omega)]
theorem sumR_le (n : Nat) (f g : Nat → Nat) (h : ∀ p, p < n → f p ≤ g p) : sumR n f ≤ sumR n g := by
  induction n with
  | zero => exact Nat.le_refl _
  | succ n ih => simp only [sumR]; have := ih fun p hp => h p (by omega); have := h n (by omega); omega
theorem sumR_mul (n c : Nat) (f : Nat → Nat) : sumR n (fun p => c * f p) = c * sumR n f := by
  induction n with
  | zero => rfl
  | succ n ih => simp only [sumR]; rw [ih, Nat.mul_add]
theorem sumR_zero (n : Nat) : sumR n (fun _ => 0) = 0 := by
  induction n with
  | zero => rfl
  | succ n ih => simp only [sumR]; rw [ih]
theorem sumR_one (n p : Nat) (h : p < n) : sumR n (fun q => if q = p then 1 else 0) = 1 := by
  induction n with
  | zero => omega
  | succ n ih =>
    simp only [sumR]
    by_cases hp : n = p
    · rw [if_pos hp, sumR_ext n _ (fun _ => 0) (fun q hq => if_neg (by omega)), sumR_zero]
    · rw [if_neg hp, ih (by omega)]
def bN (v p : Nat) : Nat := if v.testBit p then 1 else 0
theorem bN_le (v p : Nat) : bN v p ≤ 1 := by unfold bN; split <;> omega
theorem popN_top : ∀ (k v : Nat), popN (k + 1) v = popN k v + bN v k
  | 0, v => by
    simp only [popN, bN, Nat.testBit_zero]
    have : v % 2 = 0 ∨ v % 2 = 1 := by omega
    rcases this with h | h <;> simp [h]
  | k + 1, v => by
    have ih := popN_top k (v / 2)
    have hb : bN (v / 2) k = bN v (k + 1) := by simp only [bN, Nat.testBit_succ]
    rw [hb] at ih
    show v % 2 + popN (k + 1) (v / 2) = v % 2 + popN k (v / 2) + _
    omega
theorem popN_sum (k v : Nat) : popN k v = sumR k (bN v) := by
  induction k with
  | zero => rfl
  | succ k ih => rw [popN_top, ih]; rfl
theorem pop_sum (v : Nat) : pop v = sumR 24 (bN v) := popN_sum 24 v

/-! ### One word in another -/
def Sub (a b : Nat) : Prop := b &&& a = a
theorem Sub.bit {a b : Nat} (h : Sub a b) (p : Nat) (hp : a.testBit p = true) : b.testBit p = true := by
  rw [← h, Nat.testBit_and] at hp
  simp at hp
  exact hp.1
theorem sub_of {a b : Nat} (h : ∀ p, a.testBit p = true → b.testBit p = true) : Sub a b := by
  refine Nat.eq_of_testBit_eq fun p => ?_
  rw [Nat.testBit_and]
  cases ha : a.testBit p
  · simp
  · simp [h p ha]
theorem Sub.trans {a b c : Nat} (h : Sub a b) (k : Sub b c) : Sub a c := sub_of fun p hp => k.bit p (h.bit p hp)
theorem Sub.le {a b : Nat} (h : Sub a b) : pop a ≤ pop b := by
  rw [pop_sum, pop_sum]
  refine sumR_le 24 _ _ fun p _ => ?_
  unfold bN
  by_cases ha : a.testBit p
  · rw [if_pos ha, if_pos (h.bit p ha)]; exact Nat.le_refl _
  · rw [if_neg ha]; exact Nat.zero_le _
theorem and_sub (a b : Nat) : Sub (a &&& b) a := sub_of fun p hp => by rw [Nat.testBit_and] at hp; simp at hp; exact hp.1
theorem and_sub' (a b : Nat) : Sub (a &&& b) b := sub_of fun p hp => by rw [Nat.testBit_and] at hp; simp at hp; exact hp.2
theorem bit_pow2 (p q : Nat) : (2 ^ p).testBit q = decide (p = q) := Nat.testBit_two_pow
theorem or_bit (T p q : Nat) : (T ||| 2 ^ p).testBit q = (T.testBit q || decide (p = q)) := by rw [Nat.testBit_or, bit_pow2]
theorem or_lt (T p : Nat) (hT : T < 16777216) (hp : p < 24) : T ||| 2 ^ p < 16777216 :=
  Nat.or_lt_two_pow (n := 24) hT (Nat.pow_lt_pow_right (by omega) hp)
theorem pop_or (T p : Nat) (hp : p < 24) (h : T.testBit p = false) : pop (T ||| 2 ^ p) = pop T + 1 := by
  rw [pop_sum, pop_sum, ← sumR_one 24 p hp, ← sumR_add]
  refine sumR_ext 24 _ _ fun q _ => ?_
  unfold bN
  rw [or_bit]
  by_cases hq : q = p
  · subst hq; simp [h]
  · have : ¬ p = q := fun e => hq e.symm
    simp [hq, this]
theorem pop_zero_ : pop 0 = 0 := by decide
theorem sub_eq {a b : Nat} (h : Sub a b) (ha : a < 16777216) (hb : b < 16777216) (hp : pop b ≤ pop a) : a = b := by
  have h1 := pop_xor b a
  rw [show b &&& a = a from h] at h1
  exact (xor_eq_zero (pop_zero (b ^^^ a) (xor_lt24 _ _ hb ha) (by omega))).symm
theorem new_place {F w : Nat} (hF : Sub F w) (hw : w < 16777216) (hF2 : F < 16777216) (h : pop F < pop w) : ∃ p, p < 24 ∧ w.testBit p = true ∧ F.testBit p = false := by
  refine Classical.byContradiction fun hn => ?_
  have : Sub w F := sub_of fun p hp => by
    cases hf : F.testBit p
    · refine absurd ⟨p, ?_, hp, hf⟩ hn
      refine Classical.byContradiction fun h24 => ?_
      have h2 : 2 ^ 24 ≤ 2 ^ p := Nat.pow_le_pow_right (by decide) (by omega)
      rw [Nat.testBit_lt_two_pow (show w < 2 ^ p by omega)] at hp
      exact absurd hp (by decide)
    · rfl
  have := this.le
  omega
theorem part_of (w : Nat) (hw : w < 16777216) (n : Nat) (hn : n ≤ pop w) : ∃ F, F < 16777216 ∧ Sub F w ∧ pop F = n := by
  induction n with
  | zero => exact ⟨0, by omega, sub_of (by simp), pop_zero_⟩
  | succ n ih =>
    obtain ⟨F, h1, h2, h3⟩ := ih (by omega)
    obtain ⟨p, p1, p2, p3⟩ := new_place h2 hw h1 (by omega)
    refine ⟨F ||| 2 ^ p, or_lt F p h1 p1, sub_of fun q hq => ?_, by rw [pop_or F p p1 p3, h3]⟩
    rw [or_bit] at hq
    simp at hq
    rcases hq with hq | rfl
    · exact h2.bit q hq
    · exact p2

/-! ### Counting twice -/
theorem dbl (L : List Int) (T : Nat) (h : ∀ x ∈ L, Sub T x.toNat ∧ pop x.toNat = 8) :
    sumR 24 (fun p => if T.testBit p then 0 else L.countP fun x => x.toNat.testBit p) = (8 - pop T) * L.length := by
  induction L with
  | nil => simp [sumR_zero]
  | cons x L ih =>
    have ih := ih fun y hy => h y (List.mem_cons_of_mem _ hy)
    obtain ⟨hx, h8⟩ := h x (List.mem_cons_self ..)
    have hS : sumR 24 (fun p => if T.testBit p then 0 else bN x.toNat p) + pop T = 8 := by
      rw [← h8, pop_sum T, pop_sum x.toNat, ← sumR_add]
      refine sumR_ext 24 _ _ fun p _ => ?_
      unfold bN
      by_cases hp : T.testBit p = true
      · simp [hp, hx.bit p hp]
      · simp [hp]
    rw [sumR_ext 24 _ (fun p => (if T.testBit p then 0 else L.countP fun x => x.toNat.testBit p) + (if T.testBit p then 0 else bN x.toNat p)), sumR_add, ih, List.length_cons, Nat.mul_add, Nat.mul_one]
    · omega
    · intro p _
      by_cases hp : T.testBit p = true
      · simp [hp]
      · simp only [hp, Bool.false_eq_true, if_false, List.countP_cons, bN]
theorem and_or_bit (x T p : Nat) : (decide (x &&& T = T) && x.testBit p) = decide (x &&& (T ||| 2 ^ p) = T ||| 2 ^ p) := by
  rw [Bool.eq_iff_iff]
  simp only [Bool.and_eq_true, decide_eq_true_eq]
  constructor
  · rintro ⟨h1, h2⟩
    refine sub_of (b := x) fun q hq => ?_
    rw [or_bit] at hq
    simp at hq
    rcases hq with hq | rfl
    · exact Sub.bit (b := x) h1 q hq
    · exact h2
  · intro h
    refine ⟨sub_of (b := x) fun q hq => ?_, Sub.bit (b := x) h p (by rw [or_bit]; simp)⟩
    exact Sub.bit (b := x) h q (by rw [or_bit, hq]; rfl)

/-! ### The octads through places -/
attribute [local irreducible] octS cN
def thr (T : Nat) : List Int := octS.filter fun x => decide (x.toNat &&& T = T)
theorem oct_nat {x : Int} (h : x ∈ octS) : ∃ m : Nat, m < 4096 ∧ x = ((cN m : Nat) : Int) ∧ x.toNat = cN m ∧ pop (cN m) = 8 := by
  obtain ⟨m, hm, e, w⟩ := (octS_is.2 x).1 h
  rw [codeOf_cN m hm] at e
  rw [← e, wt_pop] at w
  exact ⟨m, hm, e.symm, by rw [← e, Int.toNat_natCast], by omega⟩
theorem nat_oct {m : Nat} (hm : m < 4096) (h : pop (cN m) = 8) : ((cN m : Nat) : Int) ∈ octS :=
  (octS_is.2 _).2 ⟨m, hm, codeOf_cN m hm, by rw [wt_pop, h]; decide⟩
theorem thr_mem {T : Nat} {x : Int} : x ∈ thr T ↔ x ∈ octS ∧ Sub T x.toNat := by
  unfold thr
  rw [List.mem_filter, decide_eq_true_eq]
  exact Iff.rfl
theorem thr_nodup (T : Nat) : (thr T).Nodup := octS_is.1.nodup.sublist List.filter_sublist
theorem one_of_all {L : List Int} (h : L.Nodup) (h2 : ∀ x ∈ L, ∀ y ∈ L, x = y) : L.length ≤ 1 := by
  match L, h with
  | [], _ => exact Nat.zero_le _
  | [x], _ => exact Nat.le_refl _
  | x :: y :: r, h =>
    exfalso
    have e := h2 x (by simp) y (by simp)
    rw [List.nodup_cons] at h
    exact h.1 (by rw [e]; simp)
theorem thr_le (T : Nat) (h : 5 ≤ pop T) : (thr T).length ≤ 1 := by
  refine one_of_all (thr_nodup T) fun x hx y hy => ?_
  obtain ⟨hx1, hx2⟩ := thr_mem.1 hx
  obtain ⟨hy1, hy2⟩ := thr_mem.1 hy
  obtain ⟨m, hm, ex, ex2, px⟩ := oct_nat hx1
  obtain ⟨n, hn, ey, ey2, py⟩ := oct_nat hy1
  rw [ex2] at hx2
  rw [ey2] at hy2
  have h1 := pop_xor (cN m) T
  have h2 := pop_xor (cN n) T
  rw [show cN m &&& T = T from hx2] at h1
  rw [show cN n &&& T = T from hy2] at h2
  rw [ex, ey, near_unique m n T hm hn (by unfold dN; omega)]
theorem thr_ex (F : Nat) (hF : F < 16777216) (h5 : pop F = 5) : ∃ x, x ∈ thr F := by
  obtain ⟨m, hm, _, hd⟩ := far_ex F hF
  unfold dN at hd
  have h1 := pop_xor (cN m) F
  have h2 := (code_wts m hm).1
  have h3 := (and_sub (cN m) F).le
  have h4 := (and_sub' (cN m) F).le
  have h8 : pop (cN m) = 8 ∧ pop (cN m &&& F) = 5 := by omega
  refine ⟨((cN m : Nat) : Int), thr_mem.2 ⟨nat_oct hm h8.1, ?_⟩⟩
  rw [Int.toNat_natCast]
  have hlt : cN m &&& F < 16777216 := Nat.lt_of_le_of_lt Nat.and_le_right hF
  exact sub_eq (and_sub' (cN m) F) hlt hF (by omega)
theorem thr5 (F : Nat) (hF : F < 16777216) (h5 : pop F = 5) : (thr F).length = 1 := by
  obtain ⟨x, hx⟩ := thr_ex F hF h5
  have := List.length_pos_of_mem hx
  have := thr_le F (by omega)
  omega
theorem thr_step (T c : Nat) (hT : T < 16777216) (h : ∀ p, p < 24 → T.testBit p = false → (thr (T ||| 2 ^ p)).length = c) : (8 - pop T) * (thr T).length = (24 - pop T) * c := by
  rw [← dbl (thr T) T fun x hx => by
    obtain ⟨h1, h2⟩ := thr_mem.1 hx
    obtain ⟨m, _, _, e, p8⟩ := oct_nat h1
    exact ⟨h2, by rw [e]; exact p8⟩]
  have hS : sumR 24 (fun p => if T.testBit p then 0 else 1) + pop T = 24 := by
    have h24 : sumR 24 (fun _ => 1) = 24 := rfl
    rw [pop_sum, ← sumR_add]
    refine Eq.trans (sumR_ext 24 _ _ fun p _ => ?_) h24
    unfold bN
    by_cases hp : T.testBit p = true <;> simp [hp]
  rw [show 24 - pop T = sumR 24 (fun p => if T.testBit p then 0 else 1) by omega, Nat.mul_comm, ← sumR_mul]
  refine sumR_ext 24 _ _ fun p hp => ?_
  by_cases hb : T.testBit p = true
  · simp [hb]
  · have hb' : T.testBit p = false := by simpa using hb
    simp only [hb', Bool.false_eq_true, if_false, Nat.mul_one]
    rw [← h p hp hb', List.countP_eq_length_filter]
    unfold thr
    rw [List.filter_filter]
    refine congrArg List.length (List.filter_congr fun x _ => ?_)
    rw [← and_or_bit, Bool.and_comm]
theorem thr_down (t c d : Nat) (ht : t < 8) (hc : ∀ T, T < 16777216 → pop T = t + 1 → (thr T).length = c) (hd : (8 - t) * d = (24 - t) * c) (T : Nat) (hT : T < 16777216) (hp : pop T = t) : (thr T).length = d := by
  have := thr_step T c hT fun p h1 h2 => hc _ (or_lt T p hT h1) (by rw [pop_or T p h1 h2, hp])
  rw [hp, ← hd] at this
  exact Nat.eq_of_mul_eq_mul_left (by omega) this
theorem thr4 : ∀ T, T < 16777216 → pop T = 4 → (thr T).length = 5 := thr_down 4 1 5 (by omega) thr5 (by omega)
theorem thr3 : ∀ T, T < 16777216 → pop T = 3 → (thr T).length = 21 := thr_down 3 5 21 (by omega) thr4 (by omega)
theorem thr2 : ∀ T, T < 16777216 → pop T = 2 → (thr T).length = 77 := thr_down 2 21 77 (by omega) thr3 (by omega)
theorem thr1 : ∀ T, T < 16777216 → pop T = 1 → (thr T).length = 253 := thr_down 1 77 253 (by omega) thr2 (by omega)
theorem thr0 : (thr 0).length = 759 := thr_down 0 253 759 (by omega) thr1 (by omega) 0 (by omega) pop_zero_
theorem thr_all : thr 0 = octS := by
  unfold thr
  rw [List.filter_eq_self]
  intro x _
  simp
theorem octS_759 : octS.length = 759 := by rw [← thr_all]; exact thr0
end Go.Proofs.Ytiodikflmijhkaa
/- Counting octads: lists that are counted, the least octad of a dodecad. No program is named here. -/
namespace Go.Proofs.Ytiodikflmijhkaa
set_option linter.unusedVariables false
theorem octF_zero : octF 0 = [] := rfl
theorem octF_succ (k : Nat) : octF (k + 1) = if wt (codeOf k) = 8 then octF k ++ [codeOf k] else octF k := rfl
attribute [local irreducible] octS cN octF

def IsOct (x : Int) : Prop := ∃ m : Nat, m < 4096 ∧ codeOf m = x ∧ wt x = 8
theorem IsOct.rng {x : Int} (h : IsOct x) : 0 ≤ x ∧ x ≤ 16777215 := by
  obtain ⟨m, _, rfl, _⟩ := h
  exact codeOf_range _
theorem IsOct.w8 {x : Int} (h : IsOct x) : wt x = 8 := by obtain ⟨m, _, _, h⟩ := h; exact h
theorem oct_iff {x : Int} : x ∈ octS ↔ IsOct x := octS_is.2 x
theorem getD_at (L : List Int) (i : Nat) (h : i < L.length) : L[i] = L.getD i 0 := by simp [List.getD_eq_getElem?_getD, h]
theorem oct_at (k : Nat) (hk : k < 759) : IsOct (octS.getD k 0) := by
  rw [← oct_iff, ← getD_at octS k (by rw [octS_759]; exact hk)]
  exact List.getElem_mem _
theorem oct_lt {i j : Nat} (hij : i < j) (hj : j < 759) : octS.getD i 0 < octS.getD j 0 := asc_get octS_is.1 hij (by rw [octS_759]; exact hj)
theorem tk_succ (xs : List Int) (k : Nat) (h : k < xs.length) : xs.take (k + 1) = xs.take k ++ [xs.getD k 0] := by
  rw [List.take_succ_eq_append_getElem h]; simp [List.getElem?_eq_getElem h]
theorem oct_take (k : Nat) (hk : k < 759) : octS.take (k + 1) = octS.take k ++ [octS.getD k 0] := tk_succ octS k (by rw [octS_759]; exact hk)
theorem oct_take_all : octS.take 759 = octS := List.take_of_length_le (by rw [octS_759]; exact Nat.le_refl _)
theorem octF_perm (k : Nat) (hk : k = 4096) : (octF k).Perm octS := by
  refine (List.perm_ext_iff_of_nodup (octF_nodup k (by omega)) octS_is.1.nodup).2 fun x => ?_
  rw [octF_mem, hk]
  exact oct_iff.symm

/-! ### Those with places, and without -/
def oWith (W : Int) : List Int := octS.filter fun x => andI x W == W
def oC (a b : Int) (x : Int) : Bool := andI x a == a && andI x b == 0
theorem filter_snoc (L : List Int) (P : Int → Bool) (x : Int) : (L ++ [x]).filter P = if P x then L.filter P ++ [x] else L.filter P := by
  rw [List.filter_append]
  by_cases h : P x = true <;> simp [h]
theorem countP_snoc (L : List Int) (P : Int → Bool) (x : Int) : (L ++ [x]).countP P = L.countP P + if P x then 1 else 0 := by
  rw [List.countP_append]
  by_cases h : P x = true <;> simp [h]
theorem andI_sub (x T : Nat) : (andI (x : Int) (T : Int) == (T : Int)) = decide (x &&& T = T) := by
  unfold andI
  simp only [Int.toNat_natCast]
  by_cases h : x &&& T = T
  · simp [h]
  · have : ¬ ((x &&& T : Nat) : Int) = (T : Int) := by omega
    simp [h, this]
theorem oWith_thr (T : Nat) : oWith (T : Int) = thr T := by
  unfold oWith thr
  refine List.filter_congr fun x hx => ?_
  obtain ⟨m, _, e, e2, _⟩ := oct_nat hx
  rw [e2, e, andI_sub]
theorem oWith_len (W : Int) : (oWith W).length ≤ 759 := by
  unfold oWith
  have := List.length_filter_le (fun x => andI x W == W) octS
  rw [octS_759] at this
  exact this
theorem oWith_mem {W x : Int} : x ∈ oWith W ↔ IsOct x ∧ andI x W = W := by
  unfold oWith
  rw [List.mem_filter, oct_iff]
  simp
theorem oWith_asc (W : Int) : Asc (oWith W) := octS_is.1.sublist List.filter_sublist

/-! ### Counted by common places -/
def cnt9 (w : Int) (L : List Int) : List Int := (List.range 9).map fun (k : Nat) => ((L.countP fun x => wt (andI x w) == (k : Int) : Nat) : Int)
theorem cnt9_len (w : Int) (L : List Int) : (cnt9 w L).length = 9 := by simp [cnt9]
theorem cnt9_get (w : Int) (L : List Int) (j : Nat) (h : j < 9) : (cnt9 w L).getD j 0 = ((L.countP fun x => wt (andI x w) == (j : Int) : Nat) : Int) := by
  simp [cnt9, List.getD_eq_getElem?_getD, h]
theorem cnt9_nil (w : Int) : cnt9 w [] = [0, 0, 0, 0, 0, 0, 0, 0, 0] := rfl
theorem cnt9_snoc (w : Int) (L : List Int) (x : Int) (j : Nat) (hj : j < 9) (h : wt (andI x w) = (j : Int)) : cnt9 w (L ++ [x]) = (cnt9 w L).set j ((cnt9 w L).getD j 0 + 1) := by
  refine List.ext_getElem (by simp [cnt9_len]) fun i h1 h2 => ?_
  have hi : i < 9 := by rw [cnt9_len] at h1; exact h1
  rw [getD_at _ i h1, cnt9_get w _ i hi, countP_snoc, List.getElem_set, h]
  by_cases hij : j = i
  · subst hij
    rw [if_pos rfl, cnt9_get w L j hj]
    simp
  · have hne : ((j : Int) == (i : Int)) = false := by simp; omega
    rw [if_neg hij, getD_at _ i, cnt9_get w L i hi, hne]
    simp
theorem cnt9_perm (w : Int) {L M : List Int} (h : L.Perm M) : cnt9 w L = cnt9 w M := by
  unfold cnt9
  refine List.map_congr_left fun k _ => ?_
  rw [h.countP_eq]
theorem cnt9_rng (w : Int) (L : List Int) (j : Nat) (h : j < 9) : 0 ≤ (cnt9 w L).getD j 0 ∧ (cnt9 w L).getD j 0 ≤ L.length := by
  rw [cnt9_get w L j h]
  have := List.countP_le_length (p := fun x => wt (andI x w) == (j : Int)) (l := L)
  omega
theorem wt_and_le (a b : Int) (ha : 0 ≤ a) (hb : 0 ≤ b) : wt (andI a b) ≤ wt a ∧ wt (andI a b) ≤ wt b := by
  obtain ⟨A, rfl⟩ := Int.eq_ofNat_of_zero_le ha
  obtain ⟨B, rfl⟩ := Int.eq_ofNat_of_zero_le hb
  have h1 := (and_sub A B).le
  have h2 := (and_sub' A B).le
  have e : andI (A : Int) (B : Int) = ((A &&& B : Nat) : Int) := by unfold andI; simp
  rw [e, wt_pop, wt_pop, wt_pop]
  omega

/-! ### Dodecads -/
def dodB (w : Int) (x : Int) : Bool := wt (xorI w x) == 8
theorem xorI_nat (a b : Nat) : xorI (a : Int) (b : Int) = ((a ^^^ b : Nat) : Int) := by unfold xorI; simp
theorem andI_nat (a b : Nat) : andI (a : Int) (b : Int) = ((a &&& b : Nat) : Int) := by unfold andI; simp
theorem dod_oct {w x : Int} (h0 : 0 ≤ w) (h1 : w ≤ 16777215) (hc : codeInB w = true) (hx : IsOct x) (h : dodB w x = true) : IsOct (xorI w x) := by
  obtain ⟨m, hm, rfl⟩ := (codeIn_iff w h0 h1).1 hc
  obtain ⟨n, hn, rfl, _⟩ := hx
  refine ⟨m ^^^ n, xor_lt12 m n hm hn, codeOf_xor m n hm hn, ?_⟩
  simpa [dodB] using h
theorem dod_ex (w : Int) (h0 : 0 ≤ w) (h1 : w ≤ 16777215) (hc : codeInB w = true) (h12 : wt w = 12) : ∃ x, IsOct x ∧ dodB w x = true := by
  obtain ⟨m, hm, hw⟩ := (codeIn_iff w h0 h1).1 hc
  rw [codeOf_cN m hm] at hw
  have hp : pop (cN m) = 12 := by rw [← hw, wt_pop] at h12; omega
  obtain ⟨F, hF, hS, h5⟩ := part_of (cN m) (cN_lt m) 5 (by omega)
  obtain ⟨x, hx⟩ := thr_ex F hF h5
  obtain ⟨hx1, hx2⟩ := thr_mem.1 hx
  obtain ⟨n, hn, ex, ex2, px⟩ := oct_nat hx1
  rw [ex2] at hx2
  have hin : Sub F (cN m &&& cN n) := sub_of fun p hp => by rw [Nat.testBit_and, hS.bit p hp, hx2.bit p hp]; rfl
  have h3 := hin.le
  have h4 := pop_xor (cN m) (cN n)
  rw [← cN_xor] at h4
  have h6 := code_wts (m ^^^ n) (xor_lt12 m n hm hn)
  have h7 : pop (cN (m ^^^ n)) = 8 := by
    rcases h6.1 with h | h | h | h | h
    · have e := xor_eq_zero (h6.2 h)
      rw [e] at hp
      omega
    all_goals omega
  refine ⟨x, oct_iff.1 hx1, ?_⟩
  unfold dodB
  rw [← hw, ex, xorI_nat, ← cN_xor, wt_pop, h7]
  rfl
def leastD (w : Int) : Int := (octS.filter (dodB w)).getD 0 0
theorem leastD_is (w : Int) (h0 : 0 ≤ w) (h1 : w ≤ 16777215) (hc : codeInB w = true) (h12 : wt w = 12) :
    IsOct (leastD w) ∧ dodB w (leastD w) = true ∧ ∀ x, IsOct x → dodB w x = true → leastD w ≤ x := by
  obtain ⟨y, y1, y2⟩ := dod_ex w h0 h1 hc h12
  have hy : y ∈ octS.filter (dodB w) := List.mem_filter.2 ⟨oct_iff.2 y1, y2⟩
  have hasc : Asc (octS.filter (dodB w)) := octS_is.1.sublist List.filter_sublist
  have hmem : ∀ x, x ∈ octS.filter (dodB w) ↔ IsOct x ∧ dodB w x = true := fun x => by rw [List.mem_filter, oct_iff]
  unfold leastD
  generalize octS.filter (dodB w) = D at *
  match D, hy, hasc, hmem with
  | d :: r, _, hasc, hmem =>
    have hd := (hmem d).1 (List.mem_cons_self ..)
    refine ⟨hd.1, hd.2, fun x a b => ?_⟩
    have hx := (hmem x).2 ⟨a, b⟩
    rcases List.mem_cons.1 hx with e | hx
    · rw [e]; exact Int.le_refl _
    · exact Int.le_of_lt ((List.pairwise_cons.1 hasc).1 x hx)
theorem xorI_backL (w x : Int) (hw : 0 ≤ w) (hx : 0 ≤ x) : xorI w (xorI w x) = x := by
  obtain ⟨A, rfl⟩ := Int.eq_ofNat_of_zero_le hw
  obtain ⟨B, rfl⟩ := Int.eq_ofNat_of_zero_le hx
  rw [xorI_nat, xorI_nat, ← Nat.xor_assoc, Nat.xor_self, Nat.zero_xor]
theorem leastD_lt (w : Int) (h0 : 0 ≤ w) (h1 : w ≤ 16777215) (hc : codeInB w = true) (h12 : wt w = 12) : leastD w < xorI w (leastD w) ∧ IsOct (xorI w (leastD w)) := by
  obtain ⟨a, b, c⟩ := leastD_is w h0 h1 hc h12
  have ho := dod_oct h0 h1 hc a b
  have hb := xorI_backL w (leastD w) h0 a.rng.1
  have hle := c _ ho (by unfold dodB; rw [hb]; simp [a.w8])
  refine ⟨?_, ho⟩
  have hne : leastD w ≠ xorI w (leastD w) := by
    intro e
    rw [← e] at hb
    rw [← e] at hb
    have : w = 0 := by
      have hd := a.rng.1
      generalize leastD w = d at *
      obtain ⟨A, hA⟩ := Int.eq_ofNat_of_zero_le h0
      obtain ⟨B, hB⟩ := Int.eq_ofNat_of_zero_le hd
      rw [hA, hB, xorI_nat] at e
      have e2 : B = A ^^^ B := by omega
      have e3 : (A ^^^ B) ^^^ B = 0 := by rw [← e2, Nat.xor_self]
      rw [xor_back] at e3
      omega
    rw [this] at h12
    exact absurd h12 (by decide)
  omega
theorem leastD_at (w : Int) (h0 : 0 ≤ w) (h1 : w ≤ 16777215) (hc : codeInB w = true) (h12 : wt w = 12) : ∃ k, k < 759 ∧ octS.getD k 0 = leastD w ∧ ∀ j, j < k → dodB w (octS.getD j 0) = false := by
  obtain ⟨a, b, c⟩ := leastD_is w h0 h1 hc h12
  obtain ⟨k, hk, e⟩ := List.mem_iff_getElem.1 (oct_iff.2 a)
  rw [octS_759] at hk
  have e2 : octS.getD k 0 = leastD w := by rw [← getD_at octS k (by rw [octS_759]; exact hk)]; exact e
  refine ⟨k, hk, e2, fun j hj => ?_⟩
  cases hd : dodB w (octS.getD j 0)
  · rfl
  · have h2 := c _ (oct_at j (by omega)) hd
    have h3 := oct_lt hj hk
    omega
end Go.Proofs.Ytiodikflmijhkaa
/- How octads meet; counted by one place more. No program is named here. -/
namespace Go.Proofs.Ytiodikflmijhkaa
set_option linter.unusedVariables false
attribute [local irreducible] octS cN octF

def sumL (f : Int → Nat) : List Int → Nat
  | [] => 0
  | x :: L => sumL f L + f x
theorem and_sum (x w : Nat) : pop (x &&& w) = sumR 24 (fun p => if w.testBit p then bN x p else 0) := by
  rw [pop_sum]
  refine sumR_ext 24 _ _ fun p _ => ?_
  unfold bN
  rw [Nat.testBit_and]
  cases x.testBit p <;> cases w.testBit p <;> rfl
theorem sumL_bits (w : Nat) (L : List Int) : sumL (fun x => pop (x.toNat &&& w)) L = sumR 24 (fun p => if w.testBit p then L.countP (fun x => x.toNat.testBit p) else 0) := by
  induction L with
  | nil => simp [sumL, sumR_zero]
  | cons x L ih =>
    simp only [sumL]
    rw [ih, and_sum, ← sumR_add]
    refine sumR_ext 24 _ _ fun p _ => ?_
    by_cases hw : w.testBit p = true
    · simp only [hw, if_true, List.countP_cons, bN]
    · simp [hw]
theorem sumL_sq (w : Nat) (L : List Int) : sumL (fun x => pop (x.toNat &&& w) * pop (x.toNat &&& w)) L = sumR 24 (fun p => if w.testBit p then sumL (fun x => pop (x.toNat &&& w)) (L.filter fun x => x.toNat.testBit p) else 0) := by
  induction L with
  | nil => simp [sumL, sumR_zero]
  | cons x L ih =>
    simp only [sumL]
    rw [ih]
    have h : pop (x.toNat &&& w) * pop (x.toNat &&& w) = sumR 24 (fun p => pop (x.toNat &&& w) * (if w.testBit p then bN x.toNat p else 0)) := by rw [sumR_mul, ← and_sum]
    rw [h, ← sumR_add]
    refine sumR_ext 24 _ _ fun p _ => ?_
    by_cases hw : w.testBit p = true
    · by_cases hx : x.toNat.testBit p = true
      · simp [hw, hx, sumL, bN]
      · simp [hw, hx, bN]
    · simp [hw]
theorem one_place (x p : Nat) : x.testBit p = decide (x &&& 2 ^ p = 2 ^ p) := by
  have := and_or_bit x 0 p
  simpa using this
theorem pow_lt24 (p : Nat) (hp : p < 24) : 2 ^ p < 16777216 := by
  have h : 2 ^ p < 2 ^ 24 := Nat.pow_lt_pow_right (by decide) hp
  omega
theorem pop_pow (p : Nat) (hp : p < 24) : pop (2 ^ p) = 1 := by
  have h := pop_or 0 p hp (Nat.zero_testBit p)
  rw [Nat.zero_or, pop_zero_] at h
  exact h
theorem oct_place (p : Nat) (hp : p < 24) : octS.countP (fun x => x.toNat.testBit p) = 253 := by
  rw [List.countP_eq_length_filter, ← thr1 (2 ^ p) (pow_lt24 p hp) (pop_pow p hp)]
  unfold thr
  exact congrArg List.length (List.filter_congr fun x _ => one_place _ _)
theorem oct_places (p q : Nat) (hp : p < 24) (hq : q < 24) : (octS.filter fun x => x.toNat.testBit p).countP (fun x => x.toNat.testBit q) = if q = p then 253 else 77 := by
  rw [List.countP_eq_length_filter, List.filter_filter]
  by_cases h : q = p
  · rw [if_pos h, ← oct_place p hp, List.countP_eq_length_filter, h]
    exact congrArg List.length (List.filter_congr fun x _ => by simp)
  · rw [if_neg h, ← thr2 (2 ^ p ||| 2 ^ q) (or_lt _ q (pow_lt24 p hp) hq) (by rw [pop_or _ q hq (by rw [bit_pow2]; simp; omega), pop_pow p hp])]
    unfold thr
    refine congrArg List.length (List.filter_congr fun x _ => ?_)
    rw [← and_or_bit, ← one_place, Bool.and_comm]
theorem oct_s1 (w : Nat) (h8 : pop w = 8) : sumL (fun x => pop (x.toNat &&& w)) octS = 2024 := by
  rw [sumL_bits, sumR_ext 24 _ (fun p => 253 * bN w p)]
  · rw [sumR_mul, ← pop_sum, h8]
  · intro p hp
    unfold bN
    rw [oct_place p hp]
    split <;> rfl
theorem oct_s2 (w : Nat) (h8 : pop w = 8) : sumL (fun x => pop (x.toNat &&& w) * pop (x.toNat &&& w)) octS = 6336 := by
  rw [sumL_sq, sumR_ext 24 _ (fun p => 792 * bN w p)]
  · rw [sumR_mul, ← pop_sum, h8]
  · intro p hp
    unfold bN
    by_cases hw : w.testBit p = true
    · rw [if_pos hw, if_pos hw, sumL_bits, sumR_ext 24 _ (fun q => 77 * bN w q + 176 * (if q = p then 1 else 0))]
      · rw [sumR_add, sumR_mul, sumR_mul, ← pop_sum, h8, sumR_one 24 p hp]
      · intro q hq
        rw [oct_places p q hp hq]
        unfold bN
        by_cases e : q = p
        · subst e; simp [hw]
        · simp only [e, if_false]
          split <;> rfl
    · rw [if_neg hw, if_neg hw]
theorem four_kinds (g : Int → Nat) : ∀ L : List Int, (∀ x ∈ L, g x = 0 ∨ g x = 2 ∨ g x = 4 ∨ g x = 8) →
    L.length = L.countP (fun x => g x == 0) + L.countP (fun x => g x == 2) + L.countP (fun x => g x == 4) + L.countP (fun x => g x == 8) ∧
    sumL g L = 2 * L.countP (fun x => g x == 2) + 4 * L.countP (fun x => g x == 4) + 8 * L.countP (fun x => g x == 8) ∧
    sumL (fun x => g x * g x) L = 4 * L.countP (fun x => g x == 2) + 16 * L.countP (fun x => g x == 4) + 64 * L.countP (fun x => g x == 8) := by
  intro L
  induction L with
  | nil => intro _; simp [sumL]
  | cons x L ih =>
    intro h
    obtain ⟨h1, h2, h3⟩ := ih fun y hy => h y (List.mem_cons_of_mem _ hy)
    simp only [List.length_cons, List.countP_cons, sumL]
    rcases h x (List.mem_cons_self ..) with e | e | e | e <;> rw [e] <;> simp <;> omega
theorem oct_meets (w : Nat) (hw : ∃ m : Nat, m < 4096 ∧ w = cN m) (h8 : pop w = 8) : ∀ x ∈ octS, pop (x.toNat &&& w) = 0 ∨ pop (x.toNat &&& w) = 2 ∨ pop (x.toNat &&& w) = 4 ∨ pop (x.toNat &&& w) = 8 := by
  intro x hx
  obtain ⟨m, hm, rfl⟩ := hw
  obtain ⟨n, hn, _, e, p8⟩ := oct_nat hx
  rw [e]
  have h1 := pop_xor (cN n) (cN m)
  rw [← cN_xor] at h1
  have h2 := (code_wts (n ^^^ m) (xor_lt12 n m hn hm)).1
  omega
theorem oct_eight (w : Nat) (hw : ∃ m : Nat, m < 4096 ∧ w = cN m) (h8 : pop w = 8) : octS.countP (fun x => pop (x.toNat &&& w) == 8) = 1 := by
  have hlt : w < 16777216 := by obtain ⟨m, _, rfl⟩ := hw; exact cN_lt m
  rw [List.countP_eq_length_filter]
  have e : (octS.filter fun x => pop (x.toNat &&& w) == 8) = thr w := by
    unfold thr
    refine List.filter_congr fun x hx => ?_
    rw [Bool.eq_iff_iff]
    simp only [beq_iff_eq, decide_eq_true_eq]
    constructor
    · intro h
      exact sub_eq (and_sub' _ _) (Nat.lt_of_le_of_lt Nat.and_le_right hlt) hlt (by omega)
    · intro h
      rw [h, h8]
  rw [e]
  have h1 := thr_le w (by omega)
  obtain ⟨m, hm, hwm⟩ := hw
  have hin : ((cN m : Nat) : Int) ∈ thr w := by
    refine thr_mem.2 ⟨nat_oct hm (by rw [← hwm]; exact h8), ?_⟩
    rw [Int.toNat_natCast, hwm]
    exact sub_of fun p hp => hp
  have h2 := List.length_pos_of_mem hin
  omega
theorem oct_counts (w : Nat) (hw : ∃ m : Nat, m < 4096 ∧ w = cN m) (h8 : pop w = 8) :
    octS.countP (fun x => pop (x.toNat &&& w) == 0) = 30 ∧ octS.countP (fun x => pop (x.toNat &&& w) == 2) = 448 ∧ octS.countP (fun x => pop (x.toNat &&& w) == 4) = 280 ∧ octS.countP (fun x => pop (x.toNat &&& w) == 8) = 1 := by
  obtain ⟨h1, h2, h3⟩ := four_kinds (fun x => pop (x.toNat &&& w)) octS (oct_meets w hw h8)
  have h4 := oct_eight w hw h8
  rw [octS_759] at h1
  rw [oct_s1 w h8] at h2
  rw [oct_s2 w h8] at h3
  rw [h4] at h1 h2 h3
  omega
theorem oct_none (w : Nat) (hw : ∃ m : Nat, m < 4096 ∧ w = cN m) (h8 : pop w = 8) (k : Nat) (hk : k ≠ 0 ∧ k ≠ 2 ∧ k ≠ 4 ∧ k ≠ 8) : octS.countP (fun x => pop (x.toNat &&& w) == k) = 0 := by
  rw [List.countP_eq_zero]
  intro x hx h
  have h1 := oct_meets w hw h8 x hx
  have h2 : pop (x.toNat &&& w) = k := by simpa using h
  omega
theorem cnt9_oct (w : Int) (h : IsOct w) : cnt9 w octS = [30, 0, 448, 0, 280, 0, 0, 0, 1] := by
  obtain ⟨m, hm, e, h8⟩ := h
  rw [codeOf_cN m hm] at e
  have hp : pop (cN m) = 8 := by rw [← e, wt_pop] at h8; omega
  have hw : ∃ n : Nat, n < 4096 ∧ cN m = cN n := ⟨m, hm, rfl⟩
  have hc : ∀ k : Nat, (octS.countP fun x => wt (andI x w) == (k : Int)) = octS.countP (fun x => pop (x.toNat &&& cN m) == k) := by
    intro k
    refine List.countP_congr fun x hx => ?_
    obtain ⟨n, _, e1, e2, _⟩ := oct_nat hx
    rw [e2, e1, ← e, andI_nat, wt_pop]
    simp only [beq_iff_eq]
    omega
  obtain ⟨c0, c2, c4, c8⟩ := oct_counts (cN m) hw hp
  unfold cnt9
  have h1 := fun k h => oct_none (cN m) hw hp k h
  have e1 := h1 1 (by omega)
  have e3 := h1 3 (by omega)
  have e5 := h1 5 (by omega)
  have e6 := h1 6 (by omega)
  have e7 := h1 7 (by omega)
  simp only [List.range, List.range.loop, List.map_cons, List.map_nil, hc, c0, c2, c4, c8, e1, e3, e5, e6, e7]
  decide

/-! ### One place more -/
theorem countP_two (P Q R : Int → Bool) : ∀ L : List Int, (∀ x ∈ L, (if P x then 1 else 0) = (if Q x then 1 else 0) + (if R x then 1 else 0)) → L.countP P = L.countP Q + L.countP R := by
  intro L
  induction L with
  | nil => intro _; rfl
  | cons x L ih =>
    intro h
    have h1 := ih fun y hy => h y (List.mem_cons_of_mem _ hy)
    have h2 := h x (List.mem_cons_self ..)
    simp only [List.countP_cons]
    omega
theorem and_or_none (x T p : Nat) : (decide (x &&& T = 0) && !x.testBit p) = decide (x &&& (T ||| 2 ^ p) = 0) := by
  rw [Bool.eq_iff_iff]
  simp only [Bool.and_eq_true, decide_eq_true_eq, Bool.not_eq_true']
  constructor
  · rintro ⟨h1, h2⟩
    refine Nat.eq_of_testBit_eq fun q => ?_
    have h3 : (x &&& T).testBit q = false := by rw [h1]; exact Nat.zero_testBit q
    rw [Nat.testBit_and, or_bit, Nat.zero_testBit]
    rw [Nat.testBit_and] at h3
    by_cases e : p = q
    · subst e; simp [h2]
    · simp only [e, decide_false, Bool.or_false]; exact h3
  · intro h
    have hb : ∀ q, (x &&& (T ||| 2 ^ p)).testBit q = false := fun q => by rw [h]; exact Nat.zero_testBit q
    constructor
    · refine Nat.eq_of_testBit_eq fun q => ?_
      have := hb q
      rw [Nat.testBit_and, or_bit] at this
      rw [Nat.testBit_and, Nat.zero_testBit]
      cases hx : x.testBit q
      · simp
      · rw [hx] at this; simp at this; simp [this.1]
    · have := hb p
      rw [Nat.testBit_and, or_bit] at this
      simpa using this
theorem andI_zero (x T : Nat) : (andI (x : Int) (T : Int) == 0) = decide (x &&& T = 0) := by
  rw [andI_nat]
  by_cases h : x &&& T = 0
  · simp [h]
  · simp [h]
theorem orI_nat1 (a : Nat) : orI (a : Int) 1 = ((a ||| 1 : Nat) : Int) := by unfold orI; rfl
theorem count_more (a b : Int) (ha : 0 ≤ a) (hb : 0 ≤ b) : octS.countP (oC a b) = octS.countP (oC (orI a 1) b) + octS.countP (oC a (orI b 1)) := by
  obtain ⟨A, rfl⟩ := Int.eq_ofNat_of_zero_le ha
  obtain ⟨B, rfl⟩ := Int.eq_ofNat_of_zero_le hb
  refine countP_two _ _ _ _ fun x hx => ?_
  obtain ⟨n, _, e1, _, _⟩ := oct_nat hx
  rw [e1]
  unfold oC
  rw [orI_nat1, orI_nat1, andI_sub, andI_sub, andI_zero, andI_zero]
  have h1 := and_or_bit (cN n) A 0
  have h2 := and_or_none (cN n) B 0
  rw [Nat.pow_zero] at h1 h2
  rw [← h1, ← h2]
  cases (cN n).testBit 0 <;> cases decide (cN n &&& A = A) <;> cases decide (cN n &&& B = 0) <;> rfl
theorem count_all : octS.countP (oC 0 0) = 759 := by
  rw [← octS_759, List.countP_eq_length]
  intro x _
  simp [oC, andI]
/-! ### Sums of two -/
theorem wt_xor_i {a b : Int} (ha : 0 ≤ a) (hb : 0 ≤ b) : wt (xorI a b) + 2 * wt (andI a b) = wt a + wt b := by
  obtain ⟨A, rfl⟩ := Int.eq_ofNat_of_zero_le ha
  obtain ⟨B, rfl⟩ := Int.eq_ofNat_of_zero_le hb
  exact wt_xor A B
end Go.Proofs.Ytiodikflmijhkaa