/- Joined texts: P3 M7 M11 M12 M16. -/
import Derived.Test.YtiodikflmijhkaaGreatDoorJ03
import Derived.Test.YtiodikflmijhkaaGreatDoorJ04
import Derived.Test.YtiodikflmijhkaaGreatDoorJ01
import Derived.WalkKit
import Derived.WalkSmall
import Derived.Laws.Rows
import Derived.Lib.Hide
import Derived.Lib.Walk
import Derived.Test.YtiodikflmijhkaaGreatDoorJ00
import Derived.OpenShut
import Derived.LaidMore
import Derived.ProofKit
import Derived.ChangeArms
import Derived.RangeFuncBox
import Derived.RangeFuncNested
import Derived.RangeFuncBound
import Derived.RangeFuncCalls
import Derived.RangeFuncLeaves
import Derived.RangeFuncWrites
section
namespace Go.Proofs.YtiodikflmijhkaaGreatDoor
set_option linter.unusedVariables false

/-- The octads of the messages below k, in their order. -/
def octF : Nat → List Int
  | 0 => []
  | k + 1 => if wt (codeOf k) = 8 then octF k ++ [codeOf k] else octF k
theorem octF_len (k : Nat) : (octF k).length ≤ k := by
  induction k with
  | zero => simp [octF]
  | succ k ih => simp only [octF]; split <;> (try simp) <;> omega
theorem octF_mem (k : Nat) (x : Int) : x ∈ octF k ↔ ∃ m : Nat, m < k ∧ codeOf m = x ∧ wt x = 8 := by
  induction k with
  | zero => simp [octF]
  | succ k ih =>
    simp only [octF]
    split
    · rename_i h8
      rw [List.mem_append, ih]
      constructor
      · rintro (⟨m, h, e, w⟩ | h)
        · exact ⟨m, by omega, e, w⟩
        · have e : x = codeOf k := by simpa using h
          exact ⟨k, by omega, e.symm, by rw [e]; exact h8⟩
      · rintro ⟨m, h, e, w⟩
        by_cases hm : m = k
        · exact .inr (by rw [← e, hm]; simp)
        · exact .inl ⟨m, by omega, e, w⟩
    · rename_i h8
      rw [ih]
      constructor
      · rintro ⟨m, h, e, w⟩; exact ⟨m, by omega, e, w⟩
      · rintro ⟨m, h, e, w⟩
        by_cases hm : m = k
        · exact absurd (by rw [← hm, e]; exact w) h8
        · exact ⟨m, by omega, e, w⟩
theorem octF_nodup (k : Nat) (hk : k ≤ 4096) : (octF k).Nodup := by
  induction k with
  | zero => simp [octF]
  | succ k ih =>
    simp only [octF]
    split
    · rw [List.nodup_append]
      refine ⟨ih (by omega), by simp, ?_⟩
      intro a ha b hb e
      have e2 : b = codeOf k := by simpa using hb
      obtain ⟨m, hm, e3, _⟩ := (octF_mem k a).1 ha
      have := codeOf_inj m k (by omega) (by omega) (by rw [e3, e, e2])
      omega
    · exact ih (by omega)
/-- A list is the octads in a row. -/
def IsOcts (L : List Int) : Prop := Asc L ∧ ∀ x, x ∈ L ↔ ∃ m : Nat, m < 4096 ∧ codeOf m = x ∧ wt x = 8
theorem octs_same {L M : List Int} (hL : IsOcts L) (hM : IsOcts M) : L = M := asc_ext L M hL.1 hM.1 fun x => (hL.2 x).trans (hM.2 x).symm
theorem octs_of (k : Nat) (hk : k = 4096) (L : List Int) (hp : L.Perm (octF k)) (hs : L.Pairwise (· ≤ ·)) : IsOcts L := by
  have hn : L.Nodup := hp.nodup_iff.2 (octF_nodup k (by omega))
  refine ⟨?_, fun x => ?_⟩
  · unfold Asc
    exact (hs.and hn).imp fun {a b} h => by omega
  · rw [hp.mem_iff, octF_mem, hk]
def octK (k : Nat) : List Int := (octF k).mergeSort fun x y => decide (x ≤ y)
theorem ms_pair (L : List Int) : (L.mergeSort fun x y => decide (x ≤ y)).Pairwise (· ≤ ·) := by
  have := List.pairwise_mergeSort (le := fun (x y : Int) => decide (x ≤ y)) (by intro a b c; simp; omega) (by intro a b; simp; omega) L
  exact this.imp (by intro a b h; simpa using h)
theorem octK_is (k : Nat) (hk : k = 4096) : IsOcts (octK k) := octs_of k hk _ (List.mergeSort_perm _ _) (ms_pair _)
def octS : List Int := octK 4096
theorem octS_is : IsOcts octS := octK_is 4096 rfl
theorem octs_eq (k : Nat) (hk : k = 4096) (L : List Int) (hp : L.Perm (octF k)) (hs : L.Pairwise (· ≤ ·)) : L = octS := octs_same (octs_of k hk L hp hs) octS_is
/-- Two rows made one. -/
def mrg (a b : List Int) : List Int := List.merge a b fun x y => decide (x ≤ y)
theorem mrg_nil (a : List Int) : mrg a [] = a := by cases a <;> simp [mrg]
theorem nil_mrg (b : List Int) : mrg [] b = b := by simp [mrg]
theorem mrg_left {x y : Int} {a b : List Int} (h : x ≤ y) : mrg (x :: a) (y :: b) = x :: mrg a (y :: b) := by simp [mrg, h]
theorem mrg_right {x y : Int} {a b : List Int} (h : ¬ x ≤ y) : mrg (x :: a) (y :: b) = y :: mrg (x :: a) b := by simp [mrg, h]
theorem mrg_perm (a b : List Int) : (mrg a b).Perm (a ++ b) := List.merge_perm_append _
theorem mrg_pair {a b : List Int} (ha : a.Pairwise (· ≤ ·)) (hb : b.Pairwise (· ≤ ·)) : (mrg a b).Pairwise (· ≤ ·) := by
  have := List.pairwise_merge (le := fun (x y : Int) => decide (x ≤ y)) (by intro a b c; simp; omega) (by intro a b; simp; omega) a b (ha.imp (by intro a b h; simpa using h)) (hb.imp (by intro a b h; simpa using h))
  exact this.imp (by intro a b h; simpa using h)
theorem drop_cons (a : List Int) (i : Nat) (h : i < a.length) : a.drop i = a.getD i 0 :: a.drop (i + 1) := by
  rw [List.drop_eq_getElem_cons h, List.getD_eq_getElem?_getD, List.getElem?_eq_getElem h]
  rfl
theorem mrg_takeA {a b zs : List Int} {i k : Nat} (hi : i < a.length) (hk : k ≤ b.length) (hle : k = b.length ∨ (k < b.length ∧ a.getD i 0 ≤ b.getD k 0)) (h : zs ++ mrg (a.drop i) (b.drop k) = mrg a b) : (zs ++ [a.getD i 0]) ++ mrg (a.drop (i + 1)) (b.drop k) = mrg a b := by
  rw [← h, List.append_assoc]
  congr 1
  rw [drop_cons a i hi]
  rcases hle with rfl | ⟨hk2, hle⟩
  · simp [mrg_nil]
  · rw [drop_cons b k hk2, mrg_left hle]; rfl
theorem mrg_takeB {a b zs : List Int} {i k : Nat} (hi : i ≤ a.length) (hk : k < b.length) (hle : i = a.length ∨ (i < a.length ∧ ¬ a.getD i 0 ≤ b.getD k 0)) (h : zs ++ mrg (a.drop i) (b.drop k) = mrg a b) : (zs ++ [b.getD k 0]) ++ mrg (a.drop i) (b.drop (k + 1)) = mrg a b := by
  rw [← h, List.append_assoc]
  congr 1
  rw [drop_cons b k hk]
  rcases hle with rfl | ⟨hi2, hle⟩
  · simp [nil_mrg]
  · rw [drop_cons a i hi2, mrg_right hle]; rfl
theorem mrg_len (a b : List Int) : (mrg a b).length = a.length + b.length := by rw [(mrg_perm a b).length_eq, List.length_append]
end Go.Proofs.YtiodikflmijhkaaGreatDoor
/- The octads as a design: any five places are in just one; counting twice. No program is named here. -/
namespace Go.Proofs.YtiodikflmijhkaaGreatDoor
set_option linter.unusedVariables false

/-! ### Sums -/
def sumR : Nat → (Nat → Nat) → Nat
  | 0, _ => 0
  | n + 1, f => sumR n f + f n
theorem sumR_add (n : Nat) (f g : Nat → Nat) : sumR n (fun p => f p + g p) = sumR n f + sumR n g := by
  induction n with
  | zero => rfl
  | succ n ih => simp only [sumR]; omega
theorem sumR_ext (n : Nat) (f g : Nat → Nat) (h : ∀ p, p < n → f p = g p) : sumR n f = sumR n g := by
  induction n with
  | zero => rfl
  | succ n ih => simp only [sumR]; rw [ih fun p hp => h p (by omega), h n (by omega)]
theorem sumR_le (n : Nat) (f g : Nat → Nat) (h : ∀ p, p < n → f p ≤ g p) : sumR n f ≤ sumR n g := by
  induction n with
  | zero => exact Nat.le_refl _
  | succ n ih => simp only [sumR]; have := ih fun p hp => h p (by omega); have := h n (by omega); omega
theorem sumR_mul (n c : Nat) (f : Nat → Nat) : sumR n (fun p => c * f p) = c * sumR n f := by
  induction n with
  | zero => rfl
  | succ n ih => simp only [sumR]; rw [ih, Nat.mul_add]
theorem sumR_zero (n : Nat) : sumR n (fun _ => 0) = 0 := by
  induction n with
  | zero => rfl
  | succ n ih => simp only [sumR]; rw [ih]
theorem sumR_one (n p : Nat) (h : p < n) : sumR n (fun q => if q = p then 1 else 0) = 1 := by
  induction n with
  | zero => omega
  | succ n ih =>
    simp only [sumR]
    by_cases hp : n = p
    · rw [if_pos hp, sumR_ext n _ (fun _ => 0) (fun q hq => if_neg (by omega)), sumR_zero]
    · rw [if_neg hp, ih (by omega)]
def bN (v p : Nat) : Nat := if v.testBit p then 1 else 0
theorem bN_le (v p : Nat) : bN v p ≤ 1 := by unfold bN; split <;> omega
theorem popN_top : ∀ (k v : Nat), popN (k + 1) v = popN k v + bN v k
  | 0, v => by
    simp only [popN, bN, Nat.testBit_zero]
    have : v % 2 = 0 ∨ v % 2 = 1 := by omega
    rcases this with h | h <;> simp [h]
  | k + 1, v => by
    have ih := popN_top k (v / 2)
    have hb : bN (v / 2) k = bN v (k + 1) := by simp only [bN, Nat.testBit_succ]
    rw [hb] at ih
    show v % 2 + popN (k + 1) (v / 2) = v % 2 + popN k (v / 2) + _
    omega
theorem popN_sum (k v : Nat) : popN k v = sumR k (bN v) := by
  induction k with
  | zero => rfl
  | succ k ih => rw [popN_top, ih]; rfl
theorem pop_sum (v : Nat) : pop v = sumR 24 (bN v) := popN_sum 24 v

/-! ### One word in another -/
def Sub (a b : Nat) : Prop := b &&& a = a
theorem Sub.bit {a b : Nat} (h : Sub a b) (p : Nat) (hp : a.testBit p = true) : b.testBit p = true := by
  rw [← h, Nat.testBit_and] at hp
  simp at hp
  exact hp.1
theorem sub_of {a b : Nat} (h : ∀ p, a.testBit p = true → b.testBit p = true) : Sub a b := by
  refine Nat.eq_of_testBit_eq fun p => ?_
  rw [Nat.testBit_and]
  cases ha : a.testBit p
  · simp
  · simp [h p ha]
theorem Sub.trans {a b c : Nat} (h : Sub a b) (k : Sub b c) : Sub a c := sub_of fun p hp => k.bit p (h.bit p hp)
theorem Sub.le {a b : Nat} (h : Sub a b) : pop a ≤ pop b := by
  rw [pop_sum, pop_sum]
  refine sumR_le 24 _ _ fun p _ => ?_
  unfold bN
  by_cases ha : a.testBit p
  · rw [if_pos ha, if_pos (h.bit p ha)]; exact Nat.le_refl _
  · rw [if_neg ha]; exact Nat.zero_le _
theorem and_sub (a b : Nat) : Sub (a &&& b) a := sub_of fun p hp => by rw [Nat.testBit_and] at hp; simp at hp; exact hp.1
theorem and_sub' (a b : Nat) : Sub (a &&& b) b := sub_of fun p hp => by rw [Nat.testBit_and] at hp; simp at hp; exact hp.2
theorem bit_pow2 (p q : Nat) : (2 ^ p).testBit q = decide (p = q) := Nat.testBit_two_pow
theorem or_bit (T p q : Nat) : (T ||| 2 ^ p).testBit q = (T.testBit q || decide (p = q)) := by rw [Nat.testBit_or, bit_pow2]
theorem or_lt (T p : Nat) (hT : T < 16777216) (hp : p < 24) : T ||| 2 ^ p < 16777216 :=
  Nat.or_lt_two_pow (n := 24) hT (Nat.pow_lt_pow_right (by omega) hp)
theorem pop_or (T p : Nat) (hp : p < 24) (h : T.testBit p = false) : pop (T ||| 2 ^ p) = pop T + 1 := by
  rw [pop_sum, pop_sum, ← sumR_one 24 p hp, ← sumR_add]
  refine sumR_ext 24 _ _ fun q _ => ?_
  unfold bN
  rw [or_bit]
  by_cases hq : q = p
  · subst hq; simp [h]
  · have : ¬ p = q := fun e => hq e.symm
    simp [hq, this]
theorem pop_zero_ : pop 0 = 0 := by decide
theorem sub_eq {a b : Nat} (h : Sub a b) (ha : a < 16777216) (hb : b < 16777216) (hp : pop b ≤ pop a) : a = b := by
  have h1 := pop_xor b a
  rw [show b &&& a = a from h] at h1
  exact (xor_eq_zero (pop_zero (b ^^^ a) (xor_lt24 _ _ hb ha) (by omega))).symm
theorem dbl (L : List Int) (T : Nat) (h : ∀ x ∈ L, Sub T x.toNat ∧ pop x.toNat = 8) :
    sumR 24 (fun p => if T.testBit p then 0 else L.countP fun x => x.toNat.testBit p) = (8 - pop T) * L.length := by
  induction L with
  | nil => simp [sumR_zero]
  | cons x L ih =>
    have ih := ih fun y hy => h y (List.mem_cons_of_mem _ hy)
    obtain ⟨hx, h8⟩ := h x (List.mem_cons_self ..)
    have hS : sumR 24 (fun p => if T.testBit p then 0 else bN x.toNat p) + pop T = 8 := by
      rw [← h8, pop_sum T, pop_sum x.toNat, ← sumR_add]
      refine sumR_ext 24 _ _ fun p _ => ?_
      unfold bN
      by_cases hp : T.testBit p = true
      · simp [hp, hx.bit p hp]
      · simp [hp]
    rw [sumR_ext 24 _ (fun p => (if T.testBit p then 0 else L.countP fun x => x.toNat.testBit p) + (if T.testBit p then 0 else bN x.toNat p)), sumR_add, ih, List.length_cons, Nat.mul_add, Nat.mul_one]
    · omega
    · intro p _
      by_cases hp : T.testBit p = true
      · simp [hp]
      · simp only [hp, Bool.false_eq_true, if_false, List.countP_cons, bN]
theorem and_or_bit (x T p : Nat) : (decide (x &&& T = T) && x.testBit p) = decide (x &&& (T ||| 2 ^ p) = T ||| 2 ^ p) := by
  rw [Bool.eq_iff_iff]
  simp only [Bool.and_eq_true, decide_eq_true_eq]
  constructor
  · rintro ⟨h1, h2⟩
    refine sub_of (b := x) fun q hq => ?_
    rw [or_bit] at hq
    simp at hq
    rcases hq with hq | rfl
    · exact Sub.bit (b := x) h1 q hq
    · exact h2
  · intro h
    refine ⟨sub_of (b := x) fun q hq => ?_, Sub.bit (b := x) h p (by rw [or_bit]; simp)⟩
    exact Sub.bit (b := x) h q (by rw [or_bit, hq]; rfl)

/-! ### The octads through places -/
attribute [local irreducible] octS cN
def thr (T : Nat) : List Int := octS.filter fun x => decide (x.toNat &&& T = T)
theorem oct_nat {x : Int} (h : x ∈ octS) : ∃ m : Nat, m < 4096 ∧ x = ((cN m : Nat) : Int) ∧ x.toNat = cN m ∧ pop (cN m) = 8 := by
  obtain ⟨m, hm, e, w⟩ := (octS_is.2 x).1 h
  rw [codeOf_cN m hm] at e
  rw [← e, wt_pop] at w
  exact ⟨m, hm, e.symm, by rw [← e, Int.toNat_natCast], by omega⟩
theorem nat_oct {m : Nat} (hm : m < 4096) (h : pop (cN m) = 8) : ((cN m : Nat) : Int) ∈ octS :=
  (octS_is.2 _).2 ⟨m, hm, codeOf_cN m hm, by rw [wt_pop, h]; decide⟩
theorem thr_mem {T : Nat} {x : Int} : x ∈ thr T ↔ x ∈ octS ∧ Sub T x.toNat := by
  unfold thr
  rw [List.mem_filter, decide_eq_true_eq]
  exact Iff.rfl
theorem thr_nodup (T : Nat) : (thr T).Nodup := octS_is.1.nodup.sublist List.filter_sublist
theorem one_of_all {L : List Int} (h : L.Nodup) (h2 : ∀ x ∈ L, ∀ y ∈ L, x = y) : L.length ≤ 1 := by
  match L, h with
  | [], _ => exact Nat.zero_le _
  | [x], _ => exact Nat.le_refl _
  | x :: y :: r, h =>
    exfalso
    have e := h2 x (by simp) y (by simp)
    rw [List.nodup_cons] at h
    exact h.1 (by rw [e]; simp)
theorem thr_le (T : Nat) (h : 5 ≤ pop T) : (thr T).length ≤ 1 := by
  refine one_of_all (thr_nodup T) fun x hx y hy => ?_
  obtain ⟨hx1, hx2⟩ := thr_mem.1 hx
  obtain ⟨hy1, hy2⟩ := thr_mem.1 hy
  obtain ⟨m, hm, ex, ex2, px⟩ := oct_nat hx1
  obtain ⟨n, hn, ey, ey2, py⟩ := oct_nat hy1
  rw [ex2] at hx2
  rw [ey2] at hy2
  have h1 := pop_xor (cN m) T
  have h2 := pop_xor (cN n) T
  rw [show cN m &&& T = T from hx2] at h1
  rw [show cN n &&& T = T from hy2] at h2
  rw [ex, ey, near_unique m n T hm hn (by unfold dN; omega)]
theorem thr_ex (F : Nat) (hF : F < 16777216) (h5 : pop F = 5) : ∃ x, x ∈ thr F := by
  obtain ⟨m, hm, _, hd⟩ := far_ex F hF
  unfold dN at hd
  have h1 := pop_xor (cN m) F
  have h2 := (code_wts m hm).1
  have h3 := (and_sub (cN m) F).le
  have h4 := (and_sub' (cN m) F).le
  have h8 : pop (cN m) = 8 ∧ pop (cN m &&& F) = 5 := by omega
  refine ⟨((cN m : Nat) : Int), thr_mem.2 ⟨nat_oct hm h8.1, ?_⟩⟩
  rw [Int.toNat_natCast]
  have hlt : cN m &&& F < 16777216 := Nat.lt_of_le_of_lt Nat.and_le_right hF
  exact sub_eq (and_sub' (cN m) F) hlt hF (by omega)
theorem thr5 (F : Nat) (hF : F < 16777216) (h5 : pop F = 5) : (thr F).length = 1 := by
  obtain ⟨x, hx⟩ := thr_ex F hF h5
  have := List.length_pos_of_mem hx
  have := thr_le F (by omega)
  omega
theorem thr_step (T c : Nat) (hT : T < 16777216) (h : ∀ p, p < 24 → T.testBit p = false → (thr (T ||| 2 ^ p)).length = c) : (8 - pop T) * (thr T).length = (24 - pop T) * c := by
  rw [← dbl (thr T) T fun x hx => by
    obtain ⟨h1, h2⟩ := thr_mem.1 hx
    obtain ⟨m, _, _, e, p8⟩ := oct_nat h1
    exact ⟨h2, by rw [e]; exact p8⟩]
  have hS : sumR 24 (fun p => if T.testBit p then 0 else 1) + pop T = 24 := by
    have h24 : sumR 24 (fun _ => 1) = 24 := rfl
    rw [pop_sum, ← sumR_add]
    refine Eq.trans (sumR_ext 24 _ _ fun p _ => ?_) h24
    unfold bN
    by_cases hp : T.testBit p = true <;> simp [hp]
  rw [show 24 - pop T = sumR 24 (fun p => if T.testBit p then 0 else 1) by omega, Nat.mul_comm, ← sumR_mul]
  refine sumR_ext 24 _ _ fun p hp => ?_
  by_cases hb : T.testBit p = true
  · simp [hb]
  · have hb' : T.testBit p = false := by simpa using hb
    simp only [hb', Bool.false_eq_true, if_false, Nat.mul_one]
    rw [← h p hp hb', List.countP_eq_length_filter]
    unfold thr
    rw [List.filter_filter]
    refine congrArg List.length (List.filter_congr fun x _ => ?_)
    rw [← and_or_bit, Bool.and_comm]
theorem thr_down (t c d : Nat) (ht : t < 8) (hc : ∀ T, T < 16777216 → pop T = t + 1 → (thr T).length = c) (hd : (8 - t) * d = (24 - t) * c) (T : Nat) (hT : T < 16777216) (hp : pop T = t) : (thr T).length = d := by
  have := thr_step T c hT fun p h1 h2 => hc _ (or_lt T p hT h1) (by rw [pop_or T p h1 h2, hp])
  rw [hp, ← hd] at this
  exact Nat.eq_of_mul_eq_mul_left (by omega) this
theorem thr4 : ∀ T, T < 16777216 → pop T = 4 → (thr T).length = 5 := thr_down 4 1 5 (by omega) thr5 (by omega)
theorem thr3 : ∀ T, T < 16777216 → pop T = 3 → (thr T).length = 21 := thr_down 3 5 21 (by omega) thr4 (by omega)
theorem thr2 : ∀ T, T < 16777216 → pop T = 2 → (thr T).length = 77 := thr_down 2 21 77 (by omega) thr3 (by omega)
theorem thr1 : ∀ T, T < 16777216 → pop T = 1 → (thr T).length = 253 := thr_down 1 77 253 (by omega) thr2 (by omega)
theorem thr0 : (thr 0).length = 759 := thr_down 0 253 759 (by omega) thr1 (by omega) 0 (by omega) pop_zero_
theorem thr_all : thr 0 = octS := by
  unfold thr
  rw [List.filter_eq_self]
  intro x _
  simp
theorem octS_759 : octS.length = 759 := by rw [← thr_all]; exact thr0
end Go.Proofs.YtiodikflmijhkaaGreatDoor
/- Counting octads: lists that are counted, the least octad of a dodecad. No program is named here. -/
namespace Go.Proofs.YtiodikflmijhkaaGreatDoor
set_option linter.unusedVariables false
attribute [local irreducible] octS cN octF

def IsOct (x : Int) : Prop := ∃ m : Nat, m < 4096 ∧ codeOf m = x ∧ wt x = 8
theorem IsOct.rng {x : Int} (h : IsOct x) : 0 ≤ x ∧ x ≤ 16777215 := by
  obtain ⟨m, _, rfl, _⟩ := h
  exact codeOf_range _
theorem oct_iff {x : Int} : x ∈ octS ↔ IsOct x := octS_is.2 x
theorem getD_at (L : List Int) (i : Nat) (h : i < L.length) : L[i] = L.getD i 0 := by simp [List.getD_eq_getElem?_getD, h]
theorem oct_at (k : Nat) (hk : k < 759) : IsOct (octS.getD k 0) := by
  rw [← oct_iff, ← getD_at octS k (by rw [octS_759]; exact hk)]
  exact List.getElem_mem _
theorem tk_succ (xs : List Int) (k : Nat) (h : k < xs.length) : xs.take (k + 1) = xs.take k ++ [xs.getD k 0] := by
  rw [List.take_succ_eq_append_getElem h]; simp [List.getElem?_eq_getElem h]
theorem oct_take (k : Nat) (hk : k < 759) : octS.take (k + 1) = octS.take k ++ [octS.getD k 0] := tk_succ octS k (by rw [octS_759]; exact hk)
theorem oct_take_all : octS.take 759 = octS := List.take_of_length_le (by rw [octS_759]; exact Nat.le_refl _)
def oWith (W : Int) : List Int := octS.filter fun x => andI x W == W
theorem filter_snoc (L : List Int) (P : Int → Bool) (x : Int) : (L ++ [x]).filter P = if P x then L.filter P ++ [x] else L.filter P := by
  rw [List.filter_append]
  by_cases h : P x = true <;> simp [h]
theorem andI_sub (x T : Nat) : (andI (x : Int) (T : Int) == (T : Int)) = decide (x &&& T = T) := by
  unfold andI
  simp only [Int.toNat_natCast]
  by_cases h : x &&& T = T
  · simp [h]
  · have : ¬ ((x &&& T : Nat) : Int) = (T : Int) := by omega
    simp [h, this]
theorem oWith_thr (T : Nat) : oWith (T : Int) = thr T := by
  unfold oWith thr
  refine List.filter_congr fun x hx => ?_
  obtain ⟨m, _, e, e2, _⟩ := oct_nat hx
  rw [e2, e, andI_sub]
theorem oWith_mem {W x : Int} : x ∈ oWith W ↔ IsOct x ∧ andI x W = W := by
  unfold oWith
  rw [List.mem_filter, oct_iff]
  simp
end Go.Proofs.YtiodikflmijhkaaGreatDoor
/- How octads meet; counted by one place more. No program is named here. -/
namespace Go.Proofs.YtiodikflmijhkaaGreatDoor
set_option linter.unusedVariables false
attribute [local irreducible] octS cN octF

end Go.Proofs.YtiodikflmijhkaaGreatDoor
end

section
namespace Go.Proofs.YtiodikflmijhkaaGreatDoor
set_option linter.unusedVariables false

end Go.Proofs.YtiodikflmijhkaaGreatDoor
end

section
namespace Go.Proofs.YtiodikflmijhkaaGreatDoor
open Go.RowKit
set_option linter.unusedVariables false

/-- Block g is a row of plain cells xs. -/
def Blk (w : World) (g : Nat) (t : TypeId) (xs : Array Value) : Prop := w.heap[g]? = some (.cells xs t (0, 0))
theorem alloc_sz (w : World) (o : Obj) : (w.alloc o).heap.size = w.heap.size + 1 := by show (w.heap.push o).size = _; simp
theorem Blk.lt {w : World} {g : Nat} {t : TypeId} {xs : Array Value} (h : Blk w g t xs) : g < w.heap.size := (Array.getElem?_eq_some_iff.1 h).1
theorem Blk.new (w : World) (t : TypeId) (xs : Array Value) : Blk (w.alloc (.cells xs t)) w.heap.size t xs := heap_alloc_new w _
theorem Blk.new1 (w : World) (o : Obj) (t : TypeId) (xs : Array Value) : Blk ((w.alloc o).alloc (.cells xs t)) (w.heap.size + 1) t xs := by
  have := Blk.new (w.alloc o) t xs
  rwa [alloc_sz] at this
theorem Blk.alloc {w : World} {g : Nat} {t : TypeId} {xs : Array Value} (h : Blk w g t xs) (o : Obj) : Blk (w.alloc o) g t xs :=
  (((Below.refl _ w).alloc (Nat.le_refl _) o).block g h.lt).trans h
theorem Blk.below {w w' : World} {g B : Nat} {t : TypeId} {xs : Array Value} (h : Blk w g t xs) (hb : Below B w w') (hB : g < B) : Blk w' g t xs := (hb.block g hB).trans h
theorem Blk.drewN {w : World} {g : Nat} {t : TypeId} {xs : Array Value} (h : Blk w g t xs) (n : Nat) : Blk (w.drewN n) g t xs := h
theorem Blk.drew {w : World} {g : Nat} {t : TypeId} {xs : Array Value} (h : Blk w g t xs) : Blk w.drew g t xs := h
theorem Blk.far {w : World} {g : Nat} {t : TypeId} {xs : Array Value} (h : Blk w g t xs) {p : Addr} (hp : g ≠ p.block) (u : Value) : Blk (w.setCell p u) g t xs :=
  (Below.heap_setCell w p u g hp).trans h
theorem Blk.set {w : World} {g : Nat} {t : TypeId} {xs : Array Value} (h : Blk w g t xs) (j : Nat) (u : Value) : Blk (w.setCell ⟨g, j, none⟩ u) g t (xs.setIfInBounds j u) :=
  heap_setCell_same w g j xs t u h
theorem Blk.cell {w : World} {g : Nat} {t : TypeId} {xs : Array Value} (h : Blk w g t xs) (j : Nat) : w.cell? ⟨g, j, none⟩ = xs[j]? := Lib.cell_of_heap h j
theorem Blk.free {w : World} {g : Nat} {t : TypeId} {xs : Array Value} (h : Blk w g t xs) (j : Nat) : w.frozen? ⟨g, j, none⟩ = false := Lib.frozen_of_heap h j
theorem Blk.six {w : World} {g : Nat} {t : TypeId} {a b c d e f : Value} (h : Blk w g t #[a, b, c, d, e, f]) :
    w.cell? ⟨g, 0, none⟩ = some a ∧ w.cell? ⟨g, 1, none⟩ = some b ∧ w.cell? ⟨g, 2, none⟩ = some c ∧ w.cell? ⟨g, 3, none⟩ = some d ∧ w.cell? ⟨g, 4, none⟩ = some e ∧ w.cell? ⟨g, 5, none⟩ = some f ∧
      ∀ j, w.frozen? ⟨g, j, none⟩ = false := by
  refine ⟨?_, ?_, ?_, ?_, ?_, ?_, h.free⟩ <;> rw [h.cell] <;> rfl
theorem Blk.set6 {w : World} {g : Nat} {t : TypeId} {a0 a1 a2 a3 a4 a5 x0 x1 x2 x3 x4 x5 : Value} (h : Blk w g t #[a0, a1, a2, a3, a4, a5]) : Blk ((((((w.setCell ⟨g, 0, none⟩ x0).setCell ⟨g, 1, none⟩ x1).setCell ⟨g, 2, none⟩ x2).setCell ⟨g, 3, none⟩ x3).setCell ⟨g, 4, none⟩ x4).setCell ⟨g, 5, none⟩ x5) g t #[x0, x1, x2, x3, x4, x5] :=
  ((((((h.set 0 x0).set 1 x1).set 2 x2).set 3 x3).set 4 x4).set 5 x5)
theorem below_set6 {w v : World} {B g : Nat} {x0 x1 x2 x3 x4 x5 : Value} (h : Below B v w) (hg : B ≤ g) : Below B v ((((((w.setCell ⟨g, 0, none⟩ x0).setCell ⟨g, 1, none⟩ x1).setCell ⟨g, 2, none⟩ x2).setCell ⟨g, 3, none⟩ x3).setCell ⟨g, 4, none⟩ x4).setCell ⟨g, 5, none⟩ x5) :=
  (((((h.setCell (p := ⟨g, 0, none⟩) hg x0).setCell (p := ⟨g, 1, none⟩) hg x1).setCell (p := ⟨g, 2, none⟩) hg x2).setCell (p := ⟨g, 3, none⟩) hg x3).setCell (p := ⟨g, 4, none⟩) hg x4).setCell (p := ⟨g, 5, none⟩) hg x5

section
variable {P : Program} {fn : Func} {tmps : Array Value} {w : World} {p q r : Tmp} {ty ty2 : TypeId} {g g2 : Nat} {t t2 : TypeId} {cs cs2 : Array Value} {d d2 : TypeDesc} {v v2 : Value}
theorem results_c (h : fn.results = #[.cell p ty]) (hp : tmps.getD p undef = .pointer (some ⟨g, 0, none⟩)) (hg : Blk w g t cs)
    (hu : P.underlying ty = some d) (hd : (match d with | .struct _ | .array _ _ => true | _ => false) = true) (hi : (P.info? ty).map (·.size) = some cs.size) :
    (results fn tmps).run P w = .ok (.agg cs) w := results_cell_row h tmps w g t cs (0, 0) d hp hg hu hd hi
theorem results_ct (h : fn.results = #[.cell p ty, .tmp r]) (hp : tmps.getD p undef = .pointer (some ⟨g, 0, none⟩)) (hr : tmps.getD r undef = v) (hg : Blk w g t cs)
    (hu : P.underlying ty = some d) (hd : (match d with | .struct _ | .array _ _ => true | _ => false) = true) (hi : (P.info? ty).map (·.size) = some cs.size) :
    (results fn tmps).run P w = .ok (.tuple #[.agg cs, v]) w := by
  have hp' : tmps[p]?.getD undef = .pointer (some ⟨g, 0, none⟩) := by simpa using hp
  have hr' : tmps[r]?.getD undef = v := by simpa using hr
  simp [results, h, hp', hr', asAddr, run_loadVar_row w g t ty cs (0, 0) d hg hu hd hi]
end
end Go.Proofs.YtiodikflmijhkaaGreatDoor
end

section
namespace Go.Proofs.YtiodikflmijhkaaGreatDoor
set_option linter.unusedVariables false

section
variable {H : Type} {enc : TypeId × Value → H} {P : Program} {w : World} {base fuel n m : Nat} {spare : Nat → Bool} {held : Bool} {t e d : TypeId} {k : IntKind} {cs : List Value} {x : DataW H × List MemPlace}
theorem tab_flat (hu : P.underlying t = some (.array n d)) (hu3 : P.underlying d = some (.int k)) (c2 : P.cellsOf d = 1)
    (h : DataW.trod enc P w base spare held fuel t cs = some x) (xs0 : List Int) (hx : x.1 = .agg (xs0.map fun z => .lit (.int k z))) (b : Nat) (hb : b < n) :
    cs[b]? = some (.int k (xs0.getD b 0)) := by
  obtain ⟨ys, f2, _, ey, hcl2, hl2, hel2⟩ := DataW.trod_array hu h
  have hE2 := hel2 b hb
  rw [c2, Nat.mul_one, List.getElem?_eq_getElem (by omega)] at hE2
  obtain ⟨z, e1, e2, _⟩ := DataW.trod_int hu3 hE2
  have q2 : ys.map (·.1) = xs0.map fun z => (DataW.lit (.int k z) : DataW H) := by
    rw [ey] at hx; exact DataW.agg.inj hx
  have q3 : (ys.map (·.1))[b]? = (xs0.map fun z => (DataW.lit (.int k z) : DataW H))[b]? := by rw [q2]
  have hlr : xs0.length = n := by have := congrArg List.length q2; simpa [hl2] using this.symm
  rw [List.getElem?_map, List.getElem?_map, List.getElem?_eq_getElem (by omega : b < ys.length), List.getElem?_eq_getElem (by omega : b < xs0.length), e2] at q3
  have hz : z = xs0.getD b 0 := by
    simp only [Option.map_some, Option.some.injEq, DataW.lit.injEq, Lit.int.injEq, true_and] at q3
    rw [q3, List.getD_eq_getElem?_getD, List.getElem?_eq_getElem (by omega : b < xs0.length)]; rfl
  rw [← hz]
  have h0 : ((cs.drop b).take 1)[0]? = some (.int k z) := by rw [e1]; rfl
  simpa using h0
theorem tab_nested (hu : P.underlying t = some (.array n e)) (hu2 : P.underlying e = some (.array m d)) (hu3 : P.underlying d = some (.int k)) (c1 : P.cellsOf e = m) (c2 : P.cellsOf d = 1)
    (h : DataW.trod enc P w base spare held fuel t cs = some x) (rows : List (List Int)) (hx : x.1 = .agg (rows.map fun r => .agg (r.map fun z => .lit (.int k z)))) (a b : Nat) (ha : a < n) (hb : b < m) :
    cs[a * m + b]? = some (.int k ((rows.getD a []).getD b 0)) := by
  obtain ⟨xs, f1, _, ex, hcl, hl, hel⟩ := DataW.trod_array hu h
  have hE := hel a ha
  rw [c1, List.getElem?_eq_getElem (by omega)] at hE
  have q1 : xs.map (·.1) = rows.map fun r => (DataW.agg (r.map fun z => .lit (.int k z)) : DataW H) := by
    rw [ex] at hx; exact DataW.agg.inj hx
  have hlr : rows.length = n := by have := congrArg List.length q1; simpa [hl] using this.symm
  have q2 : (xs.map (·.1))[a]? = (rows.map fun r => (DataW.agg (r.map fun z => .lit (.int k z)) : DataW H))[a]? := by rw [q1]
  rw [List.getElem?_map, List.getElem?_map, List.getElem?_eq_getElem (by omega : a < xs.length), List.getElem?_eq_getElem (by omega : a < rows.length)] at q2
  simp only [Option.map_some, Option.some.injEq] at q2
  have := tab_flat hu2 hu3 c2 hE rows[a] q2 b hb
  rw [List.getD_eq_getElem?_getD (l := rows), List.getElem?_eq_getElem (by omega : a < rows.length)]
  rw [List.getElem?_take_of_lt hb, List.getElem?_drop] at this
  exact this
end
end Go.Proofs.YtiodikflmijhkaaGreatDoor
end

section
namespace Go.Proofs.YtiodikflmijhkaaGreatDoor
open Go.RowKit
set_option linter.unusedVariables false

/-- The blocks from lo to hi lie as they lay. -/
structure KeepsIn (lo hi : Nat) (W W' : World) : Prop where
  size : W.heap.size ≤ W'.heap.size
  at_ : ∀ g, lo ≤ g → g < hi → W'.heap[g]? = W.heap[g]?
theorem KeepsIn.refl (lo hi : Nat) (W : World) : KeepsIn lo hi W W := ⟨Nat.le_refl _, fun _ _ _ => rfl⟩
theorem KeepsIn.trans {lo hi : Nat} {A B C : World} (h : KeepsIn lo hi A B) (k : KeepsIn lo hi B C) : KeepsIn lo hi A C := ⟨Nat.le_trans h.size k.size, fun g a b => (k.at_ g a b).trans (h.at_ g a b)⟩
theorem KeepsIn.mono {lo hi lo' hi' : Nat} {A B : World} (h : KeepsIn lo hi A B) (h1 : lo ≤ lo') (h2 : hi' ≤ hi) : KeepsIn lo' hi' A B := ⟨h.size, fun g a b => h.at_ g (by omega) (by omega)⟩
theorem KeepsIn.grown {lo hi : Nat} {A B : World} {row : Option Nat} (hg : A.grownBy B row) (hs : hi ≤ A.heap.size) (hr : ∀ g, row = some g → g < lo ∨ hi ≤ g) : KeepsIn lo hi A B :=
  ⟨hg.size, fun g a b => hg.block g (by omega) fun e => by have := hr g e.symm; omega⟩
theorem KeepsIn.putObj {lo hi : Nat} (W : World) (l : Nat) (o : Obj) (h : l < lo ∨ hi ≤ l) : KeepsIn lo hi W (W.putObj l o) := ⟨by simp, fun g a b => World.putObj_heap_other (by omega)⟩
theorem KeepsIn.setCell {lo hi : Nat} (W : World) (p : Addr) (v : Value) (h : p.block < lo ∨ hi ≤ p.block) : KeepsIn lo hi W (W.setCell p v) := ⟨by simp [World.setCell], fun g a b => Below.heap_setCell W p v g (by omega)⟩
theorem KeepsIn.alloc {lo hi : Nat} (W : World) (o : Obj) (h : hi ≤ W.heap.size) : KeepsIn lo hi W (W.alloc o) := ⟨by simp, fun g a b => Below.heap_alloc W o g (by omega)⟩

/-- An iterator, for every loop body whose invariant minds the turns of no block laid since the call (a loop's record among them). It lays K blocks of its own ahead of the first round, and none behind; each round leaves these, and says Kp. -/
def SeqItG {α : Type} (P : Program) (g : Nat) (lb : Array Value) (encs : α → Array Value) (K : Nat) (Kp : World → World → Prop) (S Sp : List α → Prop) (G : List α → α → Prop) (w : World) : Prop :=
  ∀ (l : Nat) (J Jx : List α → World → Prop) (W : World), Below w.heap.size w W → l < W.heap.size → OwnFrom W.heap.size J → OwnFrom W.heap.size Jx →
    (∀ pre x W1, J pre W1 → G pre x → W.heap.size + K ≤ W1.heap.size → YieldAt Fence.wide 0 P l (encs x) W1 fun e W' =>
      KeepsIn W.heap.size (W.heap.size + K) W1 W' ∧ ((e = .returned (.bool true) ∧ J (pre ++ [x]) W' ∧ Kp W1 W') ∨ (e = .returned (.bool false) ∧ Jx (pre ++ [x]) W'))) →
    J [] W →
    Calls P g (#[.func (.yield l) #[] #[]] ++ lb) W fun e W' => (∃ v, e = .returned v) ∧ ((∃ xs, S xs ∧ J xs W') ∨ (∃ pre, Sp pre ∧ Jx pre W'))

theorem SeqItG.later {α : Type} {P : Program} {g : Nat} {lb : Array Value} {encs : α → Array Value} {K : Nat} {Kp : World → World → Prop} {S Sp : List α → Prop} {G : List α → α → Prop} {w w' : World}
    (h : SeqItG P g lb encs K Kp S Sp G w) (hb : Below w.heap.size w w') : SeqItG P g lb encs K Kp S Sp G w' :=
  fun l J Jx W hW hl hJ hJx hY h0 => h l J Jx W (hb.trans (hW.mono hb.size)) hl hJ hJx hY h0
theorem SeqItG.mono {α : Type} {P : Program} {g : Nat} {lb : Array Value} {encs : α → Array Value} {K : Nat} {Kp : World → World → Prop} {S Sp : List α → Prop} {G G' : List α → α → Prop} {w : World}
    (h : SeqItG P g lb encs K Kp S Sp G w) (hG : ∀ pre x, G pre x → G' pre x) : SeqItG P g lb encs K Kp S Sp G' w :=
  fun l J Jx W hW hl hJ hJx hY h0 => h l J Jx W hW hl hJ hJx (fun pre x W1 a b c => hY pre x W1 a (hG pre x b) c) h0
/-- Of what came ahead the length alone is told. -/
abbrev SeqIt {α : Type} (P : Program) (g : Nat) (lb : Array Value) (encs : α → Array Value) (K : Nat) (Kp : World → World → Prop) (S Sp : List α → Prop) (N : Nat) (w : World) : Prop :=
  SeqItG P g lb encs K Kp S Sp (fun pre _ => pre.length < N) w
theorem SeqIt.later {α : Type} {P : Program} {g : Nat} {lb : Array Value} {encs : α → Array Value} {K : Nat} {Kp : World → World → Prop} {S Sp : List α → Prop} {N : Nat} {w w' : World}
    (h : SeqIt P g lb encs K Kp S Sp N w) (hb : Below w.heap.size w w') : SeqIt P g lb encs K Kp S Sp N w' := SeqItG.later h hb

/-- The two blocks of a loop's book-keeping. -/
def AtLoop (b : Nat) (r : Loop) (W : World) : Prop := W.heap[b]? = some (.deferred (some [])) ∧ W.heap[b + 1]? = some (.loop r)
theorem AtLoop.keeps {b lo hi : Nat} {r : Loop} {W W' : World} (h : AtLoop b r W) (k : KeepsIn lo hi W W') (hl : lo ≤ b) (hh : b + 2 ≤ hi) : AtLoop b r W' :=
  ⟨(k.at_ _ hl (by omega)).trans h.1, (k.at_ _ (by omega) (by omega)).trans h.2⟩
theorem AtLoop.put {b : Nat} {r : Loop} {W : World} (h : AtLoop b r W) (r' : Loop) : AtLoop b r' (W.putObj (b + 1) (.loop r')) :=
  ⟨(World.putObj_heap_other (by omega)).trans h.1, World.putObj_heap_same (Array.getElem?_eq_some_iff.1 h.2).1⟩
theorem AtLoop.lt {b : Nat} {r : Loop} {W : World} (h : AtLoop b r W) : b + 1 < W.heap.size := (Array.getElem?_eq_some_iff.1 h.2).1
theorem AtLoop.own {β : Type} (b B : Nat) (r : Loop) (hB : b + 2 ≤ B) : OwnFrom B (fun (_ : β) W => AtLoop b r W) := by
  intro s A C row hs hg hr
  have h1 : A.heap.size > b + 1 := hs.lt
  exact ⟨(hg.block b (by omega) fun e => by have := (hr b e.symm).1; omega).trans hs.1, (hg.block (b + 1) h1 fun e => by have := (hr _ e.symm).1; omega).trans hs.2⟩
theorem AtLoop.start (w : World) (r : Loop) : AtLoop w.heap.size r ((w.alloc (.deferred (some []))).alloc (.loop r)) := by
  have h2 := World.alloc_heap_new (w.alloc (.deferred (some []))) (.loop r)
  rw [World.size_alloc] at h2
  exact ⟨(Below.heap_alloc _ _ _ (by simp)).trans (World.alloc_heap_new w _), h2⟩
end Go.Proofs.YtiodikflmijhkaaGreatDoor
end
