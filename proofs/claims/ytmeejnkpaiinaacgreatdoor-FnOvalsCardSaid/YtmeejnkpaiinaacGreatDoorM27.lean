/- Planes over three places: lines, points, ovals, fours. No program is named here. -/
import Derived.Test.YtmeejnkpaiinaacGreatDoorM23
import Derived.Test.YtmeejnkpaiinaacGreatDoorM26
namespace Go.Proofs.YtmeejnkpaiinaacGreatDoor
set_option linter.unusedVariables false
attribute [local irreducible] octS cN octF syn

/-! ### Lines -/
def IsBase (B : Nat) : Prop := B < 16777216 ∧ pop B = 3
def IsLine (B l : Nat) : Prop := ∃ m, m < 4096 ∧ pop (cN m) = 8 ∧ Sub B (cN m) ∧ l = cN m ^^^ B
/-- The lines for a base, in ascending order. -/
def lns (B : Int) : List Int := sortI ((oWith B).map fun x => xorI x B)
def hasB (T x : Int) : Bool := andI x T == T
theorem IsLine.facts {B l : Nat} (hB : IsBase B) (h : IsLine B l) : l < 16777216 ∧ pop l = 5 ∧ l &&& B = 0 ∧ ∃ m, m < 4096 ∧ cN m = l ^^^ B ∧ pop (cN m) = 8 ∧ Sub B (cN m) := by
  obtain ⟨m, hm, h8, hs, rfl⟩ := h
  have hx := pop_xor (cN m) B
  rw [show cN m &&& B = B from hs, h8, hB.2] at hx
  refine ⟨xor_lt24 _ _ (cN_lt m) hB.1, by omega, ?_, m, hm, (xor_back _ _).symm, h8, hs⟩
  rw [Nat.and_xor_distrib_right, show cN m &&& B = B from hs, Nat.and_self, Nat.xor_self]
theorem IsLine.noB {B l q : Nat} (hB : IsBase B) (h : IsLine B l) (hq : l.testBit q = true) : B.testBit q = false := by
  have h0 : (l &&& B).testBit q = false := by rw [(h.facts hB).2.2.1]; simp
  rw [Nat.testBit_and, hq] at h0
  simpa using h0
theorem IsLine.meet {B l k : Nat} (hB : IsBase B) (h : IsLine B l) (h' : IsLine B k) (hne : l ≠ k) : pop (l &&& k) = 1 := by
  obtain ⟨l1, l5, _, m, hm, em, _⟩ := h.facts hB
  obtain ⟨k1, k5, _, n, hn, en, _⟩ := h'.facts hB
  have hx := pop_xor l k
  have he : cN (m ^^^ n) = l ^^^ k := by rw [cN_xor, em, en, xor_cancel]
  have hw := (code_wts (m ^^^ n) (xor_lt12 _ _ hm hn)).1
  rw [he] at hw
  have h0 : pop (l ^^^ k) ≠ 0 := fun e => hne (xor_eq_zero (pop_zero _ (xor_lt24 _ _ l1 k1) e))
  omega
theorem lns_mem {B : Nat} (hB : IsBase B) (x : Int) : x ∈ lns (B : Int) ↔ ∃ l, IsLine B l ∧ x = (l : Int) := by
  unfold lns
  rw [(sortI_perm _).mem_iff, List.mem_map]
  constructor
  · rintro ⟨o, ho, rfl⟩
    obtain ⟨h1, h2⟩ := oWith_mem.1 ho
    obtain ⟨m, hm, e1, e2, h8⟩ := oct_nat (oct_iff.2 h1)
    rw [e1, andI_nat] at h2
    rw [e1, xorI_nat]
    exact ⟨_, ⟨m, hm, h8, by show cN m &&& B = B; omega, rfl⟩, rfl⟩
  · rintro ⟨l, ⟨m, hm, h8, hs, rfl⟩, rfl⟩
    refine ⟨((cN m : Nat) : Int), oWith_mem.2 ⟨oct_iff.1 (nat_oct hm h8), ?_⟩, by rw [xorI_nat]⟩
    rw [andI_nat, show cN m &&& B = B from hs]
theorem lns_nodup {B : Nat} (hB : IsBase B) : (lns (B : Int)).Nodup := by
  unfold lns
  exact (sortI_perm _).nodup_iff.2 (map_xor_nodup _ (by omega) _ (fun x hx => (oWith_mem.1 hx).1.rng.1) (oWith_asc _).nodup)
theorem lns_asc {B : Nat} (hB : IsBase B) : Asc (lns (B : Int)) := by
  have hn := lns_nodup hB
  unfold Asc
  exact ((sortI_pair _).and hn).imp fun {a b} h => by have := h.1; have := h.2; omega
theorem xor_and_both (x B T : Nat) (hT : T &&& B = 0) : (x &&& B = B ∧ (x ^^^ B) &&& T = T) ↔ x &&& (T ||| B) = T ||| B := by
  have hd : ∀ q, T.testBit q = true → B.testBit q = false := fun q h => by
    have h0 : (T &&& B).testBit q = false := by rw [hT]; simp
    rw [Nat.testBit_and, h] at h0
    simpa using h0
  constructor
  · rintro ⟨h1, h2⟩
    refine sub_of (b := x) fun q hq => ?_
    rw [Nat.testBit_or] at hq
    simp only [Bool.or_eq_true] at hq
    rcases hq with hq | hq
    · have := Sub.bit (a := T) (b := x ^^^ B) h2 q hq
      rw [Nat.testBit_xor, hd q hq] at this
      simpa using this
    · exact Sub.bit (a := B) (b := x) h1 q hq
  · intro h
    refine ⟨sub_of (b := x) fun q hq => Sub.bit (b := x) h q (by rw [Nat.testBit_or, hq]; simp), sub_of (b := x ^^^ B) fun q hq => ?_⟩
    rw [Nat.testBit_xor, hd q hq, Sub.bit (b := x) h q (by rw [Nat.testBit_or, hq]; rfl)]
    rfl
theorem lns_count {B T : Nat} (hB : IsBase B) (hT : T &&& B = 0) : ((lns (B : Int)).filter (hasB (T : Int))).length = (thr (T ||| B)).length := by
  have hp := ((sortI_perm ((oWith (B : Int)).map fun x => xorI x (B : Int))).filter (hasB (T : Int))).length_eq
  unfold lns
  rw [hp, List.filter_map, List.length_map, oWith_thr]
  unfold thr
  rw [List.filter_filter]
  refine congrArg List.length (List.filter_congr fun x hx => ?_)
  obtain ⟨m, hm, e1, e2, h8⟩ := oct_nat hx
  rw [e2, Bool.eq_iff_iff]
  simp only [Function.comp, hasB, Bool.and_eq_true, decide_eq_true_eq, beq_iff_eq]
  rw [e1, xorI_nat, andI_nat, ← xor_and_both _ B T hT]
  constructor
  · rintro ⟨h1, h2⟩; exact ⟨h2, by omega⟩
  · rintro ⟨h1, h2⟩; exact ⟨by rw [h2], h1⟩
theorem lns_len {B : Nat} (hB : IsBase B) : (lns (B : Int)).length = 21 := by
  unfold lns
  rw [sortI_len, List.length_map, oWith_thr]
  exact thr3 B hB.1 hB.2
theorem pop_or_dis (T B : Nat) (hT : T < 16777216) (hB : B < 16777216) (h : T &&& B = 0) : pop (T ||| B) = pop T + pop B := by
  have e : T ||| B = T ^^^ B := Nat.eq_of_testBit_eq fun q => by
    have h0 : (T &&& B).testBit q = false := by rw [h]; simp
    rw [Nat.testBit_and] at h0
    rw [Nat.testBit_or, Nat.testBit_xor]
    cases h1 : T.testBit q <;> cases h2 : B.testBit q <;> simp_all
  have := pop_xor T B
  rw [h, pop_zero_] at this
  rw [e]
  omega
theorem pair_pop (p q : Nat) (hp : p < 24) (hq : q < 24) (h : p ≠ q) : pop (2 ^ p ||| 2 ^ q) = 2 := by
  rw [pop_or _ q hq (by rw [bit_pow2]; simp [h]), pop_pow p hp]
theorem pair_dis {B p q : Nat} (hp : B.testBit p = false) (hq : B.testBit q = false) : (2 ^ p ||| 2 ^ q) &&& B = 0 := Nat.eq_of_testBit_eq fun r => by
  rw [Nat.testBit_and, or_bit, bit_pow2, Nat.zero_testBit]
  by_cases e : p = r
  · subst e; rw [hp]; simp
  · by_cases e2 : q = r
    · subst e2; rw [hq]; simp
    · simp [e, e2]
theorem one_dis {B p : Nat} (hp : B.testBit p = false) : 2 ^ p &&& B = 0 := by
  have := pair_dis hp hp
  rwa [Nat.or_self] at this
theorem has_bits {l p q : Nat} : l &&& (2 ^ p ||| 2 ^ q) = 2 ^ p ||| 2 ^ q ↔ l.testBit p = true ∧ l.testBit q = true := by
  constructor
  · intro h
    exact ⟨Sub.bit (b := l) h p (by rw [or_bit, bit_pow2]; simp), Sub.bit (b := l) h q (by rw [or_bit]; simp)⟩
  · rintro ⟨h1, h2⟩
    refine sub_of (b := l) fun r hr => ?_
    rw [or_bit, bit_pow2] at hr
    simp at hr
    rcases hr with rfl | rfl
    · exact h1
    · exact h2
/-- Two lines with two common points are one. -/
theorem line_uniq {B l k p q : Nat} (hB : IsBase B) (h : IsLine B l) (h' : IsLine B k) (hpq : p ≠ q) (h1 : l.testBit p = true) (h2 : l.testBit q = true) (h3 : k.testBit p = true) (h4 : k.testBit q = true) : l = k := by
  refine Classical.byContradiction fun hne => ?_
  have hm := IsLine.meet hB h h' hne
  have hp := bit_lt24 (h.facts hB).1 h1
  have hq := bit_lt24 (h.facts hB).1 h2
  have hs : Sub (2 ^ p ||| 2 ^ q) (l &&& k) := has_bits.2 ⟨by rw [Nat.testBit_and, h1, h3]; rfl, by rw [Nat.testBit_and, h2, h4]; rfl⟩
  have := hs.le
  rw [pair_pop p q hp hq hpq] at this
  omega
theorem line_ex {B p q : Nat} (hB : IsBase B) (hp : p < 24) (hq : q < 24) (hpq : p ≠ q) (bp : B.testBit p = false) (bq : B.testBit q = false) : ∃ l, IsLine B l ∧ l.testBit p = true ∧ l.testBit q = true := by
  have hd := pair_dis bp bq
  have hc := lns_count hB hd
  have hlt : 2 ^ p ||| 2 ^ q < 16777216 := or_lt _ q (pow_lt24 p hp) hq
  rw [thr5 _ (Nat.or_lt_two_pow (n := 24) hlt hB.1) (by rw [pop_or_dis _ _ hlt hB.1 hd, pair_pop p q hp hq hpq, hB.2])] at hc
  obtain ⟨x, hx⟩ := List.exists_mem_of_length_pos (show 0 < ((lns (B : Int)).filter (hasB ((2 ^ p ||| 2 ^ q : Nat) : Int))).length by omega)
  obtain ⟨h1, h2⟩ := List.mem_filter.1 hx
  obtain ⟨l, hl, rfl⟩ := (lns_mem hB x).1 h1
  unfold hasB at h2
  rw [andI_sub, decide_eq_true_eq, has_bits] at h2
  exact ⟨l, hl, h2⟩
/-- Two lines have one point in common. -/
theorem meet_at {B l k : Nat} (hB : IsBase B) (h : IsLine B l) (h' : IsLine B k) (hne : l ≠ k) : ∃ a, a < 24 ∧ l &&& k = 2 ^ a ∧ l.testBit a = true ∧ k.testBit a = true := by
  have hm := IsLine.meet hB h h' hne
  have hlt : l &&& k < 16777216 := Nat.lt_of_le_of_lt Nat.and_le_left (h.facts hB).1
  obtain ⟨a, ha, h1, _⟩ := new_place (F := 0) (w := l &&& k) (sub_of fun q hq => by simp at hq) hlt (by omega) (by rw [pop_zero_]; omega)
  have hs : Sub (2 ^ a) (l &&& k) := sub_of fun q hq => by rw [bit_pow2] at hq; simp at hq; subst hq; exact h1
  have e := sub_eq hs (pow_lt24 a ha) hlt (by rw [pop_pow a ha]; omega)
  rw [Nat.testBit_and] at h1
  simp only [Bool.and_eq_true] at h1
  exact ⟨a, ha, e.symm, h1.1, h1.2⟩
/-! ### Places counted -/
theorem pl_and (l w : Nat) : pl (l &&& w) = (pl w).filter l.testBit := by
  unfold pl plN
  rw [List.filter_filter]
  exact List.filter_congr fun q _ => by rw [Nat.testBit_and]
theorem pop_and (l w : Nat) : pop (l &&& w) = (pl w).countP l.testBit := by
  rw [pop_pl, pl_and, List.countP_eq_length_filter]
theorem cntP4 (f : Nat → Bool) (a b c d : Nat) : [a, b, c, d].countP f = (if f a then 1 else 0) + (if f b then 1 else 0) + (if f c then 1 else 0) + (if f d then 1 else 0) := by
  simp only [List.countP_cons, List.countP_nil]; omega

/-! ### Ovals -/
theorem sumL_two (f : Int → Nat) : ∀ L : List Int, (∀ x ∈ L, f x ≤ 2) → sumL f L = 2 * L.length → ∀ x ∈ L, f x = 2
  | [], _, _, x, hx => absurd hx (by simp)
  | y :: L, h, hs, x, hx => by
    have hle : ∀ M : List Int, (∀ x ∈ M, f x ≤ 2) → sumL f M ≤ 2 * M.length := by
      intro M
      induction M with
      | nil => intro _; simp [sumL]
      | cons z M ih =>
        intro hz
        have h1 := ih fun u hu => hz u (List.mem_cons_of_mem _ hu)
        have h2 := hz z (List.mem_cons_self ..)
        simp only [sumL, List.length_cons]
        omega
    have h1 := hle L fun u hu => h u (List.mem_cons_of_mem _ hu)
    have h2 := h y (List.mem_cons_self ..)
    simp only [sumL, List.length_cons] at hs
    rcases List.mem_cons.1 hx with rfl | hx
    · omega
    · exact sumL_two f L (fun u hu => h u (List.mem_cons_of_mem _ hu)) (by omega) x hx
def thinB (B w : Int) : Bool := (lns B).all fun x => decide (wt (andI x w) ≤ 2)
theorem thinB_iff {B w : Nat} (hB : IsBase B) : thinB (B : Int) (w : Int) = true ↔ ∀ l, IsLine B l → pop (l &&& w) ≤ 2 := by
  unfold thinB
  rw [List.all_eq_true]
  constructor
  · intro h l hl
    have := h (l : Int) ((lns_mem hB _).2 ⟨l, hl, rfl⟩)
    rw [decide_eq_true_eq, andI_nat, wt_pop] at this
    omega
  · intro h x hx
    obtain ⟨l, hl, rfl⟩ := (lns_mem hB x).1 hx
    rw [decide_eq_true_eq, andI_nat, wt_pop]
    have := h l hl
    omega
theorem has_one (l p : Nat) : hasB ((2 ^ p : Nat) : Int) (l : Int) = l.testBit p := by
  unfold hasB
  rw [andI_sub, one_place]
theorem pt_count {B p : Nat} (hB : IsBase B) (hp : p < 24) (bp : B.testBit p = false) : ((lns (B : Int)).filter (hasB ((2 ^ p : Nat) : Int))).length = 5 := by
  rw [lns_count hB (one_dis bp)]
  refine thr4 _ (Nat.or_lt_two_pow (n := 24) (pow_lt24 p hp) hB.1) ?_
  rw [pop_or_dis _ _ (pow_lt24 p hp) hB.1 (one_dis bp), pop_pow p hp, hB.2]
theorem two_count {B p q : Nat} (hB : IsBase B) (hp : p < 24) (hq : q < 24) (hpq : p ≠ q) (bp : B.testBit p = false) (bq : B.testBit q = false) : ((lns (B : Int)).filter (hasB ((2 ^ p ||| 2 ^ q : Nat) : Int))).length = 1 := by
  have hd := pair_dis bp bq
  have hlt : 2 ^ p ||| 2 ^ q < 16777216 := or_lt _ q (pow_lt24 p hp) hq
  rw [lns_count hB hd]
  exact thr5 _ (Nat.or_lt_two_pow (n := 24) hlt hB.1) (by rw [pop_or_dis _ _ hlt hB.1 hd, pair_pop p q hp hq hpq, hB.2])
/-- A line that has a point of an oval has two. -/
theorem oval_two {B w l p : Nat} (hB : IsBase B) (hw : w < 16777216) (hwB : w &&& B = 0) (h6 : pop w = 6) (ht : ∀ l, IsLine B l → pop (l &&& w) ≤ 2) (hl : IsLine B l) (h1 : l.testBit p = true) (h2 : w.testBit p = true) : pop (l &&& w) = 2 := by
  have hp := bit_lt24 hw h2
  have nb : ∀ q, w.testBit q = true → B.testBit q = false := fun q hq => by
    have h0 : (w &&& B).testBit q = false := by rw [hwB]; simp
    rw [Nat.testBit_and, hq] at h0
    simpa using h0
  have hb := nb p h2
  have hmem : ∀ x ∈ (lns (B : Int)).filter (hasB ((2 ^ p : Nat) : Int)), ∃ k, IsLine B k ∧ x = (k : Int) ∧ k.testBit p = true := fun x hx => by
    obtain ⟨h3, h4⟩ := List.mem_filter.1 hx
    obtain ⟨k, hk, rfl⟩ := (lns_mem hB x).1 h3
    rw [has_one] at h4
    exact ⟨k, hk, rfl, h4⟩
  have hs : sumL (fun x => pop (x.toNat &&& w)) ((lns (B : Int)).filter (hasB ((2 ^ p : Nat) : Int))) = 2 * ((lns (B : Int)).filter (hasB ((2 ^ p : Nat) : Int))).length := by
    rw [sumL_bits, pt_count hB hp hb, sumR_ext 24 _ (fun q => bN w q + 4 * (if q = p then 1 else 0))]
    · rw [sumR_add, sumR_mul, ← pop_sum, h6, sumR_one 24 p hp]
    · intro q hq
      unfold bN
      by_cases e : w.testBit q = true
      · rw [if_pos e, if_pos e]
        by_cases e2 : q = p
        · subst e2
          rw [if_pos rfl]
          have : ((lns (B : Int)).filter (hasB ((2 ^ q : Nat) : Int))).countP (fun x => x.toNat.testBit q) = ((lns (B : Int)).filter (hasB ((2 ^ q : Nat) : Int))).length := by
            rw [List.countP_eq_length]
            intro x hx
            obtain ⟨k, _, rfl, h5⟩ := hmem x hx
            exact h5
          rw [this, pt_count hB hq hb]
        · rw [if_neg e2]
          have hc := two_count hB hp hq (fun h => e2 h.symm) hb (nb q e)
          rw [List.countP_eq_length_filter, List.filter_filter]
          rw [show (lns (B : Int)).filter (fun x => x.toNat.testBit q && hasB ((2 ^ p : Nat) : Int) x) = (lns (B : Int)).filter (hasB ((2 ^ p ||| 2 ^ q : Nat) : Int)) from List.filter_congr fun x hx => by
            obtain ⟨k, hk, rfl⟩ := (lns_mem hB x).1 hx
            rw [has_one, Int.toNat_natCast, Bool.eq_iff_iff]
            unfold hasB
            rw [andI_sub, decide_eq_true_eq, has_bits, Bool.and_eq_true]
            exact And.comm]
          rw [hc]
      · have e' : w.testBit q = false := by simpa using e
        have e2 : q ≠ p := fun h => by rw [h, h2] at e'; cases e'
        rw [if_neg e, if_neg e, if_neg e2]
  have hx := sumL_two (fun x => pop (x.toNat &&& w)) _ (fun x hx => by
    obtain ⟨k, hk, rfl, _⟩ := hmem x hx
    rw [Int.toNat_natCast]
    exact ht k hk) hs (l : Int) (List.mem_filter.2 ⟨(lns_mem hB _).2 ⟨l, hl, rfl⟩, by rw [has_one]; exact h1⟩)
  rw [Int.toNat_natCast] at hx
  exact hx
theorem oval_all {B w l : Nat} (hB : IsBase B) (hw : w < 16777216) (hwB : w &&& B = 0) (h6 : pop w = 6) (ht : ∀ l, IsLine B l → pop (l &&& w) ≤ 2) (hl : IsLine B l) : pop (l &&& w) = 0 ∨ pop (l &&& w) = 2 := by
  by_cases h0 : pop (l &&& w) = 0
  · exact .inl h0
  · have hlt : l &&& w < 16777216 := Nat.lt_of_le_of_lt Nat.and_le_right hw
    obtain ⟨p, hp, h1, _⟩ := new_place (F := 0) (w := l &&& w) (sub_of fun q hq => by simp at hq) hlt (by omega) (by rw [pop_zero_]; omega)
    rw [Nat.testBit_and] at h1
    simp only [Bool.and_eq_true] at h1
    exact .inr (oval_two hB hw hwB h6 ht hl h1.1 h1.2)

/-! ### Octads with just two places of the base -/
/-- The ovals that octads with just the places T of the base leave, in ascending order. -/
def ovl (B T : Int) : List Int := sortI ((octS.filter fun x => andI x B == T).map fun x => xorI x T)
theorem ovl_mem {B T : Nat} (x : Int) : x ∈ ovl (B : Int) (T : Int) ↔ ∃ m, m < 4096 ∧ pop (cN m) = 8 ∧ cN m &&& B = T ∧ x = ((cN m ^^^ T : Nat) : Int) := by
  unfold ovl
  rw [(sortI_perm _).mem_iff, List.mem_map]
  constructor
  · rintro ⟨o, ho, rfl⟩
    obtain ⟨h1, h2⟩ := List.mem_filter.1 ho
    obtain ⟨m, hm, e1, e2, h8⟩ := oct_nat h1
    rw [e1, andI_nat, beq_iff_eq] at h2
    rw [e1, xorI_nat]
    exact ⟨m, hm, h8, by omega, rfl⟩
  · rintro ⟨m, hm, h8, hs, rfl⟩
    refine ⟨((cN m : Nat) : Int), List.mem_filter.2 ⟨nat_oct hm h8, ?_⟩, by rw [xorI_nat]⟩
    rw [andI_nat, hs, beq_self_eq_true]
theorem ovl_asc (B T : Nat) : Asc (ovl (B : Int) (T : Int)) := by
  have hn : (ovl (B : Int) (T : Int)).Nodup := by
    unfold ovl
    exact (sortI_perm _).nodup_iff.2 (map_xor_nodup _ (by omega) _ (fun x hx => (oct_iff.1 (List.mem_filter.1 hx).1).rng.1) (octS_is.1.nodup.sublist List.filter_sublist))
  unfold Asc
  exact ((sortI_pair _).and hn).imp fun {a b} h => by have := h.1; have := h.2; omega
theorem pair_split (x B T r : Nat) (hBr : B = T ||| 2 ^ r) (r2 : B.testBit r = true) (r3 : T.testBit r = false) :
    (if decide (x &&& T = T) then 1 else 0) = (if decide (x &&& B = B) then 1 else 0) + (if decide (x &&& B = T) then 1 else 0) := by
  have k1 : (x &&& T = T) ↔ (∀ q, T.testBit q = true → x.testBit q = true) := ⟨fun h q hq => Sub.bit (a := T) (b := x) h q hq, fun h => sub_of (b := x) h⟩
  have k2 : (x &&& B = B) ↔ (x &&& T = T) ∧ x.testBit r = true := by
    have := and_or_bit x T r
    rw [← hBr] at this
    rw [Bool.eq_iff_iff] at this
    simp only [Bool.and_eq_true, decide_eq_true_eq] at this
    exact this.symm
  have k3 : (x &&& B = T) ↔ (x &&& T = T) ∧ x.testBit r = false := by
    constructor
    · intro h
      refine ⟨k1.2 fun q hq => ?_, ?_⟩
      · rw [← h, Nat.testBit_and] at hq
        simp at hq
        exact hq.1
      · have : (x &&& B).testBit r = false := by rw [h]; exact r3
        rw [Nat.testBit_and, r2] at this
        simpa using this
    · rintro ⟨h1, h3⟩
      refine Nat.eq_of_testBit_eq fun q => ?_
      rw [Nat.testBit_and, hBr, or_bit]
      by_cases e : r = q
      · subst e; rw [h3, r3]; rfl
      · simp only [e, decide_false, Bool.or_false]
        cases hq : T.testBit q
        · simp
        · rw [k1.1 h1 q hq]; rfl
  cases h : x.testBit r
  · rw [h] at k2 k3
    rw [show decide (x &&& B = B) = false from decide_eq_false (by rw [k2]; simp), show decide (x &&& B = T) = decide (x &&& T = T) from decide_eq_decide.2 (by rw [k3]; simp)]
    simp
  · rw [h] at k2 k3
    rw [show decide (x &&& B = B) = decide (x &&& T = T) from decide_eq_decide.2 (by rw [k2]; simp), show decide (x &&& B = T) = false from decide_eq_false (by rw [k3]; simp)]
    simp
theorem thr_cnt (T : Nat) : octS.countP (fun x => decide (x.toNat &&& T = T)) = (thr T).length := List.countP_eq_length_filter
theorem ovl_sum {B T r : Nat} (hBr : B = T ||| 2 ^ r) (r2 : B.testBit r = true) (r3 : T.testBit r = false) : (thr T).length = (thr B).length + octS.countP (fun x => andI x (B : Int) == (T : Int)) := by
  rw [← thr_cnt, ← thr_cnt]
  refine countP_two _ _ _ _ fun x hx => ?_
  obtain ⟨m, hm, e1, e2, h8⟩ := oct_nat hx
  rw [e2, e1, andI_nat]
  generalize cN m = y at *
  have k4 : (((y &&& B : Nat) : Int) == (T : Int)) = decide (y &&& B = T) := by
    rw [Bool.eq_iff_iff, beq_iff_eq, decide_eq_true_eq]; omega
  rw [k4]
  exact pair_split y B T r hBr r2 r3
theorem ovl_cnt (B T : Int) : (ovl B T).length = octS.countP (fun x => andI x B == T) := by
  unfold ovl
  rw [sortI_len, List.length_map, List.countP_eq_length_filter]
theorem ovl_len {B T : Nat} (hB : IsBase B) (hT : Sub T B) (h2 : pop T = 2) : (ovl (B : Int) (T : Int)).length = 56 := by
  have hTl : T < 16777216 := Nat.lt_of_le_of_lt (by rw [← hT]; exact Nat.and_le_left) hB.1
  obtain ⟨r, r1, r2, r3⟩ := new_place hT hB.1 hTl (by rw [h2, hB.2]; omega)
  have hBr : B = T ||| 2 ^ r := (sub_eq (sub_of fun q hq => by
    rw [or_bit] at hq
    simp at hq
    rcases hq with hq | rfl
    · exact hT.bit q hq
    · exact r2) (or_lt T r hTl r1) hB.1 (by rw [pop_or T r r1 r3, h2, hB.2]; omega)).symm
  have h77 := thr2 T hTl h2
  have h21 := thr3 B hB.1 hB.2
  have hsum := ovl_sum hBr r2 r3
  rw [← ovl_cnt] at hsum
  generalize (ovl (B : Int) (T : Int)).length = n at *
  generalize (thr T).length = x at *
  generalize (thr B).length = y at *
  omega
theorem ovl_oval {B T m : Nat} (hB : IsBase B) (hT : Sub T B) (h2 : pop T = 2) (hm : m < 4096) (h8 : pop (cN m) = 8) (he : cN m &&& B = T) :
    cN m ^^^ T < 16777216 ∧ pop (cN m ^^^ T) = 6 ∧ (cN m ^^^ T) &&& B = 0 ∧ ∀ l, IsLine B l → pop (l &&& (cN m ^^^ T)) ≤ 2 := by
  have hTl : T < 16777216 := Nat.lt_of_le_of_lt (by rw [← hT]; exact Nat.and_le_left) hB.1
  have hTm : cN m &&& T = T := by
    have h1 : Sub T (cN m) := by rw [← he]; exact and_sub _ _
    exact h1
  have hx := pop_xor (cN m) T
  rw [hTm] at hx
  refine ⟨xor_lt24 _ _ (cN_lt m) hTl, by omega, ?_, fun l hl => ?_⟩
  · rw [Nat.and_xor_distrib_right, he, show T &&& B = T by rw [Nat.and_comm]; exact hT, Nat.xor_self]
  · obtain ⟨l1, l5, l0, n, hn, en, n8, nB⟩ := hl.facts hB
    have e1 : l &&& (cN m ^^^ T) = l &&& cN m := by
      rw [Nat.and_xor_distrib_left]
      have : l &&& T = 0 := Nat.eq_of_testBit_eq fun q => by
        rw [Nat.testBit_and, Nat.zero_testBit]
        cases hq : T.testBit q
        · simp
        · have := hT.bit q hq
          have h0 : (l &&& B).testBit q = false := by rw [l0]; simp
          rw [Nat.testBit_and, this] at h0
          rw [show l.testBit q = false by simpa using h0]; rfl
      rw [this, Nat.xor_zero]
    rw [e1]
    have hy := pop_xor (cN n) (cN m)
    rw [← cN_xor] at hy
    have hw := (code_wts (n ^^^ m) (xor_lt12 _ _ hn hm)).1
    have e2 : cN n &&& cN m = (l &&& cN m) ^^^ T := by
      rw [en, Nat.and_xor_distrib_right, show B &&& cN m = T by rw [Nat.and_comm]; exact he]
    have hz := pop_xor (l &&& cN m) T
    have e3 : (l &&& cN m) &&& T = 0 := Nat.eq_of_testBit_eq fun q => by
      rw [Nat.testBit_and, Nat.testBit_and, Nat.zero_testBit]
      cases hq : T.testBit q
      · simp
      · have := hT.bit q hq
        have h0 : (l &&& B).testBit q = false := by rw [l0]; simp
        rw [Nat.testBit_and, this] at h0
        rw [show l.testBit q = false by simpa using h0]; rfl
    rw [e3, pop_zero_, ← e2] at hz
    have hne : pop (cN (n ^^^ m)) ≠ 0 := fun e => by
      have : n ^^^ m = 0 := (code_wts (n ^^^ m) (xor_lt12 _ _ hn hm)).2 e
      have := xor_eq_zero this
      subst this
      rw [show cN n &&& B = B from nB] at he
      have hb3 := hB.2
      rw [he, h2] at hb3
      exact absurd hb3 (by omega)
    omega
end Go.Proofs.YtmeejnkpaiinaacGreatDoor
