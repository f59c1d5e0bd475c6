/- The answers of the planes; further points of a four, in both ways. No program is named here. -/
import Derived.Test.YtmeejnkpaiinaacGreatDoorM28
namespace Go.Proofs.YtmeejnkpaiinaacGreatDoor
set_option linter.unusedVariables false
attribute [local irreducible] octS cN octF syn

/-! ### The answers -/
def baseB (x : Int) : Bool := wordB x && decide (wt x = 3)
def ptB (b p : Int) : Bool := decide (0 ≤ p ∧ p ≤ 23) && decide (bitI b p = 0)
/-- The first of the lines that has some points. -/
def thruI (L : List Int) (T : Int) : Int := (L.filter (hasB T)).getD 0 0
def arcB (b w n : Int) : Bool := baseB b && (wordB w && (decide (wt w = n) && (decide (andI w b = 0) && thinB b w)))
def fourI (b w : Int) : Int :=
  let p := fun k => powI ((plI w.toNat).getD k 0)
  orI (orI (andI (thruI (lns b) (p 0 + p 1)) (thruI (lns b) (p 2 + p 3))) (andI (thruI (lns b) (p 0 + p 2)) (thruI (lns b) (p 1 + p 3)))) (andI (thruI (lns b) (p 0 + p 3)) (thruI (lns b) (p 1 + p 2)))
def plLines (b : Int) : List Int × Bool := if baseB b then (lns b, true) else ([], false)
def plLine (b p q : Int) : Int × Bool := if baseB b && (ptB b p && (ptB b q && decide (p ≠ q))) then (thruI (lns b) (powI p + powI q), true) else (0, false)
def plPoint (b x y : Int) : Int × Bool := if baseB b && (decide (x ≠ y) && ((lns b).contains x && (lns b).contains y)) then ((plI (andI x y).toNat).getD 0 0, true) else (0, false)
def plOn (b p : Int) : List Int × Bool := if baseB b && ptB b p then ((lns b).filter (hasB (powI p)), true) else ([], false)
def plOval (b w : Int) : Bool := arcB b w 6
def ovlB (b p q : Int) : Bool := baseB b && (decide (0 ≤ p ∧ p ≤ 23) && (decide (0 ≤ q ∧ q ≤ 23) && (decide (p ≠ q) && (decide (bitI b p = 1) && decide (bitI b q = 1)))))
def plOvals (b p q : Int) : List Int × Bool := if ovlB b p q then (ovl b (powI p + powI q), true) else ([], false)
def plFour (b w : Int) : Int × Bool := if arcB b w 4 then (fourI b w, true) else (0, false)
def plSub (b w : Int) : Int × Bool := if arcB b w 4 then (orI (fourI b w) w, true) else (0, false)

/-! ### Out of the tests -/
theorem baseB_nat {b : Int} (h : baseB b = true) : ∃ B : Nat, b = (B : Int) ∧ IsBase B := by
  unfold baseB at h
  rw [Bool.and_eq_true, wordB_iff, decide_eq_true_eq] at h
  obtain ⟨⟨h0, h1⟩, h3⟩ := h
  obtain ⟨B, rfl⟩ := Int.eq_ofNat_of_zero_le h0
  rw [wt_pop] at h3
  exact ⟨B, rfl, by omega, by omega⟩
theorem baseB_of {B : Nat} (h : IsBase B) : baseB (B : Int) = true := by
  unfold baseB
  rw [Bool.and_eq_true, wordB_iff, decide_eq_true_eq, wt_pop, h.2]
  have := h.1
  exact ⟨by omega, rfl⟩
theorem ptB_nat {B : Nat} {p : Int} (h : ptB (B : Int) p = true) : ∃ q : Nat, p = (q : Int) ∧ q < 24 ∧ B.testBit q = false := by
  unfold ptB at h
  rw [Bool.and_eq_true, decide_eq_true_eq, decide_eq_true_eq] at h
  obtain ⟨⟨h0, h1⟩, h3⟩ := h
  obtain ⟨q, rfl⟩ := Int.eq_ofNat_of_zero_le h0
  rw [bitI_nat] at h3
  refine ⟨q, rfl, by omega, ?_⟩
  cases e : B.testBit q
  · rfl
  · rw [e] at h3; simp at h3
theorem powI_nat (q : Nat) : powI (q : Int) = ((2 ^ q : Nat) : Int) := by unfold powI; simp
theorem pow_or (p q : Nat) (h : p ≠ q) : 2 ^ p + 2 ^ q = 2 ^ p ||| 2 ^ q := by
  have h0 : 2 ^ p &&& 2 ^ q = 0 := Nat.eq_of_testBit_eq fun r => by
    rw [Nat.testBit_and, bit_pow2, bit_pow2, Nat.zero_testBit]
    by_cases e : p = r
    · subst e; simp [Ne.symm h]
    · simp [e]
  have h1 := xor_and_add (2 ^ p) (2 ^ q)
  rw [h0] at h1
  have h2 : 2 ^ p ||| 2 ^ q = 2 ^ p ^^^ 2 ^ q := Nat.eq_of_testBit_eq fun r => by
    have := congrArg (fun x => x.testBit r) h0
    simp only [Nat.testBit_and, Nat.zero_testBit] at this
    rw [Nat.testBit_or, Nat.testBit_xor]
    cases h3 : (2 ^ p).testBit r <;> cases h4 : (2 ^ q).testBit r <;> simp_all
  omega
theorem powI_or (p q : Nat) (h : p ≠ q) : powI (p : Int) + powI (q : Int) = ((2 ^ p ||| 2 ^ q : Nat) : Int) := by
  rw [powI_nat, powI_nat, ← pow_or p q h]; simp
theorem orI_nat' (a b : Nat) : orI (a : Int) (b : Int) = ((a ||| b : Nat) : Int) := by unfold orI; simp
theorem thruI_is {B l p q : Nat} (hB : IsBase B) (hl : IsLine B l) (hpq : p ≠ q) (h1 : l.testBit p = true) (h2 : l.testBit q = true) : thruI (lns (B : Int)) (powI (p : Int) + powI (q : Int)) = (l : Int) := by
  rw [powI_or p q hpq]
  unfold thruI
  have hc : ∀ x ∈ (lns (B : Int)).filter (hasB ((2 ^ p ||| 2 ^ q : Nat) : Int)), x = (l : Int) := fun x hx => by
    obtain ⟨h3, h4⟩ := List.mem_filter.1 hx
    obtain ⟨k, hk, rfl⟩ := (lns_mem hB x).1 h3
    unfold hasB at h4
    rw [andI_sub, decide_eq_true_eq, has_bits] at h4
    rw [line_uniq hB hk hl hpq h4.1 h4.2 h1 h2]
  have hm : (l : Int) ∈ (lns (B : Int)).filter (hasB ((2 ^ p ||| 2 ^ q : Nat) : Int)) := List.mem_filter.2 ⟨(lns_mem hB _).2 ⟨l, hl, rfl⟩, by unfold hasB; rw [andI_sub, decide_eq_true_eq, has_bits]; exact ⟨h1, h2⟩⟩
  generalize (lns (B : Int)).filter (hasB ((2 ^ p ||| 2 ^ q : Nat) : Int)) = M at *
  match M with
  | [] => exact absurd hm (by simp)
  | x :: M => exact hc x (List.mem_cons_self ..)
theorem bits_four {w : Nat} {p0 p1 p2 p3 : Nat} (h : pl w = [p0, p1, p2, p3]) (hw : w < 16777216) : w = word4 p0 p1 p2 p3 := Nat.eq_of_testBit_eq fun q => by
  rw [word4_bit, Bool.eq_iff_iff]
  simp only [Bool.or_eq_true, decide_eq_true_eq]
  have hm := pl_mem w q
  rw [h] at hm
  simp only [List.mem_cons, List.not_mem_nil, or_false] at hm
  constructor
  · intro e
    have := hm.2 ⟨bit_lt24 hw e, e⟩
    omega
  · intro e
    exact (hm.1 (by omega)).2
theorem arc_of {B w : Nat} (hB : IsBase B) (hw : w < 16777216) (hwB : w &&& B = 0) (h4 : pop w = 4) (ht : ∀ l, IsLine B l → pop (l &&& w) ≤ 2) : ∃ p0 p1 p2 p3, pl w = [p0, p1, p2, p3] ∧ w = word4 p0 p1 p2 p3 ∧ Arc B p0 p1 p2 p3 := by
  have hl : (pl w).length = 4 := by rw [← pop_pl]; exact h4
  have hasc := pl_asc w
  have hmem := pl_mem w
  match hP : pl w, hl with
  | [p0, p1, p2, p3], _ =>
    rw [hP] at hasc hmem
    have hwd := bits_four hP hw
    simp only [List.pairwise_cons, List.mem_cons, List.not_mem_nil, or_false, forall_eq_or_imp, forall_eq] at hasc
    have nb : ∀ q, q ∈ [p0, p1, p2, p3] → q < 24 ∧ B.testBit q = false := fun q hq => by
      obtain ⟨h1, h2⟩ := (hmem q).1 hq
      have h0 : (w &&& B).testBit q = false := by rw [hwB]; simp
      rw [Nat.testBit_and, h2] at h0
      exact ⟨h1, by simpa using h0⟩
    have n0 := nb p0 (by simp)
    have n1 := nb p1 (by simp)
    have n2 := nb p2 (by simp)
    have n3 := nb p3 (by simp)
    have hc : ∀ l, IsLine B l → (if l.testBit p0 then 1 else 0) + (if l.testBit p1 then 1 else 0) + (if l.testBit p2 then 1 else 0) + (if l.testBit p3 then 1 else 0) ≤ 2 := fun l hl => by
      have := ht l hl
      rw [pop_and, hP, cntP4] at this
      exact this
    refine ⟨p0, p1, p2, p3, rfl, hwd, ⟨hB, ⟨n0.1, n1.1, n2.1, n3.1⟩, ⟨by omega, by omega, by omega, by omega, by omega, by omega⟩, ⟨n0.2, n1.2, n2.2, n3.2⟩, ?_, ?_, ?_, ?_⟩⟩
    all_goals
      intro l hl a b c
      have := hc l hl
      rw [a, b, c] at this
      simp at this
      try omega
/-- The further points of a four by the lines' common points. -/
theorem fourI_is {B w p0 p1 p2 p3 l01 l23 l02 l13 l03 l12 a b c : Nat} (hP : pl w = [p0, p1, p2, p3]) (h : Four B p0 p1 p2 p3 l01 l23 l02 l13 l03 l12 a b c) : fourI (B : Int) (w : Int) = ((2 ^ a ||| 2 ^ b ||| 2 ^ c : Nat) : Int) := by
  have hB := h.arc.base
  have e : plI w = [(p0 : Int), (p1 : Int), (p2 : Int), (p3 : Int)] := by unfold plI; rw [hP]; rfl
  unfold fourI
  rw [Int.toNat_natCast, e]
  show orI (orI (andI (thruI (lns (B : Int)) (powI (p0 : Int) + powI (p1 : Int))) (thruI (lns (B : Int)) (powI (p2 : Int) + powI (p3 : Int)))) (andI (thruI (lns (B : Int)) (powI (p0 : Int) + powI (p2 : Int))) (thruI (lns (B : Int)) (powI (p1 : Int) + powI (p3 : Int))))) (andI (thruI (lns (B : Int)) (powI (p0 : Int) + powI (p3 : Int))) (thruI (lns (B : Int)) (powI (p1 : Int) + powI (p2 : Int)))) = _
  rw [thruI_is hB h.i01.1 h.arc.ne.1 h.i01.2.1 h.i01.2.2, thruI_is hB h.i23.1 h.arc.ne.2.2.2.2.2 h.i23.2.1 h.i23.2.2, thruI_is hB h.i02.1 h.arc.ne.2.1 h.i02.2.1 h.i02.2.2, thruI_is hB h.i13.1 h.arc.ne.2.2.2.2.1 h.i13.2.1 h.i13.2.2, thruI_is hB h.i03.1 h.arc.ne.2.2.1 h.i03.2.1 h.i03.2.2, thruI_is hB h.i12.1 h.arc.ne.2.2.2.1 h.i12.2.1 h.i12.2.2]
  rw [andI_nat, andI_nat, andI_nat, orI_nat', orI_nat', h.a24.2.1, h.b24.2.1, h.c24.2.1]

/-! ### The further points by what two of the six lines have in common -/
def furStep (w : Nat) (s : Nat × Nat) (l : Nat) : Nat × Nat := if pop (l &&& w) = 2 then (s.1 ||| l, s.2 ||| (s.1 &&& l)) else s
def furTo (w : Nat) (L : List Int) : Nat → Nat × Nat
  | 0 => (0, 0)
  | k + 1 => furStep w (furTo w L k) (L.getD k 0).toNat
def furP (w q : Nat) (x : Int) : Bool := decide (pop (x.toNat &&& w) = 2) && x.toNat.testBit q
theorem furTo_bit (w q : Nat) (L : List Int) : ∀ k, k ≤ L.length → (furTo w L k).1.testBit q = decide (1 ≤ (L.take k).countP (furP w q)) ∧ (furTo w L k).2.testBit q = decide (2 ≤ (L.take k).countP (furP w q))
  | 0, _ => by simp [furTo]
  | k + 1, hk => by
    obtain ⟨h1, h2⟩ := furTo_bit w q L k (by omega)
    rw [tk_succ L k (by omega), countP_snoc]
    unfold furTo furStep
    generalize (L.take k).countP (furP w q) = n at *
    generalize (L.getD k 0) = x at *
    by_cases e : pop (x.toNat &&& w) = 2
    · rw [if_pos e]
      simp only [Nat.testBit_or, Nat.testBit_and, h1, h2, furP, e, decide_true, Bool.true_and]
      cases hx : x.toNat.testBit q
      · simp
      · rcases (by omega : n = 0 ∨ n = 1 ∨ 2 ≤ n) with r | r | r
        · subst r; decide
        · subst r; decide
        · simp only [Bool.and_true, if_true]
          refine ⟨?_, ?_⟩
          · rw [decide_eq_true (show 1 ≤ n by omega), decide_eq_true (show 1 ≤ n + 1 by omega)]; rfl
          · rw [decide_eq_true (show 2 ≤ n by omega), decide_eq_true (show 2 ≤ n + 1 by omega)]; rfl
    · rw [if_neg e, h1, h2]
      simp [furP, e]
theorem cnt_two {L : List Int} (hn : L.Nodup) (P : Int → Bool) : 2 ≤ L.countP P ↔ ∃ x ∈ L, ∃ y ∈ L, x ≠ y ∧ P x = true ∧ P y = true := by
  rw [List.countP_eq_length_filter]
  have hf : (L.filter P).Nodup := hn.sublist List.filter_sublist
  have hm : ∀ x, x ∈ L.filter P ↔ x ∈ L ∧ P x = true := fun x => List.mem_filter
  generalize L.filter P = M at *
  constructor
  · intro h
    match M, h with
    | x :: y :: M, _ =>
      rw [List.nodup_cons] at hf
      obtain ⟨h1, h2⟩ := (hm x).1 (by simp)
      obtain ⟨h3, h4⟩ := (hm y).1 (by simp)
      exact ⟨x, h1, y, h3, fun e => hf.1 (by rw [e]; simp), h2, h4⟩
  · rintro ⟨x, h1, y, h2, hne, hx, hy⟩
    have m1 := (hm x).2 ⟨h1, hx⟩
    have m2 := (hm y).2 ⟨h2, hy⟩
    match M, m1, m2 with
    | [z], m1, m2 =>
      simp at m1 m2
      exact absurd (m1.trans m2.symm) hne
    | _ :: _ :: M, _, _ => simp
theorem two_of_four (x0 x1 x2 x3 y0 y1 y2 y3 : Bool) (hx : (if x0 then 1 else 0) + (if x1 then 1 else 0) + (if x2 then 1 else 0) + (if x3 then 1 else 0) = 2) (hy : (if y0 then 1 else 0) + (if y1 then 1 else 0) + (if y2 then 1 else 0) + (if y3 then 1 else 0) = 2) :
    ((x0 && y0) = true ∨ (x1 && y1) = true ∨ (x2 && y2) = true ∨ (x3 && y3) = true) ∨
    (((x0 && x1 && y2 && y3) = true ∨ (y0 && y1 && x2 && x3) = true) ∨ ((x0 && x2 && y1 && y3) = true ∨ (y0 && y2 && x1 && x3) = true) ∨ ((x0 && x3 && y1 && y2) = true ∨ (y0 && y3 && x1 && x2) = true)) := by
  revert hx hy
  cases x0 <;> cases x1 <;> cases x2 <;> cases x3 <;> cases y0 <;> cases y1 <;> cases y2 <;> cases y3 <;> simp
theorem fur_is {B w p0 p1 p2 p3 l01 l23 l02 l13 l03 l12 a b c : Nat} (hP : pl w = [p0, p1, p2, p3]) (hwd : w = word4 p0 p1 p2 p3) (ht : ∀ l, IsLine B l → pop (l &&& w) ≤ 2) (h : Four B p0 p1 p2 p3 l01 l23 l02 l13 l03 l12 a b c) :
    (furTo w (lns (B : Int)) 21).2 ^^^ ((furTo w (lns (B : Int)) 21).2 &&& w) = 2 ^ a ||| 2 ^ b ||| 2 ^ c := by
  have hB := h.arc.base
  have h2 : ∀ l p q, IsLine B l → p ≠ q → p ∈ pl w → q ∈ pl w → l.testBit p = true → l.testBit q = true → pop (l &&& w) = 2 := fun l p q hl hpq hp hq e1 e2 => by
    have hle := ht l hl
    have hp24 := bit_lt24 (hl.facts hB).1 e1
    have hq24 := bit_lt24 (hl.facts hB).1 e2
    have hs : Sub (2 ^ p ||| 2 ^ q) (l &&& w) := has_bits.2 ⟨by rw [Nat.testBit_and, e1, ((pl_mem w p).1 hp).2]; rfl, by rw [Nat.testBit_and, e2, ((pl_mem w q).1 hq).2]; rfl⟩
    have := hs.le
    rw [pair_pop p q hp24 hq24 hpq] at this
    omega
  have hin : ∀ q, q = p0 ∨ q = p1 ∨ q = p2 ∨ q = p3 → q ∈ pl w := fun q hq => by rw [hP]; simpa using hq
  have key : ∀ q, w.testBit q = false → ((furTo w (lns (B : Int)) 21).2.testBit q = true ↔ (a = q ∨ b = q ∨ c = q)) := fun q hq => by
    have hb := (furTo_bit w q (lns (B : Int)) 21 (by rw [lns_len hB]; exact Nat.le_refl _)).2
    rw [List.take_of_length_le (by rw [lns_len hB]; exact Nat.le_refl _)] at hb
    rw [hb, decide_eq_true_eq, cnt_two (lns_nodup hB)]
    constructor
    · rintro ⟨x, hx, y, hy, hne, fx, fy⟩
      obtain ⟨k, hk, rfl⟩ := (lns_mem hB x).1 hx
      obtain ⟨m, hm, rfl⟩ := (lns_mem hB y).1 hy
      have hkm : k ≠ m := fun e => hne (by rw [e])
      unfold furP at fx fy
      rw [Bool.and_eq_true, decide_eq_true_eq, Int.toNat_natCast] at fx fy
      have kx := fx.1
      have ky := fy.1
      rw [pop_and, hP, cntP4] at kx ky
      have qp : ∀ p, p ∈ pl w → q ≠ p := fun p hp e => by
        have := ((pl_mem w p).1 hp).2
        rw [← e, hq] at this; cases this
      have sh : ∀ p, p ∈ pl w → ¬ (k.testBit p && m.testBit p) = true := fun p hp e => by
        rw [Bool.and_eq_true] at e
        exact hkm (line_uniq hB hk hm (qp p hp) fx.2 e.1 fy.2 e.2)
      have L : ∀ {l p r : Nat}, IsLine B l → p ≠ r → l.testBit p = true → l.testBit r = true → ∀ {u : Nat}, IsLine B u → u.testBit p = true → u.testBit r = true → u = l := fun hl hpr l1 l2 _ hu u1 u2 => line_uniq hB hu hl hpr u1 u2 l1 l2
      have A : ∀ {u v l r d : Nat}, u = l → v = r → l &&& r = 2 ^ d → u.testBit q = true → v.testBit q = true → d = q := fun e1 e2 e3 u1 v1 => by
        subst e1 e2
        have := congrArg (fun x => x.testBit q) e3
        simp only [Nat.testBit_and, u1, v1, bit_pow2] at this
        simpa using this.symm
      rcases two_of_four _ _ _ _ _ _ _ _ kx ky with r | r
      · rcases r with r | r | r | r
        · exact absurd r (sh p0 (hin _ (by simp)))
        · exact absurd r (sh p1 (hin _ (by simp)))
        · exact absurd r (sh p2 (hin _ (by simp)))
        · exact absurd r (sh p3 (hin _ (by simp)))
      · simp only [Bool.and_eq_true] at r
        rcases r with (r | r) | (r | r) | (r | r)
        · exact .inl (A (L h.i01.1 h.arc.ne.1 h.i01.2.1 h.i01.2.2 hk r.1.1.1 r.1.1.2) (L h.i23.1 h.arc.ne.2.2.2.2.2 h.i23.2.1 h.i23.2.2 hm r.1.2 r.2) h.a24.2.1 fx.2 fy.2)
        · exact .inl (A (L h.i01.1 h.arc.ne.1 h.i01.2.1 h.i01.2.2 hm r.1.1.1 r.1.1.2) (L h.i23.1 h.arc.ne.2.2.2.2.2 h.i23.2.1 h.i23.2.2 hk r.1.2 r.2) h.a24.2.1 fy.2 fx.2)
        · exact .inr (.inl (A (L h.i02.1 h.arc.ne.2.1 h.i02.2.1 h.i02.2.2 hk r.1.1.1 r.1.1.2) (L h.i13.1 h.arc.ne.2.2.2.2.1 h.i13.2.1 h.i13.2.2 hm r.1.2 r.2) h.b24.2.1 fx.2 fy.2))
        · exact .inr (.inl (A (L h.i02.1 h.arc.ne.2.1 h.i02.2.1 h.i02.2.2 hm r.1.1.1 r.1.1.2) (L h.i13.1 h.arc.ne.2.2.2.2.1 h.i13.2.1 h.i13.2.2 hk r.1.2 r.2) h.b24.2.1 fy.2 fx.2))
        · exact .inr (.inr (A (L h.i03.1 h.arc.ne.2.2.1 h.i03.2.1 h.i03.2.2 hk r.1.1.1 r.1.1.2) (L h.i12.1 h.arc.ne.2.2.2.1 h.i12.2.1 h.i12.2.2 hm r.1.2 r.2) h.c24.2.1 fx.2 fy.2))
        · exact .inr (.inr (A (L h.i03.1 h.arc.ne.2.2.1 h.i03.2.1 h.i03.2.2 hm r.1.1.1 r.1.1.2) (L h.i12.1 h.arc.ne.2.2.2.1 h.i12.2.1 h.i12.2.2 hk r.1.2 r.2) h.c24.2.1 fy.2 fx.2))
    · have mk : ∀ {l r d : Nat}, IsLine B l → IsLine B r → l ≠ r → pop (l &&& w) = 2 → pop (r &&& w) = 2 → l.testBit d = true → r.testBit d = true → d = q → ∃ x ∈ lns (B : Int), ∃ y ∈ lns (B : Int), x ≠ y ∧ furP w q x = true ∧ furP w q y = true := fun {l r d} hl hr hne c1 c2 b1 b2 e => by
        subst e
        refine ⟨l, (lns_mem hB _).2 ⟨l, hl, rfl⟩, r, (lns_mem hB _).2 ⟨r, hr, rfl⟩, fun e => hne (by omega), ?_, ?_⟩
        · unfold furP; rw [Int.toNat_natCast, c1, b1]; rfl
        · unfold furP; rw [Int.toNat_natCast, c2, b2]; rfl
      rintro (e | e | e)
      · exact mk h.i01.1 h.i23.1 (fun e => h.arc.t012 _ h.i01.1 h.i01.2.1 h.i01.2.2 (by rw [e]; exact h.i23.2.1)) (h2 _ p0 p1 h.i01.1 h.arc.ne.1 (hin _ (by simp)) (hin _ (by simp)) h.i01.2.1 h.i01.2.2) (h2 _ p2 p3 h.i23.1 h.arc.ne.2.2.2.2.2 (hin _ (by simp)) (hin _ (by simp)) h.i23.2.1 h.i23.2.2) h.a24.2.2.1 h.a24.2.2.2 e
      · exact mk h.i02.1 h.i13.1 (fun e => h.arc.t012 _ h.i02.1 h.i02.2.1 (by rw [e]; exact h.i13.2.1) h.i02.2.2) (h2 _ p0 p2 h.i02.1 h.arc.ne.2.1 (hin _ (by simp)) (hin _ (by simp)) h.i02.2.1 h.i02.2.2) (h2 _ p1 p3 h.i13.1 h.arc.ne.2.2.2.2.1 (hin _ (by simp)) (hin _ (by simp)) h.i13.2.1 h.i13.2.2) h.b24.2.2.1 h.b24.2.2.2 e
      · exact mk h.i03.1 h.i12.1 (fun e => h.arc.t013 _ h.i03.1 h.i03.2.1 (by rw [e]; exact h.i12.2.1) h.i03.2.2) (h2 _ p0 p3 h.i03.1 h.arc.ne.2.2.1 (hin _ (by simp)) (hin _ (by simp)) h.i03.2.1 h.i03.2.2) (h2 _ p1 p2 h.i12.1 h.arc.ne.2.2.2.1 (hin _ (by simp)) (hin _ (by simp)) h.i12.2.1 h.i12.2.2) h.c24.2.2.1 h.c24.2.2.2 e
  refine Nat.eq_of_testBit_eq fun q => ?_
  rw [Nat.testBit_xor, Nat.testBit_and, or_bit, or_bit, bit_pow2]
  obtain ⟨⟨na0, na1, na2, na3⟩, _⟩ := h.offs
  obtain ⟨⟨nb0, nb2, nb1, nb3⟩, _⟩ := h.rot.offs
  obtain ⟨⟨nc0, nc3, nc1, nc2⟩, _⟩ := h.rot2.rot.offs
  cases hq : w.testBit q
  · rw [Bool.and_false, Bool.xor_false, Bool.eq_iff_iff, key q hq]
    simp only [Bool.or_eq_true, decide_eq_true_eq]
    omega
  · rw [Bool.and_true, Bool.xor_self]
    rw [hwd, word4_bit] at hq
    simp only [Bool.or_eq_true, decide_eq_true_eq] at hq
    have e1 : ¬ a = q := by omega
    have e2 : ¬ b = q := by omega
    have e3 : ¬ c = q := by omega
    simp [e1, e2, e3]
end Go.Proofs.YtmeejnkpaiinaacGreatDoor
