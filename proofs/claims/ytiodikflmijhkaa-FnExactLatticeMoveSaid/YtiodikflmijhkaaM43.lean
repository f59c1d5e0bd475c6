/- The lattice: the answers of chapter 9 as plain functions of lists, and what the laws ask of them. No program is named here. -/
import Derived.Test.YtiodikflmijhkaaM42
import Derived.Test.YtiodikflmijhkaaP2
namespace Go.Proofs.Ytiodikflmijhkaa
set_option linter.unusedVariables false
attribute [local irreducible] cN syn

def atL (xs : List Int) (p : Nat) : Int := xs.getD p 0
def vL (f : Nat → Int) : List Int := (List.range 24).map f
theorem vL_len (f : Nat → Int) : (vL f).length = 24 := by simp [vL]
theorem vL_get (f : Nat → Int) (p : Nat) (h : p < 24) : (vL f).getD p 0 = f p := by simp [vL, h]
theorem atL_vL (f : Nat → Int) (p : Nat) (h : p < 24) : atL (vL f) p = f p := vL_get f p h
theorem vL_ext (f g : Nat → Int) (h : ∀ p, p < 24 → f p = g p) : vL f = vL g := List.map_congr_left fun p hp => h p (List.mem_range.1 hp)
theorem listI_ext {a b : List Int} (ha : a.length = 24) (hb : b.length = 24) (h : ∀ p, p < 24 → a.getD p 0 = b.getD p 0) : a = b := by
  refine List.ext_getElem (by omega) fun i h1 h2 => ?_
  have := h i (by omega)
  simpa [h1, h2] using this
theorem vL_atL (xs : List Int) (h : xs.length = 24) : vL (atL xs) = xs := listI_ext (vL_len _) h fun p hp => vL_get _ p hp
def okN (x : Int) : Bool := decide (-100000 ≤ x ∧ x ≤ 100000)
def vecB (xs : List Int) : Bool := decide (xs.length = 24) && xs.all okN
theorem vecB_len {xs : List Int} (h : vecB xs = true) : xs.length = 24 := by
  simp only [vecB, Bool.and_eq_true, decide_eq_true_eq] at h
  exact h.1
theorem vecB_rng {xs : List Int} (h : vecB xs = true) (p : Nat) : -100000 ≤ atL xs p ∧ atL xs p ≤ 100000 := by
  simp only [vecB, Bool.and_eq_true, decide_eq_true_eq, List.all_eq_true] at h
  by_cases hp : p < xs.length
  · have := h.2 xs[p] (List.getElem_mem hp)
    simp only [okN, decide_eq_true_eq] at this
    have e : atL xs p = xs[p] := by simp [atL, hp]
    rw [e]; exact this
  · have e : atL xs p = 0 := by simp [atL, List.getD, List.getElem?_eq_none (show xs.length ≤ p by omega)]
    omega
theorem vecB_of {xs : List Int} (h : xs.length = 24) (hr : ∀ p, p < 24 → -100000 ≤ atL xs p ∧ atL xs p ≤ 100000) : vecB xs = true := by
  simp only [vecB, Bool.and_eq_true, decide_eq_true_eq, List.all_eq_true]
  refine ⟨h, fun x hx => ?_⟩
  obtain ⟨p, hp, rfl⟩ := List.getElem_of_mem hx
  have := hr p (by omega)
  have e : atL xs p = xs[p] := by simp [atL, hp]
  rw [e] at this
  simpa [okN] using this
def latB (xs : List Int) : Bool := vecB xs && inF (atL xs)
theorem latB_vec {xs : List Int} (h : latB xs = true) : vecB xs = true := by simp only [latB, Bool.and_eq_true] at h; exact h.1
theorem latB_in {xs : List Int} (h : latB xs = true) : LatF (atL xs) := by simp only [latB, Bool.and_eq_true] at h; exact (inF_iff _).1 h.2
theorem latB_of {f : Nat → Int} (hf : LatF f) (hr : ∀ p, p < 24 → -100000 ≤ f p ∧ f p ≤ 100000) : latB (vL f) = true := by
  simp only [latB, Bool.and_eq_true]
  refine ⟨vecB_of (vL_len f) fun p hp => ?_, (inF_iff _).2 (hf.congr fun p hp => atL_vL f p hp)⟩
  rw [atL_vL f p hp]; exact hr p hp
def addL (xs ys : List Int) : List Int := vL fun p => atL xs p + atL ys p
def innL (xs ys : List Int) : Int := sumZ 24 fun p => atL xs p * atL ys p
def flipL (xs : List Int) (w : Nat) : List Int := vL (flipF w (atL xs))
/-- The signs of an octad: the last one makes the minus signs even. -/
def sgnN (s : Nat) : Nat := s + pop s % 2 * 128
def octV (w s p : Nat) : Int := if w.testBit p then (if (sgnN s).testBit (popN p w) then -2 else 2) else 0
def threeV (q p : Nat) : Int := if p = q then -3 else 1
def fourS (b : Bool) : Int := if b then -4 else 4
def fourV (a b : Nat) (f g : Bool) (p : Nat) : Int := if p = b then fourS g else if p = a then fourS f else 0
def shapeL (xs : List Int) : List Int := (vL fun p => max (atL xs p) (-atL xs p)).mergeSort fun x y => decide (x ≤ y)
def lvAdd (xs ys : List Int) : List Int × Bool := if latB xs && latB ys && vecB (addL xs ys) then (addL xs ys, true) else ([], false)
def lvInner (xs ys : List Int) : Int × Bool := if vecB xs && vecB ys then (innL xs ys, true) else (0, false)
def lvFlip (xs : List Int) (w : Int) : List Int × Bool := if vecB xs && wordB w then (flipL xs w.toNat, true) else ([], false)
def lvOct (w s : Int) : List Int × Bool := if (cIn w && decide (wt w = 8)) && decide (0 ≤ s ∧ s ≤ 127) then (vL (octV w.toNat s.toNat), true) else ([], false)
def lvThree (w q : Int) : List Int × Bool := if cIn w && decide (0 ≤ q ∧ q ≤ 23) then (vL (flipF w.toNat (threeV q.toNat)), true) else ([], false)
def lvFour (a b : Int) (f g : Bool) : List Int × Bool := if decide (0 ≤ a ∧ a ≤ 23) && decide (0 ≤ b ∧ b ≤ 23) && decide (a ≠ b) then (vL (fourV a.toNat b.toNat f g), true) else ([], false)
def lvShape (xs : List Int) : List Int × Bool := if vecB xs then (shapeL xs, true) else ([], false)

/-! ### What the laws ask -/
theorem addL_comm (xs ys : List Int) : addL xs ys = addL ys xs := vL_ext _ _ fun p _ => Int.add_comm _ _
theorem innL_comm (xs ys : List Int) : innL xs ys = innL ys xs := sumZ_ext 24 _ _ fun p _ => Int.mul_comm _ _
theorem abs_mul (x y A B : Int) (hA : 0 ≤ A) (hx : -A ≤ x ∧ x ≤ A) (hy : -B ≤ y ∧ y ≤ B) : -(A * B) ≤ x * y ∧ x * y ≤ A * B := by
  have a1 := Int.mul_nonneg (show 0 ≤ A - x by omega) (show 0 ≤ B - y by omega)
  have a2 := Int.mul_nonneg (show 0 ≤ A + x by omega) (show 0 ≤ B + y by omega)
  have a3 := Int.mul_nonneg (show 0 ≤ A - x by omega) (show 0 ≤ B + y by omega)
  have a4 := Int.mul_nonneg (show 0 ≤ A + x by omega) (show 0 ≤ B - y by omega)
  have e1 : (A - x) * (B - y) = A * B - A * y - x * B + x * y := by grobner
  have e2 : (A + x) * (B + y) = A * B + A * y + x * B + x * y := by grobner
  have e3 : (A - x) * (B + y) = A * B + A * y - x * B - x * y := by grobner
  have e4 : (A + x) * (B - y) = A * B - A * y + x * B - x * y := by grobner
  omega
theorem prod_rng {x y : Int} (hx : -100000 ≤ x ∧ x ≤ 100000) (hy : -100000 ≤ y ∧ y ≤ 100000) : -10000000000 ≤ x * y ∧ x * y ≤ 10000000000 := abs_mul x y 100000 100000 (by omega) hx hy
theorem inn_rng {xs ys : List Int} (hx : vecB xs = true) (hy : vecB ys = true) : ∀ k : Nat, k ≤ 24 → -(10000000000 * (k : Int)) ≤ sumZ k (fun p => atL xs p * atL ys p) ∧ sumZ k (fun p => atL xs p * atL ys p) ≤ 10000000000 * (k : Int)
  | 0, _ => by simp [sumZ]
  | k + 1, h => by
    have := inn_rng hx hy k (by omega)
    have := prod_rng (vecB_rng hx k) (vecB_rng hy k)
    simp only [sumZ]
    push_cast
    omega
theorem innL_rng {xs ys : List Int} (hx : vecB xs = true) (hy : vecB ys = true) : -240000000000 ≤ innL xs ys ∧ innL xs ys ≤ 240000000000 := by
  have := inn_rng hx hy 24 (by omega)
  unfold innL
  omega
theorem inn_self (xs : List Int) : 0 ≤ innL xs xs := sumZ_nonneg 24 _ fun p _ => sq_nonneg _
def zeroTo (xs : List Int) : Nat → Bool
  | 0 => true
  | k + 1 => zeroTo xs k && decide (atL xs k = 0)
theorem zeroTo_iff (xs : List Int) : ∀ k, zeroTo xs k = true ↔ ∀ p, p < k → atL xs p = 0
  | 0 => by simp [zeroTo]
  | k + 1 => by
    rw [zeroTo, Bool.and_eq_true, decide_eq_true_eq, zeroTo_iff xs k]
    constructor
    · rintro ⟨h1, h2⟩ p hp
      by_cases e : p = k
      · rw [e]; exact h2
      · exact h1 p (by omega)
    · exact fun h => ⟨fun p hp => h p (by omega), h k (by omega)⟩
theorem inn_zero (xs : List Int) : (innL xs xs == 0) = zeroTo xs 24 := by
  rw [Bool.eq_iff_iff, beq_iff_eq, zeroTo_iff]
  constructor
  · intro h p hp
    have := sumZ_at 24 (fun p => atL xs p * atL xs p) (fun q _ => sq_nonneg _) p hp
    have h2 : atL xs p * atL xs p ≤ 0 := by unfold innL at h; rw [h] at this; exact this
    have h3 := sq_nonneg (atL xs p)
    have h4 : atL xs p * atL xs p = 0 := by omega
    rcases Int.mul_eq_zero.1 h4 with h | h <;> exact h
  · intro h
    unfold innL
    rw [sumZ_ext 24 _ (fun _ => 0) (fun p hp => by rw [h p hp]; rfl), sumZ_const]
    rfl
theorem lat_sq {xs : List Int} (h : latB xs = true) : innL xs xs % 16 = 0 ∧ innL xs xs ≠ 16 := (latB_in h).square
theorem flip_vec {xs : List Int} (w : Nat) (h : vecB xs = true) : vecB (flipL xs w) = true := vecB_of (vL_len _) fun p hp => by
  have := vecB_rng h p
  unfold flipL
  rw [atL_vL _ p hp]
  unfold flipF
  split <;> omega
theorem flip_lat {xs : List Int} {w : Nat} (hw : codeN w) (h : vecB xs = true) : latB (flipL xs w) = latB xs := by
  simp only [latB, flip_vec w h, h, Bool.true_and]
  rw [show inF (atL (flipL xs w)) = inF (flipF w (atL xs)) from inF_congr fun p hp => atL_vL _ p hp, inF_flip _ hw]
theorem flip_all {xs : List Int} (h : latB xs = true) : latB (flipL xs 16777215) = true := (flip_lat codeN_all (latB_vec h)).trans h
theorem flip_twice {xs : List Int} (w : Nat) (h : xs.length = 24) : flipL (flipL xs w) w = xs := by
  rw [← vL_atL xs h]
  refine vL_ext _ _ fun p hp => ?_
  show flipF w (atL (vL (flipF w (atL (vL (atL xs)))))) p = atL xs p
  rw [vL_atL xs h]
  unfold flipF
  rw [atL_vL _ p hp]
  exact flipF_twice w (atL xs) p
theorem flip_sq (xs : List Int) (w : Nat) : innL (flipL xs w) (flipL xs w) = innL xs xs := sumZ_ext 24 _ _ fun p hp => by
  unfold flipL
  rw [atL_vL _ p hp]
  exact flipF_sq w (atL xs) p
theorem add_lat {xs ys : List Int} (hx : latB xs = true) (hy : latB ys = true) (h : vecB (addL xs ys) = true) : latB (addL xs ys) = true := by
  simp only [latB, Bool.and_eq_true]
  exact ⟨h, (inF_iff _).2 (((latB_in hx).add (latB_in hy)).congr fun p hp => atL_vL _ p hp)⟩
theorem add_sq (xs ys : List Int) : innL (addL xs ys) (addL xs ys) = innL xs xs + innL ys ys + 2 * innL xs ys := by
  unfold innL
  rw [← sumZ_mul, ← sumZ_add, ← sumZ_add]
  exact sumZ_ext 24 _ _ fun p hp => by
    unfold addL
    rw [atL_vL _ p hp]
    grobner
theorem inn_lat {xs ys : List Int} (hx : latB xs = true) (hy : latB ys = true) : innL xs ys % 8 = 0 := (latB_in hx).inner (latB_in hy)
theorem inn_cauchy (xs ys : List Int) : innL xs ys * innL xs ys ≤ innL xs xs * innL ys ys := cauchy 24 (atL xs) (atL ys)
theorem inn_small {xs ys : List Int} (hx : innL xs xs ≤ 24000000) (hy : innL ys ys ≤ 24000000) : 0 ≤ innL xs xs * innL ys ys ∧ innL xs xs * innL ys ys ≤ 576000000000000 ∧ 0 ≤ innL xs ys * innL xs ys := by
  have h1 := inn_self xs
  have h2 := inn_self ys
  have := abs_mul (innL xs xs) (innL ys ys) 24000000 24000000 (by omega) (by omega) (by omega)
  exact ⟨Int.mul_nonneg h1 h2, by omega, sq_nonneg _⟩

/-! ### Octads, threes, fours -/
theorem reindex (w : Nat) (g : Nat → Int) (n : Nat) : sumZ n (fun p => bZ w p * g (popN p w)) = sumZ (popN n w) g := by
  induction n with
  | zero => rfl
  | succ n ih =>
    simp only [sumZ]
    rw [ih, popN_top]
    unfold bZ bN
    cases w.testBit n <;> simp [sumZ]
theorem sgn_even : ∀ s : Fin 128, (sumZ 8 (bZ (sgnN s.val))) % 2 = 0 := by decide +kernel
theorem octV_is (w s p : Nat) : octV w s p = 2 * bZ w p - 4 * (bZ w p * bZ (sgnN s) (popN p w)) := by
  unfold octV
  cases h : w.testBit p
  · rw [bZ_no h]; simp
  · rw [bZ_yes h]
    cases h2 : (sgnN s).testBit (popN p w)
    · rw [bZ_no h2]; simp
    · rw [bZ_yes h2]; simp
theorem oct_rng (w s p : Nat) : -2 ≤ octV w s p ∧ octV w s p ≤ 2 := by
  unfold octV
  split
  · split <;> omega
  · omega
theorem oct_lat {w s : Nat} (hw : codeN w) (h8 : pop w = 8) (hs : s < 128) : latB (vL (octV w s)) = true := by
  refine latB_of ?_ fun p _ => by have := oct_rng w s p; omega
  have h := LatF.octad (w := w) (e := fun p => bZ (sgnN s) (popN p w)) hw (by
    rw [reindex w (bZ (sgnN s)) 24, show popN 24 w = 8 from h8]
    exact sgn_even ⟨s, hs⟩)
  exact h.congr fun p _ => octV_is w s p
theorem oct_sq {w s : Nat} (h8 : pop w = 8) : innL (vL (octV w s)) (vL (octV w s)) = 32 := by
  have e : innL (vL (octV w s)) (vL (octV w s)) = sumZ 24 (fun p => 4 * bZ w p) := sumZ_ext 24 _ _ fun p hp => by
    rw [atL_vL _ p hp]
    unfold octV
    cases h : w.testBit p
    · rw [bZ_no h]; rfl
    · rw [bZ_yes h]
      cases (sgnN s).testBit (popN p w) <;> rfl
  rw [e, sumZ_mul, bZ_sum, h8]
  rfl
/-- The places that are not 0. -/
def nzTo (xs : List Int) : Nat → Nat
  | 0 => 0
  | k + 1 => nzTo xs k + if atL xs k = 0 then 0 else 2 ^ k
theorem mod_succ_bit (w k : Nat) : w % 2 ^ (k + 1) = w % 2 ^ k + if w.testBit k then 2 ^ k else 0 := by
  rw [Nat.mod_pow_succ, Nat.testBit_eq_decide_div_mod_eq]
  have : w / 2 ^ k % 2 = 0 ∨ w / 2 ^ k % 2 = 1 := by omega
  rcases this with h | h <;> simp [h]
theorem octV_places (w s : Nat) : ∀ k, k ≤ 24 → nzTo (vL (octV w s)) k = w % 2 ^ k
  | 0, _ => by simp [nzTo, Nat.mod_one]
  | k + 1, h => by
    rw [nzTo, octV_places w s k (by omega), mod_succ_bit, atL_vL _ k (by omega)]
    congr 1
    unfold octV
    cases hb : w.testBit k
    · simp
    · cases (sgnN s).testBit (popN k w) <;> simp
theorem nzTo_lt (xs : List Int) : ∀ k, nzTo xs k < 2 ^ k
  | 0 => by simp [nzTo]
  | k + 1 => by
    have := nzTo_lt xs k
    rw [nzTo, Nat.pow_succ]
    split <;> omega
theorem three_rng (f q p : Nat) : -3 ≤ flipF f (threeV q) p ∧ flipF f (threeV q) p ≤ 3 := by
  unfold flipF threeV
  split <;> split <;> omega
theorem three_lat {f q : Nat} (hf : codeN f) (hq : q < 24) : latB (vL (flipF f (threeV q))) = true :=
  latB_of (((LatF.three hq).congr fun p _ => rfl).flip hf) fun p _ => by have := three_rng f q p; omega
theorem three_sq {f q : Nat} (hq : q < 24) : innL (vL (flipF f (threeV q))) (vL (flipF f (threeV q))) = 32 := by
  have e : innL (vL (flipF f (threeV q))) (vL (flipF f (threeV q))) = sumZ 24 (fun p => 1 + if p = q then 8 else 0) := sumZ_ext 24 _ _ fun p hp => by
    rw [atL_vL _ p hp, flipF_sq]
    unfold threeV
    split <;> rfl
  rw [e, sumZ_add, sumZ_one 24 q 8 hq, sumZ_const]
  rfl
theorem four_rng (a b : Nat) (f g : Bool) (p : Nat) : -4 ≤ fourV a b f g p ∧ fourV a b f g p ≤ 4 := by
  unfold fourV fourS
  cases f <;> cases g <;> simp <;> (repeat' split) <;> omega
theorem fourS_or (b : Bool) : fourS b = 4 ∨ fourS b = -4 := by cases b <;> simp [fourS]
theorem four_lat {a b : Nat} (f g : Bool) (ha : a < 24) (hb : b < 24) (hab : a ≠ b) : latB (vL (fourV a b f g)) = true :=
  latB_of ((LatF.four ha hb hab (fourS f) (fourS g) (fourS_or f) (fourS_or g)).congr fun p _ => rfl) fun p _ => by have := four_rng a b f g p; omega
theorem four_sq {a b : Nat} (f g : Bool) (ha : a < 24) (hb : b < 24) (hab : a ≠ b) : innL (vL (fourV a b f g)) (vL (fourV a b f g)) = 32 := by
  have e : innL (vL (fourV a b f g)) (vL (fourV a b f g)) = sumZ 24 (fun p => (if p = b then 16 else 0) + if p = a then 16 else 0) := sumZ_ext 24 _ _ fun p hp => by
    rw [atL_vL _ p hp]
    unfold fourV
    by_cases h1 : p = b
    · have : p ≠ a := by omega
      simp only [if_pos h1, if_neg this]
      rcases fourS_or g with h | h <;> rw [h] <;> rfl
    · by_cases h2 : p = a
      · simp only [if_neg h1, if_pos h2]
        rcases fourS_or f with h | h <;> rw [h] <;> rfl
      · simp only [if_neg h1, if_neg h2]
        rfl
  rw [e, sumZ_add, sumZ_one 24 b 16 hb, sumZ_one 24 a 16 ha]
  rfl
theorem four_zero (a b : Nat) (f g : Bool) : addL (vL (fourV a b f g)) (vL (fourV a b (!f) (!g))) = vL fun _ => 0 := vL_ext _ _ fun p hp => by
  rw [atL_vL _ p hp, atL_vL _ p hp]
  unfold fourV fourS
  by_cases h1 : p = b
  · simp only [if_pos h1]; cases g <;> rfl
  · by_cases h2 : p = a
    · simp only [if_neg h1, if_pos h2]; cases f <;> rfl
    · simp only [if_neg h1, if_neg h2]; rfl
theorem zero_vec : vecB (vL fun _ => 0) = true := by decide
theorem zero_sq : innL (vL fun _ => 0) (vL fun _ => 0) = 0 := by decide +kernel

/-! ### Shapes -/
theorem shape_len (xs : List Int) : (shapeL xs).length = 24 := by unfold shapeL; rw [List.length_mergeSort, vL_len]
theorem sum_list (L : List Int) (g : Int → Int) : ∀ n, n = L.length → sumZ n (fun p => g (L.getD p 0)) = (L.map g).foldr (· + ·) 0 := by
  have key : ∀ (R : List Int), sumZ R.length (fun p => g (R.reverse.getD p 0)) = (R.reverse.map g).foldr (· + ·) 0 := by
    intro R
    induction R with
    | nil => rfl
    | cons x R ih =>
      rw [List.length_cons]
      simp only [sumZ]
      have e1 : sumZ R.length (fun p => g ((x :: R).reverse.getD p 0)) = sumZ R.length (fun p => g (R.reverse.getD p 0)) := sumZ_ext _ _ _ fun p hp => by
        rw [List.reverse_cons]
        congr 1
        show (R.reverse ++ [x])[p]?.getD 0 = R.reverse[p]?.getD 0
        rw [List.getElem?_append_left (by simpa using hp)]
      have e2 : (x :: R).reverse.getD R.length 0 = x := by
        rw [List.reverse_cons]
        show (R.reverse ++ [x])[R.length]?.getD 0 = x
        rw [List.getElem?_append_right (by simp)]
        simp
      have e3 : ∀ (A : List Int) (z : Int), A.foldr (· + ·) z = A.foldr (· + ·) 0 + z := by
        intro A z
        induction A with
        | nil => simp
        | cons a A ih => simp only [List.foldr_cons]; omega
      rw [e1, e2, ih, List.reverse_cons, List.map_append, List.foldr_append, List.map_singleton, e3 _ ([g x].foldr _ 0)]
      simp
  intro n hn
  have := key L.reverse
  rw [List.reverse_reverse, List.length_reverse] at this
  rw [hn]; exact this
theorem perm_sum {A B : List Int} (h : A.Perm B) : A.foldr (· + ·) 0 = B.foldr (· + ·) 0 := by
  induction h with
  | nil => rfl
  | cons x _ ih => simp only [List.foldr_cons]; omega
  | swap x y l => simp only [List.foldr_cons]; omega
  | trans _ _ h1 h2 => exact h1.trans h2
theorem shape_perm (xs : List Int) : (shapeL xs).Perm (vL fun p => max (atL xs p) (-atL xs p)) := List.mergeSort_perm _ _
theorem shape_sq (xs : List Int) : sumZ 24 (fun p => atL (shapeL xs) p * atL (shapeL xs) p) = innL xs xs := by
  have h1 := sum_list (shapeL xs) (fun x => x * x) 24 (shape_len xs).symm
  have h2 := sum_list (vL fun p => max (atL xs p) (-atL xs p)) (fun x => x * x) 24 (vL_len _).symm
  have h3 := perm_sum ((shape_perm xs).map fun x => x * x)
  rw [← h1, ← h2] at h3
  refine Eq.trans h3 (sumZ_ext 24 _ _ fun p hp => ?_)
  show (vL fun p => max (atL xs p) (-atL xs p)).getD p 0 * (vL fun p => max (atL xs p) (-atL xs p)).getD p 0 = _
  rw [vL_get _ p hp]
  rcases Int.le_total (atL xs p) (-atL xs p) with h | h
  · rw [Int.max_eq_right h]; exact Int.neg_mul_neg _ _
  · rw [Int.max_eq_left h]
theorem shape_mem (xs : List Int) (p : Nat) (hp : p < 24) : ∃ q, q < 24 ∧ atL (shapeL xs) p = max (atL xs q) (-atL xs q) := by
  have hl := shape_len xs
  have hm : (shapeL xs)[p]'(by omega) ∈ (vL fun p => max (atL xs p) (-atL xs p)) := (shape_perm xs).mem_iff.1 (List.getElem_mem _)
  obtain ⟨q, hq, e⟩ := List.mem_map.1 hm
  refine ⟨q, List.mem_range.1 hq, ?_⟩
  have : atL (shapeL xs) p = (shapeL xs)[p]'(by omega) := by simp [atL, show p < (shapeL xs).length by omega]
  rw [this, e]
theorem shape_rng {xs : List Int} (h : vecB xs = true) (p : Nat) (hp : p < 24) : 0 ≤ atL (shapeL xs) p ∧ atL (shapeL xs) p ≤ 100000 := by
  obtain ⟨q, hq, e⟩ := shape_mem xs p hp
  have := vecB_rng h q
  rw [e]
  omega
theorem shape_asc (xs : List Int) (p : Nat) (hp : p + 1 < 24) : atL (shapeL xs) p ≤ atL (shapeL xs) (p + 1) := by
  have hs : (shapeL xs).Pairwise (fun x y => decide (x ≤ y) = true) := List.pairwise_mergeSort (fun a b c => by simp only [decide_eq_true_eq]; omega) (fun a b => by simp only [Bool.or_eq_true, decide_eq_true_eq]; omega) _
  have hl := shape_len xs
  have := List.pairwise_iff_getElem.1 hs p (p + 1) (by omega) (by omega) (by omega)
  simp only [decide_eq_true_eq] at this
  have e1 : atL (shapeL xs) p = (shapeL xs)[p]'(by omega) := by simp [atL, show p < (shapeL xs).length by omega]
  have e2 : atL (shapeL xs) (p + 1) = (shapeL xs)[p + 1]'(by omega) := by simp [atL, show p + 1 < (shapeL xs).length by omega]
  rw [e1, e2]; exact this
end Go.Proofs.Ytiodikflmijhkaa
