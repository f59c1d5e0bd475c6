/- Counting octads: lists that are counted, the least octad of a dodecad. No program is named here. -/
import Derived.Test.YtiinekoepoonfabDoorM20
namespace Go.Proofs.YtiinekoepoonfabDoor
set_option linter.unusedVariables false
theorem octF_zero : octF 0 = [] := rfl
theorem octF_succ (k : Nat) : octF (k + 1) = if wt (codeOf k) = 8 then octF k ++ [codeOf k] else octF k := rfl
attribute [local irreducible] octS cN octF

def IsOct (x : Int) : Prop := ∃ m : Nat, m < 4096 ∧ codeOf m = x ∧ wt x = 8
theorem IsOct.rng {x : Int} (h : IsOct x) : 0 ≤ x ∧ x ≤ 16777215 := by
  obtain ⟨m, _, rfl, _⟩ := h
  exact codeOf_range _
theorem IsOct.w8 {x : Int} (h : IsOct x) : wt x = 8 := by obtain ⟨m, _, _, h⟩ := h; exact h
theorem oct_iff {x : Int} : x ∈ octS ↔ IsOct x := octS_is.2 x
theorem getD_at (L : List Int) (i : Nat) (h : i < L.length) : L[i] = L.getD i 0 := by simp [List.getD_eq_getElem?_getD, h]
theorem oct_at (k : Nat) (hk : k < 759) : IsOct (octS.getD k 0) := by
  rw [← oct_iff, ← getD_at octS k (by rw [octS_759]; exact hk)]
  exact List.getElem_mem _
theorem oct_lt {i j : Nat} (hij : i < j) (hj : j < 759) : octS.getD i 0 < octS.getD j 0 := asc_get octS_is.1 hij (by rw [octS_759]; exact hj)
theorem tk_succ (xs : List Int) (k : Nat) (h : k < xs.length) : xs.take (k + 1) = xs.take k ++ [xs.getD k 0] := by
  rw [List.take_succ_eq_append_getElem h]; simp [List.getElem?_eq_getElem h]
theorem oct_take (k : Nat) (hk : k < 759) : octS.take (k + 1) = octS.take k ++ [octS.getD k 0] := tk_succ octS k (by rw [octS_759]; exact hk)
theorem oct_take_all : octS.take 759 = octS := List.take_of_length_le (by rw [octS_759]; exact Nat.le_refl _)
theorem octF_perm (k : Nat) (hk : k = 4096) : (octF k).Perm octS := by
  refine (List.perm_ext_iff_of_nodup (octF_nodup k (by omega)) octS_is.1.nodup).2 fun x => ?_
  rw [octF_mem, hk]
  exact oct_iff.symm

/-! ### Those with places, and without -/
def oWith (W : Int) : List Int := octS.filter fun x => andI x W == W
def oC (a b : Int) (x : Int) : Bool := andI x a == a && andI x b == 0
theorem filter_snoc (L : List Int) (P : Int → Bool) (x : Int) : (L ++ [x]).filter P = if P x then L.filter P ++ [x] else L.filter P := by
  rw [List.filter_append]
  by_cases h : P x = true <;> simp [h]
theorem countP_snoc (L : List Int) (P : Int → Bool) (x : Int) : (L ++ [x]).countP P = L.countP P + if P x then 1 else 0 := by
  rw [List.countP_append]
  by_cases h : P x = true <;> simp [h]
theorem andI_sub (x T : Nat) : (andI (x : Int) (T : Int) == (T : Int)) = decide (x &&& T = T) := by
  unfold andI
  simp only [Int.toNat_natCast]
  by_cases h : x &&& T = T
  · simp [h]
  · have : ¬ ((x &&& T : Nat) : Int) = (T : Int) := by omega
    simp [h, this]
theorem oWith_thr (T : Nat) : oWith (T : Int) = thr T := by
  unfold oWith thr
  refine List.filter_congr fun x hx => ?_
  obtain ⟨m, _, e, e2, _⟩ := oct_nat hx
  rw [e2, e, andI_sub]
theorem oWith_len (W : Int) : (oWith W).length ≤ 759 := by
  unfold oWith
  have := List.length_filter_le (fun x => andI x W == W) octS
  rw [octS_759] at this
  exact this
theorem oWith_mem {W x : Int} : x ∈ oWith W ↔ IsOct x ∧ andI x W = W := by
  unfold oWith
  rw [List.mem_filter, oct_iff]
  simp
theorem oWith_asc (W : Int) : Asc (oWith W) := octS_is.1.sublist List.filter_sublist

/-! ### Counted by common places -/
def cnt9 (w : Int) (L : List Int) : List Int := (List.range 9).map fun (k : Nat) => ((L.countP fun x => wt (andI x w) == (k : Int) : Nat) : Int)
theorem cnt9_len (w : Int) (L : List Int) : (cnt9 w L).length = 9 := by simp [cnt9]
theorem cnt9_get (w : Int) (L : List Int) (j : Nat) (h : j < 9) : (cnt9 w L).getD j 0 = ((L.countP fun x => wt (andI x w) == (j : Int) : Nat) : Int) := by
  simp [cnt9, List.getD_eq_getElem?_getD, h]
theorem cnt9_nil (w : Int) : cnt9 w [] = [0, 0, 0, 0, 0, 0, 0, 0, 0] := rfl
theorem cnt9_snoc (w : Int) (L : List Int) (x : Int) (j : Nat) (hj : j < 9) (h : wt (andI x w) = (j : Int)) : cnt9 w (L ++ [x]) = (cnt9 w L).set j ((cnt9 w L).getD j 0 + 1) := by
  refine List.ext_getElem (by simp [cnt9_len]) fun i h1 h2 => ?_
  have hi : i < 9 := by rw [cnt9_len] at h1; exact h1
  rw [getD_at _ i h1, cnt9_get w _ i hi, countP_snoc, List.getElem_set, h]
  by_cases hij : j = i
  · subst hij
    rw [if_pos rfl, cnt9_get w L j hj]
    simp
  · have hne : ((j : Int) == (i : Int)) = false := by simp; omega
    rw [if_neg hij, getD_at _ i, cnt9_get w L i hi, hne]
    simp
theorem cnt9_perm (w : Int) {L M : List Int} (h : L.Perm M) : cnt9 w L = cnt9 w M := by
  unfold cnt9
  refine List.map_congr_left fun k _ => ?_
  rw [h.countP_eq]
theorem cnt9_rng (w : Int) (L : List Int) (j : Nat) (h : j < 9) : 0 ≤ (cnt9 w L).getD j 0 ∧ (cnt9 w L).getD j 0 ≤ L.length := by
  rw [cnt9_get w L j h]
  have := List.countP_le_length (p := fun x => wt (andI x w) == (j : Int)) (l := L)
  omega
theorem wt_and_le (a b : Int) (ha : 0 ≤ a) (hb : 0 ≤ b) : wt (andI a b) ≤ wt a ∧ wt (andI a b) ≤ wt b := by
  obtain ⟨A, rfl⟩ := Int.eq_ofNat_of_zero_le ha
  obtain ⟨B, rfl⟩ := Int.eq_ofNat_of_zero_le hb
  have h1 := (and_sub A B).le
  have h2 := (and_sub' A B).le
  have e : andI (A : Int) (B : Int) = ((A &&& B : Nat) : Int) := by unfold andI; simp
  rw [e, wt_pop, wt_pop, wt_pop]
  omega

/-! ### Dodecads -/
def dodB (w : Int) (x : Int) : Bool := wt (xorI w x) == 8
theorem xorI_nat (a b : Nat) : xorI (a : Int) (b : Int) = ((a ^^^ b : Nat) : Int) := by unfold xorI; simp
theorem andI_nat (a b : Nat) : andI (a : Int) (b : Int) = ((a &&& b : Nat) : Int) := by unfold andI; simp
theorem dod_oct {w x : Int} (h0 : 0 ≤ w) (h1 : w ≤ 16777215) (hc : codeInB w = true) (hx : IsOct x) (h : dodB w x = true) : IsOct (xorI w x) := by
  obtain ⟨m, hm, rfl⟩ := (codeIn_iff w h0 h1).1 hc
  obtain ⟨n, hn, rfl, _⟩ := hx
  refine ⟨m ^^^ n, xor_lt12 m n hm hn, codeOf_xor m n hm hn, ?_⟩
  simpa [dodB] using h
theorem dod_ex (w : Int) (h0 : 0 ≤ w) (h1 : w ≤ 16777215) (hc : codeInB w = true) (h12 : wt w = 12) : ∃ x, IsOct x ∧ dodB w x = true := by
  obtain ⟨m, hm, hw⟩ := (codeIn_iff w h0 h1).1 hc
  rw [codeOf_cN m hm] at hw
  have hp : pop (cN m) = 12 := by rw [← hw, wt_pop] at h12; omega
  obtain ⟨F, hF, hS, h5⟩ := part_of (cN m) (cN_lt m) 5 (by omega)
  obtain ⟨x, hx⟩ := thr_ex F hF h5
  obtain ⟨hx1, hx2⟩ := thr_mem.1 hx
  obtain ⟨n, hn, ex, ex2, px⟩ := oct_nat hx1
  rw [ex2] at hx2
  have hin : Sub F (cN m &&& cN n) := sub_of fun p hp => by rw [Nat.testBit_and, hS.bit p hp, hx2.bit p hp]; rfl
  have h3 := hin.le
  have h4 := pop_xor (cN m) (cN n)
  rw [← cN_xor] at h4
  have h6 := code_wts (m ^^^ n) (xor_lt12 m n hm hn)
  have h7 : pop (cN (m ^^^ n)) = 8 := by
    rcases h6.1 with h | h | h | h | h
    · have e := xor_eq_zero (h6.2 h)
      rw [e] at hp
      omega
    all_goals omega
  refine ⟨x, oct_iff.1 hx1, ?_⟩
  unfold dodB
  rw [← hw, ex, xorI_nat, ← cN_xor, wt_pop, h7]
  rfl
def leastD (w : Int) : Int := (octS.filter (dodB w)).getD 0 0
theorem leastD_is (w : Int) (h0 : 0 ≤ w) (h1 : w ≤ 16777215) (hc : codeInB w = true) (h12 : wt w = 12) :
    IsOct (leastD w) ∧ dodB w (leastD w) = true ∧ ∀ x, IsOct x → dodB w x = true → leastD w ≤ x := by
  obtain ⟨y, y1, y2⟩ := dod_ex w h0 h1 hc h12
  have hy : y ∈ octS.filter (dodB w) := List.mem_filter.2 ⟨oct_iff.2 y1, y2⟩
  have hasc : Asc (octS.filter (dodB w)) := octS_is.1.sublist List.filter_sublist
  have hmem : ∀ x, x ∈ octS.filter (dodB w) ↔ IsOct x ∧ dodB w x = true := fun x => by rw [List.mem_filter, oct_iff]
  unfold leastD
  generalize octS.filter (dodB w) = D at *
  match D, hy, hasc, hmem with
  | d :: r, _, hasc, hmem =>
    have hd := (hmem d).1 (List.mem_cons_self ..)
    refine ⟨hd.1, hd.2, fun x a b => ?_⟩
    have hx := (hmem x).2 ⟨a, b⟩
    rcases List.mem_cons.1 hx with e | hx
    · rw [e]; exact Int.le_refl _
    · exact Int.le_of_lt ((List.pairwise_cons.1 hasc).1 x hx)
theorem xorI_backL (w x : Int) (hw : 0 ≤ w) (hx : 0 ≤ x) : xorI w (xorI w x) = x := by
  obtain ⟨A, rfl⟩ := Int.eq_ofNat_of_zero_le hw
  obtain ⟨B, rfl⟩ := Int.eq_ofNat_of_zero_le hx
  rw [xorI_nat, xorI_nat, ← Nat.xor_assoc, Nat.xor_self, Nat.zero_xor]
theorem leastD_lt (w : Int) (h0 : 0 ≤ w) (h1 : w ≤ 16777215) (hc : codeInB w = true) (h12 : wt w = 12) : leastD w < xorI w (leastD w) ∧ IsOct (xorI w (leastD w)) := by
  obtain ⟨a, b, c⟩ := leastD_is w h0 h1 hc h12
  have ho := dod_oct h0 h1 hc a b
  have hb := xorI_backL w (leastD w) h0 a.rng.1
  have hle := c _ ho (by unfold dodB; rw [hb]; simp [a.w8])
  refine ⟨?_, ho⟩
  have hne : leastD w ≠ xorI w (leastD w) := by
    intro e
    rw [← e] at hb
    rw [← e] at hb
    have : w = 0 := by
      have hd := a.rng.1
      generalize leastD w = d at *
      obtain ⟨A, hA⟩ := Int.eq_ofNat_of_zero_le h0
      obtain ⟨B, hB⟩ := Int.eq_ofNat_of_zero_le hd
      rw [hA, hB, xorI_nat] at e
      have e2 : B = A ^^^ B := by omega
      have e3 : (A ^^^ B) ^^^ B = 0 := by rw [← e2, Nat.xor_self]
      rw [xor_back] at e3
      omega
    rw [this] at h12
    exact absurd h12 (by decide)
  omega
theorem leastD_at (w : Int) (h0 : 0 ≤ w) (h1 : w ≤ 16777215) (hc : codeInB w = true) (h12 : wt w = 12) : ∃ k, k < 759 ∧ octS.getD k 0 = leastD w ∧ ∀ j, j < k → dodB w (octS.getD j 0) = false := by
  obtain ⟨a, b, c⟩ := leastD_is w h0 h1 hc h12
  obtain ⟨k, hk, e⟩ := List.mem_iff_getElem.1 (oct_iff.2 a)
  rw [octS_759] at hk
  have e2 : octS.getD k 0 = leastD w := by rw [← getD_at octS k (by rw [octS_759]; exact hk)]; exact e
  refine ⟨k, hk, e2, fun j hj => ?_⟩
  cases hd : dodB w (octS.getD j 0)
  · rfl
  · have h2 := c _ (oct_at j (by omega)) hd
    have h3 := oct_lt hj hk
    omega
end Go.Proofs.YtiinekoepoonfabDoor
