/- Nearest words as the program and the model gather them; sorting; counting weights; the answers of chapter 3 as functions. No program is named here. -/
import Derived.Test.YtiinekoepoonfabDoorM15
namespace Go.Proofs.YtiinekoepoonfabDoor
set_option linter.unusedVariables false

/-! ### Gathering -/
theorem snocInd {α : Type} {P : List α → Prop} (nil : P []) (append_singleton : ∀ (ms : List α) (m : α), P ms → P (ms ++ [m])) (ms : List α) : P ms := by
  rw [← List.reverse_reverse ms]
  induction ms.reverse with
  | nil => exact nil
  | cons a l ih => rw [List.reverse_cons]; exact append_singleton _ _ ih
/-- One word more: the least distance so far, the nearest words so far, in the order in which they came. -/
def nearStep (w : Int) (s : List Int × Int) (m : Nat) : List Int × Int :=
  if dI m w < s.2 then ([codeOf m], dI m w) else if dI m w = s.2 then (s.1 ++ [codeOf m], s.2) else s
def nearF (w : Int) (ms : List Nat) : List Int × Int := ms.foldl (nearStep w) ([], 25)
theorem nearF_snoc (w : Int) (ms : List Nat) (m : Nat) : nearF w (ms ++ [m]) = nearStep w (nearF w ms) m := by simp [nearF]
theorem nearF_le (w : Int) (ms : List Nat) : (nearF w ms).1.length ≤ ms.length := by
  induction ms using snocInd with
  | nil => simp [nearF]
  | append_singleton ms m ih =>
    rw [nearF_snoc]
    unfold nearStep
    split
    · simp
    · split
      · simp; omega
      · simp; omega
theorem nearF_rng (w : Int) (ms : List Nat) : 0 ≤ (nearF w ms).2 ∧ (nearF w ms).2 ≤ 25 := by
  induction ms using snocInd with
  | nil => simp [nearF]
  | append_singleton ms m ih =>
    rw [nearF_snoc]
    have := dI_range m w
    unfold nearStep
    split
    · exact ⟨this.1, by show dI m w ≤ 25; omega⟩
    · split
      · exact ih
      · exact ih
theorem nearF_all (w : Int) (k : Nat) : (nearF w (List.range k)).2 = leastI w k ∧ ∀ x, x ∈ (nearF w (List.range k)).1 ↔ ∃ m : Nat, m < k ∧ codeOf m = x ∧ dI m w = leastI w k := by
  induction k with
  | zero => refine ⟨rfl, fun x => ?_⟩; simp [nearF]
  | succ k ih =>
    obtain ⟨h1, h2⟩ := ih
    rw [List.range_succ, nearF_snoc]
    simp only [leastI, nearStep]
    rw [h1]
    by_cases hl : dI k w < leastI w k
    · rw [if_pos hl, if_pos hl]
      refine ⟨rfl, fun x => ?_⟩
      rw [List.mem_singleton]
      constructor
      · rintro rfl; exact ⟨k, by omega, rfl, rfl⟩
      · rintro ⟨m, hm, rfl, hd⟩
        by_cases e : m = k
        · rw [e]
        · have := least_le w k m (by omega); omega
    · rw [if_neg hl, if_neg hl]
      by_cases he : dI k w = leastI w k
      · rw [if_pos he]
        refine ⟨rfl, fun x => ?_⟩
        show x ∈ _ ++ _ ↔ _
        rw [List.mem_append, List.mem_singleton, h2]
        constructor
        · rintro (⟨m, hm, a, b⟩ | rfl)
          · exact ⟨m, by omega, a, b⟩
          · exact ⟨k, by omega, rfl, he⟩
        · rintro ⟨m, hm, rfl, hd⟩
          by_cases e : m = k
          · exact .inr (by rw [e])
          · exact .inl ⟨m, by omega, rfl, hd⟩
      · rw [if_neg he]
        refine ⟨h1, fun x => ?_⟩
        rw [h2]
        constructor
        · rintro ⟨m, hm, a, b⟩; exact ⟨m, by omega, a, b⟩
        · rintro ⟨m, hm, a, b⟩
          by_cases e : m = k
          · exact absurd (e ▸ b) he
          · exact ⟨m, by omega, a, b⟩
theorem nearF_nodup (w : Int) (k : Nat) (hk : k ≤ 4096) : (nearF w (List.range k)).1.Nodup := by
  induction k with
  | zero => simp [nearF]
  | succ k ih =>
    have hm := (nearF_all w k).2
    have ih := ih (by omega)
    rw [List.range_succ, nearF_snoc]
    unfold nearStep
    split
    · simp
    · split
      · show (_ ++ _ : List Int).Nodup
        rw [List.nodup_append]
        refine ⟨ih, by simp, ?_⟩
        intro a ha b hb e
        rw [List.mem_singleton] at hb
        subst hb; subst e
        obtain ⟨m, h1, h2, _⟩ := (hm _).1 ha
        have := codeOf_inj m k (by omega) (by omega) h2
        omega
      · exact ih
/-- A sorted list of what the program has gathered is the list of nearest words. -/
theorem near_sorted (w : Int) (k : Nat) (hk : k = 4096) (L : List Int) (hp : L.Perm (nearF w (List.range k)).1) (hs : L.Pairwise (· ≤ ·)) : IsNear w L := by
  have hf : farI w = leastI w k := by rw [hk]; rfl
  have hm := (nearF_all w k).2
  have hn : L.Nodup := hp.nodup_iff.2 (nearF_nodup w k (by omega))
  refine ⟨?_, fun x => ?_⟩
  · unfold Asc
    exact (hs.and hn).imp fun {a b} h => by omega
  · rw [hp.mem_iff, hm, hf, hk]

/-! ### The model's sorting -/
def insPos (x : Int) (L : List Int) : Nat → Nat
  | 0 => 0
  | k + 1 => if x < L.getD k 0 then insPos x L k else k + 1
def insL (x : Int) (L : List Int) : List Int := L.take (insPos x L L.length) ++ x :: L.drop (insPos x L L.length)
theorem insPos_le (x : Int) (L : List Int) (k : Nat) : insPos x L k ≤ k := by
  induction k with
  | zero => simp [insPos]
  | succ k ih => simp only [insPos]; split <;> omega
theorem insL_mem (x : Int) (L : List Int) (y : Int) : y ∈ insL x L ↔ y = x ∨ y ∈ L := by
  unfold insL
  rw [List.mem_append, List.mem_cons]
  have := List.take_append_drop (insPos x L L.length) L
  constructor
  · rintro (h | h | h)
    · exact .inr (List.mem_of_mem_take h)
    · exact .inl h
    · exact .inr (List.mem_of_mem_drop h)
  · rintro (h | h)
    · exact .inr (.inl h)
    · rw [← this, List.mem_append] at h
      rcases h with h | h
      · exact .inl h
      · exact .inr (.inr h)
theorem insL_len (x : Int) (L : List Int) : (insL x L).length = L.length + 1 := by
  unfold insL
  have := insPos_le x L L.length
  simp
  omega
theorem insPos_at (x : Int) (L : List Int) (k : Nat) : (∀ j, insPos x L k ≤ j → j < k → x < L.getD j 0) ∧ (0 < insPos x L k → ¬ x < L.getD (insPos x L k - 1) 0) := by
  induction k with
  | zero => exact ⟨fun j _ h => by omega, fun h => by simp [insPos] at h⟩
  | succ k ih =>
    simp only [insPos]
    by_cases h : x < L.getD k 0
    · rw [if_pos h]
      refine ⟨fun j h1 h2 => ?_, ih.2⟩
      by_cases e : j = k
      · rw [e]; exact h
      · exact ih.1 j h1 (by omega)
    · rw [if_neg h]
      exact ⟨fun j h1 h2 => by omega, fun _ => by simpa using h⟩
theorem asc_get {L : List Int} (h : Asc L) {i j : Nat} (hij : i < j) (hj : j < L.length) : L.getD i 0 < L.getD j 0 := by
  have := List.pairwise_iff_getElem.1 h i j (by omega) hj hij
  simpa [List.getD_eq_getElem?_getD, List.getElem?_eq_getElem hj, List.getElem?_eq_getElem (show i < L.length by omega)] using this
theorem insL_asc (x : Int) (L : List Int) (h : Asc L) (hx : x ∉ L) : Asc (insL x L) := by
  obtain ⟨h1, h2⟩ := insPos_at x L L.length
  have hle := insPos_le x L L.length
  unfold Asc insL
  generalize insPos x L L.length = k at *
  rw [List.pairwise_append]
  refine ⟨h.sublist (List.take_sublist _ _), ?_, ?_⟩
  · rw [List.pairwise_cons]
    refine ⟨fun y hy => ?_, h.sublist (List.drop_sublist _ _)⟩
    obtain ⟨i, hi, rfl⟩ := List.mem_iff_getElem.1 hy
    have hi' : k + i < L.length := by simp at hi; omega
    have := h1 (k + i) (by omega) hi'
    simpa [List.getD_eq_getElem?_getD, List.getElem?_eq_getElem hi'] using this
  · intro a ha b hb
    obtain ⟨i, hi, rfl⟩ := List.mem_iff_getElem.1 ha
    have hi' : i < k ∧ i < L.length := by simp at hi; omega
    have ga : (List.take k L)[i] = L.getD i 0 := by simp [List.getD_eq_getElem?_getD, List.getElem?_eq_getElem hi'.2]
    have hax : L.getD i 0 < x := by
      have q := h2 (by omega)
      have hne : L.getD (k - 1) 0 ≠ x := by
        intro e
        apply hx
        rw [← e, List.getD_eq_getElem?_getD, List.getElem?_eq_getElem (show k - 1 < L.length by omega)]
        exact List.getElem_mem _
      by_cases e : i = k - 1
      · subst e; omega
      · have := asc_get h (i := i) (j := k - 1) (by omega) (by omega); omega
    rw [ga]
    rcases List.mem_cons.1 hb with rfl | hb
    · exact hax
    · obtain ⟨j, hj, rfl⟩ := List.mem_iff_getElem.1 hb
      have hj' : k + j < L.length := by simp at hj; omega
      have := h1 (k + j) (by omega) hj'
      have gb : (List.drop k L)[j] = L.getD (k + j) 0 := by simp [List.getD_eq_getElem?_getD, List.getElem?_eq_getElem hj']
      rw [gb]; omega
/-- One word more, as the model gathers it. -/
def nearStepS (w : Int) (s : List Int × Int) (m : Nat) : List Int × Int :=
  if dI m w < s.2 then (insL (codeOf m) [], dI m w) else if dI m w = s.2 then (insL (codeOf m) s.1, s.2) else s
def nearS (w : Int) : Nat → List Int × Int
  | 0 => ([], 25)
  | k + 1 => nearStepS w (nearS w k) k
theorem nearS_all (w : Int) (k : Nat) (hk : k ≤ 4096) : (nearS w k).2 = leastI w k ∧ Asc (nearS w k).1 ∧ (nearS w k).1.length ≤ k ∧ ∀ x, x ∈ (nearS w k).1 ↔ ∃ m : Nat, m < k ∧ codeOf m = x ∧ dI m w = leastI w k := by
  induction k with
  | zero => refine ⟨rfl, List.Pairwise.nil, Nat.le_refl _, fun x => ?_⟩; simp [nearS]
  | succ k ih =>
    obtain ⟨h1, ha, hn, h2⟩ := ih (by omega)
    simp only [leastI, nearS, nearStepS]
    rw [h1]
    by_cases hl : dI k w < leastI w k
    · rw [if_pos hl, if_pos hl]
      refine ⟨rfl, insL_asc _ _ List.Pairwise.nil (by simp), by rw [insL_len]; simp, fun x => ?_⟩
      rw [insL_mem]
      constructor
      · rintro (rfl | h)
        · exact ⟨k, by omega, rfl, rfl⟩
        · simp at h
      · rintro ⟨m, hm, rfl, hd⟩
        by_cases e : m = k
        · exact .inl (by rw [e])
        · have := least_le w k m (by omega); omega
    · rw [if_neg hl, if_neg hl]
      by_cases he : dI k w = leastI w k
      · rw [if_pos he]
        have hnew : codeOf k ∉ (nearS w k).1 := by
          intro hm
          obtain ⟨m, q1, q2, _⟩ := (h2 _).1 hm
          have := codeOf_inj m k (by omega) (by omega) q2
          omega
        refine ⟨rfl, insL_asc _ _ ha hnew, by rw [insL_len]; omega, fun x => ?_⟩
        rw [insL_mem, h2]
        constructor
        · rintro (rfl | ⟨m, hm, a, b⟩)
          · exact ⟨k, by omega, rfl, he⟩
          · exact ⟨m, by omega, a, b⟩
        · rintro ⟨m, hm, rfl, hd⟩
          by_cases e : m = k
          · exact .inl (by rw [e])
          · exact .inr ⟨m, by omega, rfl, hd⟩
      · rw [if_neg he]
        refine ⟨h1, ha, by omega, fun x => ?_⟩
        rw [h2]
        constructor
        · rintro ⟨m, hm, a, b⟩; exact ⟨m, by omega, a, b⟩
        · rintro ⟨m, hm, a, b⟩
          by_cases e : m = k
          · exact absurd (e ▸ b) he
          · exact ⟨m, by omega, a, b⟩
def nearK (w : Int) (k : Nat) : List Int := (nearS w k).1
theorem nearK_is (w : Int) (k : Nat) (hk : k = 4096) : IsNear w (nearK w k) := by
  obtain ⟨h1, h2, _, h3⟩ := nearS_all w k (by omega)
  have hf : farI w = leastI w k := by rw [hk]; rfl
  exact ⟨h2, fun x => by unfold nearK; rw [h3, hf, hk]⟩
theorem nearS_far (w : Int) (k : Nat) (hk : k = 4096) : (nearS w k).2 = farI w := by
  have hf : farI w = leastI w k := by rw [hk]; rfl
  rw [(nearS_all w k (by omega)).1, hf]
theorem nearS_pair (w : Int) (k : Nat) (hk : k = 4096) : nearS w k = (nearK w k, farI w) := by
  rw [← nearS_far w k hk]; rfl
def nearL (w : Int) : List Int := nearK w 4096
theorem nearL_is (w : Int) : IsNear w (nearL w) := nearK_is w 4096 rfl
theorem nearF_far (w : Int) (k : Nat) (hk : k = 4096) : (nearF w (List.range k)).2 = farI w := by
  have hf : farI w = leastI w k := by rw [hk]; rfl
  rw [(nearF_all w k).1, hf]
theorem nearL_len (w : Int) (h0 : 0 ≤ w) (h1 : w ≤ 16777215) : (farI w = 4 ∧ (nearL w).length = 6) ∨ (farI w < 4 ∧ (nearL w).length = 1) := near_count w h0 h1 _ (nearL_is w)
theorem near_sorted_is (w : Int) (k : Nat) (hk : k = 4096) (L : List Int) (hp : L.Perm (nearF w (List.range k)).1) (hs : L.Pairwise (· ≤ ·)) : L = nearL w := near_same (near_sorted w k hk L hp hs) (nearL_is w)
theorem nearF_len (w : Int) (k : Nat) (hk : k = 4096) : (nearF w (List.range k)).1.length = (nearL w).length := by
  have hf : farI w = leastI w k := by rw [hk]; rfl
  have hm := (nearF_all w k).2
  have hd := nearF_nodup w k (by omega)
  have hn := nearL_is w
  generalize (nearF w (List.range k)).1 = L at *
  generalize nearL w = M at *
  exact asc_length hd hn.1.nodup fun x => by rw [hm, hn.2, hf, hk]
theorem nearF_len6 (w : Int) (k : Nat) (hk : k = 4096) (h0 : 0 ≤ w) (h1 : w ≤ 16777215) : 1 ≤ (nearF w (List.range k)).1.length ∧ (nearF w (List.range k)).1.length ≤ 6 := by
  have h := nearL_len w h0 h1
  rw [nearF_len w k hk]
  generalize (nearL w).length = n at *
  generalize farI w = f at *
  omega
theorem near_at (w : Int) (L : List Int) (hn : IsNear w L) (j : Nat) (hj : j < L.length) : ∃ m : Nat, m < 4096 ∧ codeOf m = L.getD j 0 ∧ dI m w = farI w := by
  have hm : L.getD j 0 ∈ L := by rw [List.getD_eq_getElem?_getD, List.getElem?_eq_getElem hj]; exact List.getElem_mem _
  obtain ⟨m, h1, h2, h3⟩ := (hn.2 _).1 hm
  exact ⟨m, h1, h2, h3⟩
theorem nearL_at (w : Int) (j : Nat) (hj : j < (nearL w).length) : ∃ m : Nat, m < 4096 ∧ codeOf m = (nearL w).getD j 0 ∧ dI m w = farI w := near_at w _ (nearL_is w) j hj

/-! ### Mending -/
theorem mend_eq (w : Int) (h0 : 0 ≤ w) (h1 : w ≤ 16777215) (m : Nat) (hm : m < 4096) (hd : dI m w ≤ 3) : farI w ≤ 3 ∧ (nearL w).getD 0 0 = codeOf m := by
  have hle := least_le w 4096 m hm
  have hf : farI w ≤ 3 := by unfold farI; omega
  have hl := nearL_len w h0 h1
  obtain ⟨n, hn, e, hdn⟩ := nearL_at w 0 (by omega)
  refine ⟨hf, ?_⟩
  rw [← e, near_uniqueI n m w hn hm h0 (by omega)]
theorem dI_self_xor (m : Nat) (e : Int) (he : 0 ≤ e) : dI m (xorI (codeOf m) e) = wt e := by
  unfold dI
  have := codeOf_range (m : Int)
  rw [← xorI_assoc, xorI_self, zero_xorI e he]
theorem wt_pow (i : Nat) (h : i < 24) : wt (2 ^ i : Int) = 1 := by
  have : ∀ i : Fin 24, wt (2 ^ i.val : Int) = 1 := by decide +kernel
  exact this ⟨i, h⟩
theorem wt_xor_le (a b : Int) (ha : 0 ≤ a) (hb : 0 ≤ b) : wt (xorI a b) ≤ wt a + wt b := by
  obtain ⟨A, rfl⟩ := Int.eq_ofNat_of_zero_le ha
  obtain ⟨B, rfl⟩ := Int.eq_ofNat_of_zero_le hb
  have := wt_xor A B
  have := wt_range (andI (A : Int) (B : Int))
  omega

/-! ### Counting -/
def cntStep (c : List Int) (m : Nat) : List Int := c.set (pop (cN m)) (c.getD (pop (cN m)) 0 + 1)
def cntF (ms : List Nat) : List Int := ms.foldl cntStep (List.replicate 25 0)
theorem cntF_snoc (ms : List Nat) (m : Nat) : cntF (ms ++ [m]) = cntStep (cntF ms) m := by simp [cntF]
theorem cntF_len (ms : List Nat) : (cntF ms).length = 25 := by
  induction ms using snocInd with
  | nil => simp [cntF]
  | append_singleton ms m ih => rw [cntF_snoc]; simp [cntStep, ih]
theorem cntF_get (ms : List Nat) (k : Nat) (hk : k < 25) : (cntF ms).getD k 0 = ((ms.filter fun m => pop (cN m) == k).length : Nat) := by
  induction ms using snocInd with
  | nil => 
    have : ∀ k : Fin 25, (cntF []).getD k.val 0 = 0 := by decide
    simpa using this ⟨k, hk⟩
  | append_singleton ms m ih =>
    have hl := cntF_len ms
    rw [cntF_snoc, List.filter_append, List.length_append]
    unfold cntStep
    by_cases h : pop (cN m) = k
    · subst h
      rw [List.getD_eq_getElem?_getD, List.getElem?_set_self (by omega), Option.getD_some, ih]
      simp
    · rw [List.getD_eq_getElem?_getD, List.getElem?_set_ne h, ← List.getD_eq_getElem?_getD, ih]
      simp [h]
theorem cntF_rng (ms : List Nat) (k : Nat) (hk : k < 25) : 0 ≤ (cntF ms).getD k 0 ∧ (cntF ms).getD k 0 ≤ ms.length := by
  rw [cntF_get ms k hk]
  have := List.length_filter_le (fun m => pop (cN m) == k) ms
  omega
def sumTo (c : List Int) : Nat → Int
  | 0 => 0
  | k + 1 => sumTo c k + c.getD k 0
theorem sumTo_set (c : List Int) (j : Nat) (x : Int) (k : Nat) (hj : j < c.length) : sumTo (c.set j x) k = sumTo c k + if j < k then x - c.getD j 0 else 0 := by
  induction k with
  | zero => simp [sumTo]
  | succ k ih =>
    simp only [sumTo]
    rw [ih]
    by_cases e : j = k
    · subst e
      rw [if_neg (by omega), if_pos (by omega), List.getD_eq_getElem?_getD (l := c.set j x), List.getElem?_set_self hj]
      simp only [Option.getD_some]
      omega
    · rw [List.getD_eq_getElem?_getD (l := c.set j x), List.getElem?_set_ne e, ← List.getD_eq_getElem?_getD]
      by_cases h : j < k
      · rw [if_pos h, if_pos (by omega)]; omega
      · rw [if_neg h, if_neg (by omega)]; omega
theorem cnt_sum (ms : List Nat) : sumTo (cntF ms) 25 = ms.length := by
  induction ms using snocInd with
  | nil => decide
  | append_singleton ms m ih =>
    have hl := cntF_len ms
    have hp := pop_le (cN m)
    rw [cntF_snoc]
    unfold cntStep
    rw [sumTo_set _ _ _ _ (by omega), if_pos (by omega), ih]
    simp
    omega
theorem cnt_zero (ms : List Nat) (hm : ∀ m ∈ ms, m < 4096) (k : Nat) (hk : k < 25) (h0 : k ≠ 0) (h8 : k ≠ 8) (h12 : k ≠ 12) (h16 : k ≠ 16) (h24 : k ≠ 24) : (cntF ms).getD k 0 = 0 := by
  rw [cntF_get ms k hk]
  have : (ms.filter fun m => pop (cN m) == k) = [] := by
    rw [List.filter_eq_nil_iff]
    intro m hmem
    have := (code_wts m (hm m hmem)).1
    simp
    omega
  rw [this]; rfl
def cntN (k : Nat) : Nat → Nat
  | 0 => 0
  | n + 1 => cntN k n + if pop (cN n) == k then 1 else 0
theorem cntN_eq (k n : Nat) : ((List.range n).filter fun m => pop (cN m) == k).length = cntN k n := by
  induction n with
  | zero => rfl
  | succ n ih =>
    rw [List.range_succ, List.filter_append, List.length_append, ih]
    simp only [cntN]
    by_cases h : pop (cN n) == k <;> simp [h]
set_option maxRecDepth 100000 in
theorem cnt_five : cntN 0 4096 = 1 ∧ cntN 8 4096 = 759 ∧ cntN 12 4096 = 2576 ∧ cntN 16 4096 = 759 ∧ cntN 24 4096 = 1 := by decide +kernel
theorem cnt_all : (cntF (List.range 4096)).getD 0 0 = 1 ∧ (cntF (List.range 4096)).getD 8 0 = 759 ∧ (cntF (List.range 4096)).getD 12 0 = 2576 ∧ (cntF (List.range 4096)).getD 16 0 = 759 ∧ (cntF (List.range 4096)).getD 24 0 = 1 := by
  obtain ⟨a, b, c, d, e⟩ := cnt_five
  rw [cntF_get _ 0 (by omega), cntF_get _ 8 (by omega), cntF_get _ 12 (by omega), cntF_get _ 16 (by omega), cntF_get _ 24 (by omega), cntN_eq, cntN_eq, cntN_eq, cntN_eq, cntN_eq, a, b, c, d, e]
  exact ⟨rfl, rfl, rfl, rfl, rfl⟩
/-- The messages from one to another. -/
def msgs (lo hi : Nat) : List Nat := List.range' lo (hi + 1 - lo)
theorem msgs_all : msgs 0 4095 = List.range 4096 := by unfold msgs; rw [List.range_eq_range']
theorem msgs_len (lo hi : Nat) : (msgs lo hi).length = hi + 1 - lo := by simp [msgs]
theorem msgs_lt (lo hi : Nat) (h : hi < 4096) : ∀ m ∈ msgs lo hi, m < 4096 := by
  intro m hm
  simp only [msgs, List.mem_range'_1] at hm
  omega
theorem msgs_cons (lo hi : Nat) (h : lo ≤ hi) : msgs lo hi = lo :: msgs (lo + 1) hi := by
  unfold msgs
  rw [show hi + 1 - lo = (hi + 1 - (lo + 1)) + 1 by omega, List.range'_succ]
theorem msgs_nil (lo hi : Nat) (h : hi < lo) : msgs lo hi = [] := by unfold msgs; rw [show hi + 1 - lo = 0 by omega]; rfl
theorem msgs_snoc (lo hi : Nat) (h : lo ≤ hi + 1) : msgs lo (hi + 1) = msgs lo hi ++ [hi + 1] := by
  unfold msgs
  rw [show hi + 1 + 1 - lo = (hi + 1 - lo) + 1 by omega, List.range'_concat]
  congr 2
  omega

/-! ### The answers of chapter 3 -/
def wordB (w : Int) : Bool := decide (0 ≤ w ∧ w ≤ 16777215)
def msgB (m : Int) : Bool := decide (0 ≤ m ∧ m ≤ 4095)
theorem wordB_iff (w : Int) : wordB w = true ↔ 0 ≤ w ∧ w ≤ 16777215 := by simp [wordB]
theorem wordB_no (w : Int) : wordB w = false ↔ w < 0 ∨ 16777215 < w := by simp [wordB]; omega
theorem msgB_iff (w : Int) : msgB w = true ↔ 0 ≤ w ∧ w ≤ 4095 := by simp [msgB]
theorem msgB_no (w : Int) : msgB w = false ↔ w < 0 ∨ 4095 < w := by simp [msgB]; omega
def cScores (w : Int) : List Int × Bool := if wordB w then (scoresI w, true) else ([], false)
def cIn (w : Int) : Bool := wordB w && codeInB w
def cOf (m : Int) : Int × Bool := if msgB m then (codeOf m, true) else (0, false)
def cMsg (w : Int) : Int × Bool := if cIn w then (messageOf w, true) else (0, false)
def cFar (w : Int) : Int := if wordB w then farI w else -1
def cNear (w : Int) : List Int × Bool := if wordB w then (nearL w, true) else ([], false)
def cMend (w : Int) : Int × Bool := if wordB w && decide (farI w ≤ 3) then ((nearL w).getD 0 0, true) else (0, false)
def wgtB (lo hi : Int) : Bool := decide (0 ≤ lo ∧ lo ≤ hi ∧ hi ≤ 4095)
def cWeights (lo hi : Int) : List Int × Bool := if wgtB lo hi then (cntF (msgs lo.toNat hi.toNat), true) else ([], false)
end Go.Proofs.YtiinekoepoonfabDoor
