/- The octads in a row: gathered by messages, sorted. Merging, plain. No program is named here. -/
import Derived.Test.YtiinekoepoonfabDoorM14
import Derived.Test.YtiinekoepoonfabDoorM17
namespace Go.Proofs.YtiinekoepoonfabDoor
set_option linter.unusedVariables false

/-- The octads of the messages below k, in their order. -/
def octF : Nat → List Int
  | 0 => []
  | k + 1 => if wt (codeOf k) = 8 then octF k ++ [codeOf k] else octF k
theorem octF_len (k : Nat) : (octF k).length ≤ k := by
  induction k with
  | zero => simp [octF]
  | succ k ih => simp only [octF]; split <;> (try simp) <;> omega
theorem octF_mem (k : Nat) (x : Int) : x ∈ octF k ↔ ∃ m : Nat, m < k ∧ codeOf m = x ∧ wt x = 8 := by
  induction k with
  | zero => simp [octF]
  | succ k ih =>
    simp only [octF]
    split
    · rename_i h8
      rw [List.mem_append, ih]
      constructor
      · rintro (⟨m, h, e, w⟩ | h)
        · exact ⟨m, by omega, e, w⟩
        · have e : x = codeOf k := by simpa using h
          exact ⟨k, by omega, e.symm, by rw [e]; exact h8⟩
      · rintro ⟨m, h, e, w⟩
        by_cases hm : m = k
        · exact .inr (by rw [← e, hm]; simp)
        · exact .inl ⟨m, by omega, e, w⟩
    · rename_i h8
      rw [ih]
      constructor
      · rintro ⟨m, h, e, w⟩; exact ⟨m, by omega, e, w⟩
      · rintro ⟨m, h, e, w⟩
        by_cases hm : m = k
        · exact absurd (by rw [← hm, e]; exact w) h8
        · exact ⟨m, by omega, e, w⟩
theorem octF_nodup (k : Nat) (hk : k ≤ 4096) : (octF k).Nodup := by
  induction k with
  | zero => simp [octF]
  | succ k ih =>
    simp only [octF]
    split
    · rw [List.nodup_append]
      refine ⟨ih (by omega), by simp, ?_⟩
      intro a ha b hb e
      have e2 : b = codeOf k := by simpa using hb
      obtain ⟨m, hm, e3, _⟩ := (octF_mem k a).1 ha
      have := codeOf_inj m k (by omega) (by omega) (by rw [e3, e, e2])
      omega
    · exact ih (by omega)
/-- A list is the octads in a row. -/
def IsOcts (L : List Int) : Prop := Asc L ∧ ∀ x, x ∈ L ↔ ∃ m : Nat, m < 4096 ∧ codeOf m = x ∧ wt x = 8
theorem octs_same {L M : List Int} (hL : IsOcts L) (hM : IsOcts M) : L = M := asc_ext L M hL.1 hM.1 fun x => (hL.2 x).trans (hM.2 x).symm
theorem octs_of (k : Nat) (hk : k = 4096) (L : List Int) (hp : L.Perm (octF k)) (hs : L.Pairwise (· ≤ ·)) : IsOcts L := by
  have hn : L.Nodup := hp.nodup_iff.2 (octF_nodup k (by omega))
  refine ⟨?_, fun x => ?_⟩
  · unfold Asc
    exact (hs.and hn).imp fun {a b} h => by omega
  · rw [hp.mem_iff, octF_mem, hk]
def octK (k : Nat) : List Int := (octF k).mergeSort fun x y => decide (x ≤ y)
theorem ms_pair (L : List Int) : (L.mergeSort fun x y => decide (x ≤ y)).Pairwise (· ≤ ·) := by
  have := List.pairwise_mergeSort (le := fun (x y : Int) => decide (x ≤ y)) (by intro a b c; simp; omega) (by intro a b; simp; omega) L
  exact this.imp (by intro a b h; simpa using h)
theorem octK_is (k : Nat) (hk : k = 4096) : IsOcts (octK k) := octs_of k hk _ (List.mergeSort_perm _ _) (ms_pair _)
def octS : List Int := octK 4096
theorem octS_is : IsOcts octS := octK_is 4096 rfl
theorem octs_eq (k : Nat) (hk : k = 4096) (L : List Int) (hp : L.Perm (octF k)) (hs : L.Pairwise (· ≤ ·)) : L = octS := octs_same (octs_of k hk L hp hs) octS_is
theorem octS_len (k : Nat) (hk : k = 4096) : octS.length ≤ k := by
  have h := octK_is k hk
  rw [octs_same octS_is h]
  unfold octK
  rw [List.length_mergeSort]
  exact octF_len k
/-- Two rows made one. -/
def mrg (a b : List Int) : List Int := List.merge a b fun x y => decide (x ≤ y)
theorem mrg_nil (a : List Int) : mrg a [] = a := by cases a <;> simp [mrg]
theorem nil_mrg (b : List Int) : mrg [] b = b := by simp [mrg]
theorem mrg_left {x y : Int} {a b : List Int} (h : x ≤ y) : mrg (x :: a) (y :: b) = x :: mrg a (y :: b) := by simp [mrg, h]
theorem mrg_right {x y : Int} {a b : List Int} (h : ¬ x ≤ y) : mrg (x :: a) (y :: b) = y :: mrg (x :: a) b := by simp [mrg, h]
theorem mrg_perm (a b : List Int) : (mrg a b).Perm (a ++ b) := List.merge_perm_append _
theorem mrg_pair {a b : List Int} (ha : a.Pairwise (· ≤ ·)) (hb : b.Pairwise (· ≤ ·)) : (mrg a b).Pairwise (· ≤ ·) := by
  have := List.pairwise_merge (le := fun (x y : Int) => decide (x ≤ y)) (by intro a b c; simp; omega) (by intro a b; simp; omega) a b (ha.imp (by intro a b h; simpa using h)) (hb.imp (by intro a b h; simpa using h))
  exact this.imp (by intro a b h; simpa using h)
theorem drop_cons (a : List Int) (i : Nat) (h : i < a.length) : a.drop i = a.getD i 0 :: a.drop (i + 1) := by
  rw [List.drop_eq_getElem_cons h, List.getD_eq_getElem?_getD, List.getElem?_eq_getElem h]
  rfl
theorem mrg_takeA {a b zs : List Int} {i k : Nat} (hi : i < a.length) (hk : k ≤ b.length) (hle : k = b.length ∨ (k < b.length ∧ a.getD i 0 ≤ b.getD k 0)) (h : zs ++ mrg (a.drop i) (b.drop k) = mrg a b) : (zs ++ [a.getD i 0]) ++ mrg (a.drop (i + 1)) (b.drop k) = mrg a b := by
  rw [← h, List.append_assoc]
  congr 1
  rw [drop_cons a i hi]
  rcases hle with rfl | ⟨hk2, hle⟩
  · simp [mrg_nil]
  · rw [drop_cons b k hk2, mrg_left hle]; rfl
theorem mrg_takeB {a b zs : List Int} {i k : Nat} (hi : i ≤ a.length) (hk : k < b.length) (hle : i = a.length ∨ (i < a.length ∧ ¬ a.getD i 0 ≤ b.getD k 0)) (h : zs ++ mrg (a.drop i) (b.drop k) = mrg a b) : (zs ++ [b.getD k 0]) ++ mrg (a.drop i) (b.drop (k + 1)) = mrg a b := by
  rw [← h, List.append_assoc]
  congr 1
  rw [drop_cons b k hk]
  rcases hle with rfl | ⟨hi2, hle⟩
  · simp [nil_mrg]
  · rw [drop_cons a i hi2, mrg_right hle]; rfl
theorem mrg_len (a b : List Int) : (mrg a b).length = a.length + b.length := by rw [(mrg_perm a b).length_eq, List.length_append]
end Go.Proofs.YtiinekoepoonfabDoor
