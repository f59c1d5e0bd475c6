/- Sorting by pdqsort's own text at up to 21 different numbers: what its rounds need. No program is named here. -/
import Derived.Sort.LotA
import Derived.Sort.LotC
import Derived.Sort.LotD1
import Derived.Sort.LotD2
import Derived.Sort.LotD3
import Derived.Sort.LotD4
namespace Go.Proofs.YtmeejnkpaiinaacGreatDoor
open Go.Sort
set_option linter.unusedVariables false

theorem permIn_symm {a b : Nat} {d d' : Array Int} (h : PermIn a b d d') : PermIn a b d' d := ⟨h.1.symm, fun i hi => (h.2.1 i hi).symm, h.2.2.symm⟩
theorem ltI_iff {x y : Int} : ltInt x y = true ↔ x < y := by unfold ltInt; exact decide_eq_true_iff
theorem ltI_no {x y : Int} : ltInt x y = false ↔ y ≤ x := by unfold ltInt; rw [decide_eq_false_iff_not]; omega
/-- The pivot comes to lie at mid. -/
theorem partition_at (d : Array Int) (a b pivot : Nat) (hap : a ≤ pivot) (hpb : pivot < b) (hb : b ≤ d.size) : (partition ltInt d a b pivot).2.2[(partition ltInt d a b pivot).1]! = d[pivot]! := by
  rw [partition_fst, partition_arr]
  have hb0 : b ≤ (swp d a pivot).size := by rw [size_swp]; exact hb
  obtain ⟨r1, r2, r3, r4, r5⟩ := partLoop_spec ltInt a b _ (a + 1) (b - 1) (swp d a pivot) (Nat.le_refl _) (Nat.lt_succ_self a) (by omega) (by omega) hb0 (fun t h1 h2 => by omega) (fun t h1 h2 => by omega)
  generalize partLoop ltInt a (a + 1) (b - 1) (swp d a pivot) = res at r1 r2 r3 r4 r5 ⊢
  obtain ⟨r, d'⟩ := res
  simp only at r1 r2 r3 r4 r5 ⊢
  have hs : d'.size = d.size := by rw [r3.1, size_swp]
  have ea : d'[a]! = (swp d a pivot)[a]! := r3.2.1 a (Or.inl (Nat.lt_succ_self a))
  have ep : (swp d a pivot)[a]! = d[pivot]! := by
    by_cases e : a = pivot
    · subst e; rw [swp_right d a a (by omega)]
    · rw [swp_left d a pivot (by omega) e]
  by_cases e : r = a
  · rw [e, swp_right d' a a (by omega), ea, ep]
  · rw [swp_left d' r a (by omega) e, ea, ep]
/-- A pivot that has a less and a greater one beside it parts both off. -/
theorem part_mid (d : Array Int) (a b pivot x y : Nat) (hap : a ≤ pivot) (hpb : pivot < b) (hb : b ≤ d.size) (hx : a ≤ x ∧ x < b) (hy : a ≤ y ∧ y < b) (h1 : ltInt d[x]! d[pivot]! = true) (h2 : ltInt d[pivot]! d[y]! = true) :
    a < (partition ltInt d a b pivot).1 ∧ (partition ltInt d a b pivot).1 + 1 < b := by
  obtain ⟨g1, g2, gp, glo, ghi⟩ := partition_holds ltInt swo_ltInt d a b pivot hap hpb hb
  have hat := partition_at d a b pivot hap hpb hb
  generalize (partition ltInt d a b pivot).1 = mid at *
  generalize (partition ltInt d a b pivot).2.2 = d4 at *
  rw [hat] at glo ghi
  have hb4 : b ≤ d4.size := by rw [gp.1]; exact hb
  rw [ltI_iff] at h1 h2
  refine ⟨?_, ?_⟩
  · refine Classical.byContradiction fun hn => ?_
    have hm : mid = a := by omega
    subst hm
    have := permIn_all d4 d mid b (fun z => ltInt z d[pivot]! = false) hb4 (permIn_symm gp) (fun i hi hi' => by
      by_cases e : i = mid
      · rw [e, hat, ltI_no]; exact Int.le_refl _
      · exact ghi i (by omega) hi') x hx.1 hx.2
    rw [ltI_no] at this
    omega
  · refine Classical.byContradiction fun hn => ?_
    have := permIn_all d4 d a b (fun z => ltInt d[pivot]! z = false) hb4 (permIn_symm gp) (fun i hi hi' => by
      by_cases e : i = mid
      · rw [e, hat, ltI_no]; exact Int.le_refl _
      · have := glo i hi (by omega)
        rw [ltI_iff] at this
        rw [ltI_no]; omega) y hy.1 hy.2
    rw [ltI_no] at this
    omega
/-- All of a part are different. -/
def Apart (a b : Nat) (d : Array Int) : Prop := ∀ i j, a ≤ i → i < j → j < b → d[i]! ≠ d[j]!
theorem median_mid (d : Array Int) (a b i j k s : Nat) (h : Apart a b d) (h1 : a ≤ i) (h2 : i < j) (h3 : j < k) (h4 : k < b) :
    ∃ x y, (a ≤ x ∧ x < b) ∧ (a ≤ y ∧ y < b) ∧ ltInt d[x]! d[(median ltInt d i j k s).1]! = true ∧ ltInt d[(median ltInt d i j k s).1]! d[y]! = true ∧ (median ltInt d i j k s).2 ≤ s + 3 := by
  have e1 := h i j h1 h2 (by omega)
  have e2 := h i k h1 (by omega) h4
  have e3 := h j k (by omega) h3 h4
  have hs : (median ltInt d i j k s).2 ≤ s + 3 := by
    unfold median order2
    simp only
    repeat' split
    all_goals (simp only; omega)
  have hm : ∀ m, (m = i ∨ m = j ∨ m = k) → a ≤ m ∧ m < b := fun m hm => by omega
  have key : ∃ x y, (x = i ∨ x = j ∨ x = k) ∧ (y = i ∨ y = j ∨ y = k) ∧ ltInt d[x]! d[(median ltInt d i j k s).1]! = true ∧ ltInt d[(median ltInt d i j k s).1]! d[y]! = true := by
    unfold median order2
    rcases (by omega : d[i]! < d[j]! ∨ d[j]! < d[i]!) with q1 | q1 <;> rcases (by omega : d[i]! < d[k]! ∨ d[k]! < d[i]!) with q2 | q2 <;> rcases (by omega : d[j]! < d[k]! ∨ d[k]! < d[j]!) with q3 | q3 <;>
      simp only [ltInt, q1, q2, q3, decide_true, decide_false, decide_eq_true_eq, if_true, if_false, Int.lt_asymm q1, Int.lt_asymm q2, Int.lt_asymm q3, Bool.false_eq_true]
    · exact ⟨i, k, by omega, by omega, q1, q3⟩
    · exact ⟨i, j, by omega, by omega, q2, q3⟩
    · omega
    · exact ⟨k, j, by omega, by omega, q2, q1⟩
    · exact ⟨j, k, by omega, by omega, q1, q2⟩
    · omega
    · exact ⟨j, i, by omega, by omega, q3, q2⟩
    · exact ⟨k, i, by omega, by omega, q3, q1⟩
  obtain ⟨x, y, hx, hy, q1, q2⟩ := key
  exact ⟨x, y, hm x hx, hm y hy, q1, q2, hs⟩
theorem apart_perm {a b : Nat} {d d' : Array Int} (h : Apart a b d) (hb : b ≤ d.size) (hp : PermIn a b d d') : Apart a b d' := by
  have hn : ((d.extract a b).toList).Nodup := by
    rw [extract_toList d a b hb]
    rw [List.Nodup, List.pairwise_map]
    refine List.Pairwise.imp_of_mem (R := (· < ·)) (fun {x y} hx hy hlt => ?_) List.pairwise_lt_range'
    rw [List.mem_range'_1] at hx hy
    exact h x y hx.1 hlt (by omega)
  have hn' := (hp.2.2.nodup_iff).2 hn
  rw [extract_toList d' a b (by rw [hp.1]; exact hb), List.Nodup, List.pairwise_map] at hn'
  intro i j hi hij hj
  have hidx : (List.range' a (b - a))[i - a]? = some i := by rw [List.getElem?_range' (by omega)]; congr 1; omega
  have hjdx : (List.range' a (b - a))[j - a]? = some j := by rw [List.getElem?_range' (by omega)]; congr 1; omega
  rw [List.pairwise_iff_getElem] at hn'
  have := hn' (i - a) (j - a) (by simp; omega) (by simp; omega) (by omega)
  simpa [show a + (i - a) = i by omega, show a + (j - a) = j by omega] using this
theorem Apart.mono {a b a' b' : Nat} {d : Array Int} (h : Apart a b d) (ha : a ≤ a') (hb : b' ≤ b) : Apart a' b' d := fun i j h1 h2 h3 => h i j (by omega) h2 (by omega)
/-- What lies ahead of a part is less than all of it. -/
theorem below_lt {a b p : Nat} {d : Array Int} (h : Sort.Below ltInt a b d) (hn : ∀ i, a ≤ i → i < b → d[a - 1]! ≠ d[i]!) (h0 : 0 < a) (h1 : a ≤ p) (h2 : p < b) : ltInt d[a - 1]! d[p]! = true := by
  rcases h with h | h
  · omega
  · have := h p h1 h2
    have := hn p h1 h2
    rw [ltI_no] at *
    rw [ltI_iff]
    omega
end Go.Proofs.YtmeejnkpaiinaacGreatDoor
