/- Marking a list and asking whether it is held; the model's list of places. -/
import Derived.Test.YtilankmidkikjaaC3
import Derived.Test.YtilankmidkikjaaM3
import Derived.Test.YtilankmidkikjaaM6
namespace Go.Proofs.Ytilankmidkikjaa
open Go.RowKit
set_option linter.unusedVariables false

def marks (k : Int) (n : Nat) : List Int := (List.range n).map fun (i : Nat) => k + (i : Int)
theorem marks_len (k : Int) (n : Nat) : (marks k n).length = n := by simp [marks]
theorem marks_get (k : Int) (n j : Nat) (h : j < n) : (marks k n).getD j 0 = k + j := by simp [marks, h]
theorem marks_step (k : Int) (xs : List Int) (j : Nat) (h : j < xs.length) : (marks k j ++ xs.drop j).set j (k + j) = marks k (j + 1) ++ xs.drop (j + 1) := by
  rw [List.set_append_right _ _ (by rw [marks_len]; omega), marks_len, Nat.sub_self]
  have e : xs.drop j = xs[j] :: xs.drop (j + 1) := by rw [List.drop_eq_getElem_cons h]
  rw [e, List.set_cons_zero]
  simp [marks, List.range_succ]
theorem own_at {w : World} {B : Nat} {A : Option Addr} {n c : Nat} {xs : List Int} (h : Own w B (.slice A n c) xs) (hp : 0 < n) : ∃ g, A = some ⟨g, 0, none⟩ ∧ B ≤ g ∧ g < w.heap.size := by
  rcases h.form with ⟨h1, _⟩ | ⟨g, cap, h1, h2, h3, _⟩
  · simp only [Value.slice.injEq] at h1; omega
  · simp only [Value.slice.injEq] at h1
    exact ⟨g, h1.1, h2, h3⟩
theorem own_block {A : Option Addr} {n c n' c' : Nat} : (Value.slice A n c).ownBlock = (Value.slice A n' c').ownBlock := by cases A <;> rfl

/-- A marked list reads as marked. -/
theorem Own.rdsM {w : World} {B : Nat} {A : Option Addr} {n c : Nat} {k : Int} {m : Nat} (h : Own w B (.slice A n c) (marks k m)) : Rds w w.heap.size .i64 A (marks k m) := h.rds
theorem Own.belowM {w w' : World} {B : Nat} {v : Value} {xs : List Int} (h : Own w B v xs) (hb : Below w.heap.size w w') : Own w' B v xs := h.below hb


theorem own_empty (w : World) (B : Nat) (hB : B ≤ w.heap.size) : Own (w.alloc (.cells #[] 3)) B (.slice (some ⟨w.heap.size, 0, none⟩) 0 0) [] :=
  ⟨rfl, .inr ⟨w.heap.size, 0, #[], rfl, hB, heap_alloc_new w _, by simp, by unfold maxLen; omega, by simp, by simp [vals]⟩⟩
def plNI (W N : Nat) : List Int := (plN W N).map fun (i : Nat) => (i : Int)
theorem plNI_succ (W N : Nat) : plNI W (N + 1) = plNI W N ++ if W.testBit N then [(N : Int)] else [] := by
  unfold plNI
  rw [plN_succ, List.map_append]
  cases W.testBit N <;> simp
theorem plNI_len (W N : Nat) : (plNI W N).length ≤ N := by
  unfold plNI plN
  have := List.length_filter_le (fun i => W.testBit i) (List.range N)
  simpa using this
end Go.Proofs.Ytilankmidkikjaa
