import Derived.Test.YtiodikflmijhkaaQ1
import Derived.Test.YtiodikflmijhkaaP1
import Derived.Test.YtiodikflmijhkaaM11
import Derived.Test.YtiodikflmijhkaaP0
import Derived.Deep.RegionHeld3
import Derived.Deep.AppendLies
/- Contracts of digits and of reading rows of six digits, of the program. -/
namespace Go.Proofs.Ytiodikflmijhkaa
open Go.RowKit
set_option linter.unusedVariables false

theorem xor_u8 (a b : Int) (ha : IsD a) (hb : IsD b) : bits .xor .u8 a b = xorI a b := by
  obtain ⟨a, rfl⟩ := ha.fin; obtain ⟨b, rfl⟩ := hb.fin
  clear ha hb; revert a b; decide
end Go.Proofs.Ytiodikflmijhkaa
/- Contracts of rows of six digits, of the program: two rows read, a sum, a weight, a row as a list. -/
namespace Go.Proofs.Ytiodikflmijhkaa
open Go.RowKit
set_option linter.unusedVariables false

theorem Rds.below_more {w w' : World} {B : Nat} {k : IntKind} {A : Option Addr} {xs : List Int} (h : Rds w B k A xs) (hb : Below B w w') (hs : B ≤ w'.heap.size) : Rds w' w'.heap.size k A xs := (h.below hb).more hs
theorem wtTo6 (d0 d1 d2 d3 d4 d5 : Int) : wtR [d0, d1, d2, d3, d4, d5] = 0 + nz d0 + nz d1 + nz d2 + nz d3 + nz d4 + nz d5 := rfl
def wtK (xs : List Int) (k : Nat) : Int := wtR (xs.take k)
theorem wtK_step (d0 d1 d2 d3 d4 d5 : Int) (k : Nat) (hk : k < 6) : wtK [d0, d1, d2, d3, d4, d5] (k + 1) = wtK [d0, d1, d2, d3, d4, d5] k + nz ([d0, d1, d2, d3, d4, d5].getD k 0) := by
  match k, hk with
  | 0, _ => simp [wtK, wtR]
  | 1, _ => simp [wtK, wtR]
  | 2, _ => simp [wtK, wtR]
  | 3, _ => simp [wtK, wtR]
  | 4, _ => simp [wtK, wtR]
  | 5, _ => simp [wtK, wtR]
theorem wtK_range (d0 d1 d2 d3 d4 d5 : Int) (k : Nat) (hk : k ≤ 6) : 0 ≤ wtK [d0, d1, d2, d3, d4, d5] k ∧ wtK [d0, d1, d2, d3, d4, d5] k ≤ k := by
  induction k with
  | zero => simp [wtK, wtR]
  | succ k ih =>
    have := ih (by omega)
    have := nz_01 ([d0, d1, d2, d3, d4, d5].getD k 0)
    rw [wtK_step _ _ _ _ _ _ k (by omega)]
    omega
end Go.Proofs.Ytiodikflmijhkaa
/- Contracts of digits and rows, of the model; of the exported functions that go through no table. -/
namespace Go.Proofs.Ytiodikflmijhkaa
open Go.RowKit
set_option linter.unusedVariables false

def rowB (xs : List Int) : Bool := decide (xs.length = 6) && xs.all fun n => decide (0 ≤ n ∧ n ≤ 3)
theorem rowB_iff (xs : List Int) : rowB xs = true ↔ IsRow6 xs := by
  simp [rowB, IsRow6, IsD]
theorem rowB_no (xs : List Int) : rowB xs = false ↔ ¬ IsRow6 xs := by
  rw [← rowB_iff]; simp
/-- A list and whether there is one, in memory of its own. -/
def GotL (w : World) (xs : List Int) (b : Bool) (e : Ending) (w' : World) : Prop := ∃ v, e = .returned (.tuple #[v, .bool b]) ∧ Own w' w.heap.size v xs ∧ Below w.heap.size w w'
def hAdd (xs ys : List Int) : List Int × Bool := if rowB xs && rowB ys then (addR xs ys, true) else ([], false)
def hWeight (xs : List Int) : Int := if rowB xs then wtR xs else -1
theorem wtK_stepL (xs : List Int) (k : Nat) (h : k < xs.length) : wtK xs (k + 1) = wtK xs k + nz (xs.getD k 0) := by
  unfold wtK wtR
  rw [take_succ_getD xs k h, List.foldl_append]
  rfl
theorem wtK_rangeL (xs : List Int) (k : Nat) (h : k ≤ xs.length) : 0 ≤ wtK xs k ∧ wtK xs k ≤ k := by
  induction k with
  | zero => simp [wtK, wtR]
  | succ k ih =>
    have := ih (by omega)
    have := nz_01 (xs.getD k 0)
    rw [wtK_stepL xs k (by omega)]
    omega
theorem wtK_all (xs : List Int) (k : Nat) (h : xs.length ≤ k) : wtK xs k = wtR xs := by unfold wtK; rw [List.take_of_length_le h]
end Go.Proofs.Ytiodikflmijhkaa
/- Contracts of the sum of two rows, of the program and of its model. -/
namespace Go.Proofs.Ytiodikflmijhkaa
open Go.RowKit
set_option linter.unusedVariables false

theorem own_empty2 (w : World) (B : Nat) (hB : B ≤ w.heap.size) : Own (w.alloc (.cells #[] 3)) B (.slice (some ⟨w.heap.size, 0, none⟩) 0 0) [] :=
  ⟨rfl, .inr ⟨w.heap.size, 0, _, rfl, hB, heap_alloc_new w _, by simp, by unfold maxLen; omega, by simp, by simp [vals]⟩⟩
theorem step_push {ops : Array Oper} {o : Oper} {a : Act} {K : Act → World → Prop} {Q : Exit → Act → World → Prop} {E : Prop} (hgd : o.guard = none) (s y : Operand)
    (ho : o.op = .call { callee := .builtin .append, args := #[s, y], argTypes := #[22, 22] })
    (w : World) (B : Nat) (v : Value) (xs : List Int) (x : Int) (c : Nat) (hs : a.eval s = v) (hy : a.eval y = .slice (some ⟨w.heap.size, 0, none⟩) 1 c)
    (hown : Own w B v xs) (hlen : xs.length ≤ 1048576) (hB : B ≤ w.heap.size)
    (h : ∀ v' w', Own w' B v' (xs ++ [x]) → Below B w w' → w.grownBy w' v.ownBlock → K (a.put o.dst v') w') :
    if Region.wanted o (yielded ops a.tmps) = true then Oper.wp Try.prog o a (World.drew (w.alloc (.cells #[.int .i64 x] 3))) K Q else E := by
  obtain ⟨i0, hi, hz0, hz1, hz2⟩ := info_parts intRow
  refine step_append_lies _ hgd s y 22 ho B 3 i0 (.int .i64 0) 1 8 Try.underlying22 hi hz0 hz1 hz2 rfl (by decide) v xs.length (vals .i64 xs) hs
    (World.ownsRow.alloc hown _) ⟨w.heap.size, 0, none⟩ 1 c [.int .i64 x] hy rfl ?_ ?_ (by omega) (by unfold maxLen; omega) (by omega) (by show B ≤ (w.alloc _).heap.size; simp; omega) _ rfl ?_
  · intro j u hj
    match j, hj with
    | 0, hj =>
      simp at hj; subst hj
      exact cell_new w #[.int .i64 x] _ 0 _ rfl
  · intro u hu; simp at hu; subst hu; rfl
  · intro g cap w' h1 h2 _ _
    have h2' : (w.alloc (.cells #[.int .i64 x] 3)).grownBy w' v.ownBlock := ⟨h2.os, h2.tape, h2.output, h2.size, h2.block⟩
    have hg : w.grownBy w' v.ownBlock := grown_trans (World.grownBy_alloc w _ _) h2'
    refine h _ w' ?_ ((Below.refl B w).grown hg hB (own_row_ge hown)) hg
    unfold Own
    rw [vals_append, show vals .i64 [x] = [Value.int .i64 x] from rfl, List.length_append]
    simpa using h1
end Go.Proofs.Ytiodikflmijhkaa