/- The permutations of rows of the hexacode and of digits, of both sides. -/
import Derived.Test.YtakefnfhjiodnaaC105
import Derived.Test.YtakefnfhjiodnaaC106
import Derived.Test.YtakefnfhjiodnaaQ5
import Derived.Test.YtakefnfhjiodnaaC22
namespace Go.Proofs.Ytakefnfhjiodnaa
open Go.RowKit
set_option linter.unusedVariables false
attribute [local irreducible] cN syn

def hexP (row : List Int) : List Int := (List.range 24).map fun i => ((i / 4 * 4 : Nat) : Int) + xorI ((i % 4 : Nat) : Int) (row.getD (i / 4) 0)
def scP (n : Int) : List Int := (List.range 24).map fun i => ((i / 4 * 4 : Nat) : Int) + mulD ((i % 4 : Nat) : Int) n
def plHex (row : List Int) : List Int × Bool := if hIn row then (hexP row, true) else ([], false)
def plScale (n : Int) : List Int × Bool := if decide (1 ≤ n ∧ n ≤ 3) then (scP n, true) else ([], false)
theorem hexP_len (row : List Int) : (hexP row).length = 24 := by simp [hexP]
theorem scP_len (n : Int) : (scP n).length = 24 := by simp [scP]
theorem hexP_at (row : List Int) (i : Nat) (h : i < 24) : (hexP row).getD i 0 = ((i / 4 * 4 : Nat) : Int) + xorI ((i % 4 : Nat) : Int) (row.getD (i / 4) 0) := by simp [hexP, h]
theorem scP_at (n : Int) (i : Nat) (h : i < 24) : (scP n).getD i 0 = ((i / 4 * 4 : Nat) : Int) + mulD ((i % 4 : Nat) : Int) n := by simp [scP, h]
theorem hexP_get (row : List Int) (c r : Nat) (hc : c < 6) (hr : r < 4) : (hexP row).getD (4 * c + r) 0 = (c : Int) * 4 + xorI (r : Int) (row.getD c 0) := by
  rw [hexP_at row _ (by omega), show (4 * c + r) / 4 = c by omega, show (4 * c + r) % 4 = r by omega]
  omega
theorem scP_get (n : Int) (c r : Nat) (hc : c < 6) (hr : r < 4) : (scP n).getD (4 * c + r) 0 = (c : Int) * 4 + mulD (r : Int) n := by
  rw [scP_at n _ (by omega), show (4 * c + r) / 4 = c by omega, show (4 * c + r) % 4 = r by omega]
  omega
theorem two_heap (w : World) (o0 o1 : Obj) : ((w.alloc o0).alloc o1).heap[w.heap.size]? = some o0 ∧ ((w.alloc o0).alloc o1).heap[w.heap.size + 1]? = some o1 ∧ Below w.heap.size w ((w.alloc o0).alloc o1) := by
  refine ⟨?_, ?_, ((Below.refl _ w).alloc (Nat.le_refl _) _).alloc (by simp) _⟩
  · exact (Below.heap_alloc _ _ _ (by simp; try omega)).trans (heap_alloc_new w _)
  · have := heap_alloc_new (w.alloc o0) o1
    rw [alloc_sz] at this
    exact this
end Go.Proofs.Ytakefnfhjiodnaa
