/- Sorting a list that the call owns. -/
import Derived.Test.YtakefnfhjiodnaaP0
import Derived.Test.YtakefnfhjiodnaaShelf
import Derived.Sort.OwnSortedInts
namespace Go.Proofs.Ytakefnfhjiodnaa
open Go.RowKit Go.Sort
set_option linter.unusedVariables false

theorem sort_own2 (V : World) (B : Nat) (v : Value) (L : List Int) (h : Own V B v L) (h0 : 0 < L.length) (hl : L.length ≤ 4096) :
    Calls Try.prog 29 #[v] V fun e W => e = .returned (.tuple #[]) ∧ Own W B v (L.mergeSort fun x y => decide (x ≤ y)) ∧ V.grownBy W v.ownBlock := by
  rcases h.2 with ⟨_, hz⟩ | ⟨g, cap, cur, rfl, hbase, hb, h1, h2, h3, h4⟩
  · omega
  refine (Try.slices_Sort_int g 0 cap L V (holds_of_blockI hb (by simpa [vals] using h4)) (Array.getElem?_eq_some_iff.1 hb).1 (by omega)).mono ?_
  rintro e W ⟨rfl, n, os, rfl⟩
  refine ⟨rfl, ?_, grownBy_sortedI _⟩
  have := ownsRow_sortedI (os := os) (n := n) (ts := L.mergeSort fun x y => decide (x ≤ y)) (ss := L) (by simp) hbase hb h1 h2 h3
  unfold Own vals
  rw [List.length_mergeSort]
  exact this
end Go.Proofs.Ytakefnfhjiodnaa
