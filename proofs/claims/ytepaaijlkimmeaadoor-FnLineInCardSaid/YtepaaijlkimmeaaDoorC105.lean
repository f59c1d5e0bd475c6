/- Permutations of the program: the exported functions PermValid, PermTimes, PermTurned, PermFixed. -/
import Derived.Test.YtepaaijlkimmeaaDoorC104
namespace Go.Proofs.YtepaaijlkimmeaaDoor
open Go.RowKit
set_option linter.unusedVariables false
attribute [local irreducible] cN syn

def pL (xs : List Int) : List Int := if permB xs then xs else z24
theorem pL_len (xs : List Int) : (pL xs).length = 24 := by
  unfold pL
  split
  · rename_i h; exact permB_len h
  · rfl
theorem pL_yes {xs : List Int} (h : permB xs = true) : pL xs = xs := by simp [pL, h]
theorem pL_no {xs : List Int} (h : permB xs = false) : pL xs = z24 := by simp [pL, h]
theorem permFrom_calls (A : Option Addr) (c : Nat) (xs : List Int) (w : World) (ha : Rds w w.heap.size .i64 A xs) (hx : xs.length ≤ maxLen) :
    Calls Tryd.prog 30 #[.slice A xs.length c] w fun e w' => e = .returned (.tuple #[.agg (VL (pL xs)), .bool (permB xs)]) ∧ Below w.heap.size w w' := by
  rcases hp : permB xs with _ | _
  · rw [pL_no hp]; exact permFrom_no A c xs w ha hx hp
  · rw [pL_yes hp]; exact permFrom_yes A c xs w ha hx hp
end Go.Proofs.YtepaaijlkimmeaaDoor
