/- The triangle of the model. -/
import Derived.Test.YtnfpdonlknkccacDoorC68
import Derived.Test.YtnfpdonlknkccacDoorC63
namespace Go.Proofs.YtnfpdonlknkccacDoor
open Go.RowKit
set_option linter.unusedVariables false
attribute [local irreducible] octS cN octF

def fstI (W i : Nat) : Int := ((firstW W i : Nat) : Int)
/-- How many of L have of the places F just the places H. -/
def triN (L : List Int) (F H : Int) : Nat := L.countP fun x => andI x F == H
def triR (W i k : Nat) : List Int := (List.range k).map fun k => ((triN octS (fstI W i) (fstI W k) : Nat) : Int)
def triL (W : Nat) : List (List Int) := (List.range 9).map fun i => triR W i (i + 1)
def triA (a : Int) : List (List Int) × Bool := if oIn a then (triL a.toNat, true) else ([], false)
theorem triR_succ (W i k : Nat) : triR W i (k + 1) = triR W i k ++ [((triN octS (fstI W i) (fstI W k) : Nat) : Int)] := by
  unfold triR; rw [List.range_succ, List.map_append]; rfl
theorem triR_len (W i k : Nat) : (triR W i k).length = k := by simp [triR]
theorem triN_snoc (L : List Int) (x F H : Int) : triN (L ++ [x]) F H = if andI x F == H then triN L F H + 1 else triN L F H := by
  unfold triN
  rw [List.countP_append, List.countP_cons, List.countP_nil]
  split <;> simp
theorem triN_le (L : List Int) (F H : Int) : triN L F H ≤ L.length := List.countP_le_length
theorem plN_len (W : Nat) : ∀ N, (plN W N).length = popN N W
  | 0 => by simp [plN, popN]
  | N + 1 => by
    rw [plN_succ, List.length_append, plN_len W N, popN_top]
    unfold bN
    cases h : W.testBit N <;> simp
theorem fst_step (W : Nat) (hW : W < 16777216) (h8 : pop W = 8) (i : Nat) (hi : i < 8) :
    (plI W).getD i 0 = (((pl W).getD i 0 : Nat) : Int) ∧ (pl W).getD i 0 < 24 ∧ wrap64 (fstI W i + wrap64 (2 ^ (pl W).getD i 0)) = fstI W (i + 1) := by
  have hl : (pl W).length = 8 := by unfold pl; rw [plN_len]; exact h8
  have hm : (pl W).getD i 0 ∈ pl W := by
    rw [List.getD_eq_getElem?_getD, List.getElem?_eq_getElem (by omega)]
    exact List.getElem_mem _
  have h24 := pl_lt W _ hm
  refine ⟨by simp [plI, List.getD_eq_getElem?_getD, List.getElem?_map, List.getElem?_eq_getElem (show i < (pl W).length by omega)], h24, ?_⟩
  have hs := firstW_succ W i hW (by omega)
  have h1 := firstW_lt W i hW
  have h2 := firstW_lt W (i + 1) hW
  unfold fstI
  rw [hs] at h2 ⊢
  generalize (pl W).getD i 0 = p at *
  have hp := Nat.two_pow_pos p
  have a : wrap64 ((2 : Int) ^ p) = ((2 ^ p : Nat) : Int) := by
    rw [show (2 : Int) ^ p = ((2 ^ p : Nat) : Int) by simp]
    exact IntWalk.wrap64_in _ (by omega)
  rw [a, IntWalk.wrap64_in _ (by omega)]
  omega
end Go.Proofs.YtnfpdonlknkccacDoor
