/- Contracts of digits and rows, of the model; of the exported functions that go through no table. -/
import Derived.Test.YtiinekoepoonfabDoorC15
import Derived.Test.YtiinekoepoonfabDoorM3
import Derived.Deep.RegionHeld3
import Derived.Deep.AppendLies
namespace Go.Proofs.YtiinekoepoonfabDoor
open Go.RowKit
set_option linter.unusedVariables false

def rowB (xs : List Int) : Bool := decide (xs.length = 6) && xs.all fun n => decide (0 ≤ n ∧ n ≤ 3)
theorem rowB_iff (xs : List Int) : rowB xs = true ↔ IsRow6 xs := by
  simp [rowB, IsRow6, IsD]
theorem rowB_no (xs : List Int) : rowB xs = false ↔ ¬ IsRow6 xs := by
  rw [← rowB_iff]; simp
/-- A list and whether there is one, in memory of its own. -/
def GotL (w : World) (xs : List Int) (b : Bool) (e : Ending) (w' : World) : Prop := ∃ v, e = .returned (.tuple #[v, .bool b]) ∧ Own w' w.heap.size v xs ∧ Below w.heap.size w w'
def hAdd (xs ys : List Int) : List Int × Bool := if rowB xs && rowB ys then (addR xs ys, true) else ([], false)
def hWeight (xs : List Int) : Int := if rowB xs then wtR xs else -1
theorem l2Digit_ok (n : Int) (w : World) (h : IsD n) :
    Calls Tryd.prog 123 #[.int .i64 n] w fun e w' => e = .returned (.bool true) ∧ w = w' := by
  go_enter Tryd.func123, Tryd.ntmps123
  go_wp2_with (go_at_call 58; refine (l6In_ok _ _ _ _ h.1 h.2).mono ?_; rintro e w' ⟨rfl, rfl⟩)
  go_ret
  exact ⟨rfl, rfl⟩
theorem l2Digit_no (n : Int) (w : World) (h : NoD n) :
    Calls Tryd.prog 123 #[.int .i64 n] w fun e w' => e = .returned (.bool false) ∧ w = w' := by
  go_enter Tryd.func123, Tryd.ntmps123
  go_wp2_with (go_at_call 58; refine (l6In_no _ _ _ _ h).mono ?_; rintro e w' ⟨rfl, rfl⟩)
  go_ret
  exact ⟨rfl, rfl⟩
theorem digits_step (xs : List Int) (k : Nat) (h : ∀ j, j < k → IsD (xs.getD j 0)) (hk : IsD (xs.getD k 0)) : ∀ j, j < k + 1 → IsD (xs.getD j 0) := by
  intro j hj
  by_cases e : j = k
  · subst e; exact hk
  · exact h j (by omega)
theorem digits_all (xs : List Int) (h : ∀ j, j < xs.length → IsD (xs.getD j 0)) : rowB xs = decide (xs.length = 6) := by
  have : (xs.all fun n => decide (0 ≤ n ∧ n ≤ 3)) = true := by
    rw [List.all_eq_true]
    intro x hx
    obtain ⟨j, hj, rfl⟩ := List.getElem_of_mem hx
    have := h j hj
    rw [List.getD_eq_getElem?_getD, List.getElem?_eq_getElem hj] at this
    simpa [IsD] using this
  unfold rowB
  rw [this, Bool.and_true]
theorem digits_no (xs : List Int) (k : Nat) (hk : k < xs.length) (h : NoD (xs.getD k 0)) : rowB xs = false := by
  rw [rowB_no]
  intro hr
  exact isD_not (hr.get k) h
set_option maxHeartbeats 400000 in
theorem l2Row_calls (A : Option Addr) (c : Nat) (xs : List Int) (w : World) (ha : Rds w w.heap.size .i64 A xs) (hx : xs.length ≤ maxLen) :
    Calls Tryd.prog 105 #[.slice A xs.length c] w fun e w' => e = .returned (.bool (rowB xs)) ∧ w = w' := by
  unfold maxLen at hx
  go_enter Tryd.func105, Tryd.ntmps105
  go_wp2
  go_loop [3] (fun i => ∃ k : Nat, k ≤ xs.length ∧ i = .int .i64 k ∧ Hid (∀ j, j < k → IsD (xs.getD j 0))) (fun i => xs.length - (intOf i).toNat)
  case atStart => exact ⟨0, Nat.zero_le _, rfl, Lib.hid (fun j hj => by omega)⟩
  case round =>
    obtain ⟨k, hk, rfl, hd⟩ := hrel
    by_cases hlt : k < xs.length
    · obtain ⟨b1, o1, rfl, _, c1⟩ := ha.at_ hlt
      have HS := Lib.hid (digits_step xs k hd.out)
      have HN := Lib.hid (digits_no xs k hlt)
      clear hd
      generalize xs.getD k 0 = x at *
      rcases isD_or x with h | h
      · have HS' := Lib.hid (HS.out h)
        clear HS HN
        go_wp2_with (go_at_call 123; refine (l2Digit_ok _ _ h).mono ?_; rintro e w' ⟨rfl, rfl⟩)
        go_round
        case rel => exact ⟨k + 1, by omega, by go_num, HS'⟩
        case measure => simp [intOf]; omega
      · have HN' := Lib.hid (HN.out h)
        clear HS HN
        go_wp2_with (go_at_call 123; refine (l2Digit_no _ _ h).mono ?_; rintro e w' ⟨rfl, rfl⟩)
        go_ret
        exact ⟨ret_b HN'.out.symm, rfl⟩
    · have HD := Lib.hid (digits_all xs (fun j hj => hd.out j (by omega)))
      clear hd
      go_wp2
      go_ret
      refine ⟨ret_b ?_, rfl⟩
      rw [HD.out]
      first | rfl | (rw [Bool.eq_iff_iff]; simp; omega)
theorem wtK_stepL (xs : List Int) (k : Nat) (h : k < xs.length) : wtK xs (k + 1) = wtK xs k + nz (xs.getD k 0) := by
  unfold wtK wtR
  rw [take_succ_getD xs k h, List.foldl_append]
  rfl
theorem wtK_rangeL (xs : List Int) (k : Nat) (h : k ≤ xs.length) : 0 ≤ wtK xs k ∧ wtK xs k ≤ k := by
  induction k with
  | zero => simp [wtK, wtR]
  | succ k ih =>
    have := ih (by omega)
    have := nz_01 (xs.getD k 0)
    rw [wtK_stepL xs k (by omega)]
    omega
theorem wtK_all (xs : List Int) (k : Nat) (h : xs.length ≤ k) : wtK xs k = wtR xs := by unfold wtK; rw [List.take_of_length_le h]
end Go.Proofs.YtiinekoepoonfabDoor
