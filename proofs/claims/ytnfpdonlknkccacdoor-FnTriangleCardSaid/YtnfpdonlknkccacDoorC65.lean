/- Marked lists of lists. -/
import Derived.Test.YtnfpdonlknkccacDoorC64
import Derived.Test.YtnfpdonlknkccacDoorQ3
namespace Go.Proofs.YtnfpdonlknkccacDoor
open Go.RowKit
set_option linter.unusedVariables false

/-- How many numbers the first rows have. -/
def totTo (ns : List Nat) : Nat → Nat
  | 0 => 0
  | j + 1 => totTo ns j + ns.getD j 0
theorem totTo_le (ns : List Nat) (i : Nat) : ∀ d, totTo ns i ≤ totTo ns (i + d)
  | 0 => Nat.le_refl _
  | d + 1 => by have := totTo_le ns i d; rw [show i + (d + 1) = (i + d) + 1 by omega, totTo]; omega
def marks2 (k : Int) (ns : List Nat) : List (List Int) := (List.range ns.length).map fun j => marks (k + (totTo ns j : Nat)) (ns.getD j 0)
theorem marks2_len (k : Int) (ns : List Nat) : (marks2 k ns).length = ns.length := by simp [marks2]
theorem marks2_at (k : Int) (ns : List Nat) (j : Nat) (h : j < ns.length) : (marks2 k ns).getD j [] = marks (k + (totTo ns j : Nat)) (ns.getD j 0) := by
  rw [List.getD_eq_getElem?_getD, List.getElem?_eq_getElem (by rw [marks2_len]; exact h)]
  simp [marks2]
set_option maxHeartbeats 400000 in
theorem heldIntSS_calls (A : Option Addr) (c : Nat) (ns : List Nat) (k : Int) (w : World) (hr : Rds2 w w.heap.size A (marks2 k ns)) (hn : ns.length ≤ 1048576) (hx : totTo ns ns.length ≤ 1048576) (h0 : 0 ≤ k) (h1 : k ≤ 1048576) :
    Calls Tryd.prog 24 #[.slice A ns.length c, .int .i64 k] w fun e w' => e = .returned (.int .i64 (k + (totTo ns ns.length : Nat))) ∧ w = w' := by
  have HR := Lib.hid hr
  clear hr
  have HT := Lib.hid (fun i (h : i ≤ ns.length) => show totTo ns i ≤ totTo ns ns.length by have := totTo_le ns i (ns.length - i); rw [show i + (ns.length - i) = ns.length by omega] at this; exact this)
  have HA := Lib.hid (marks2_at k ns)
  have HL := Lib.hid (marks2_len k ns)
  generalize hN : ns.length = n at *
  go_enter Tryd.func24, Tryd.ntmps24
  go_wp2_with fail
  go_loopw [1, 5] (fun q i wr => ∃ j : Nat, j ≤ n ∧ i = .int .i64 j ∧ q = .int .i64 (k + (totTo ns j : Nat)) ∧ wr = w) (fun _ i _ => n - (intOf i).toNat)
  case atStart => exact ⟨0, by omega, rfl, by simp [totTo], rfl⟩
  case round =>
    obtain ⟨j, hj, rfl, rfl, rfl⟩ := hrel
    by_cases hlt : j < n
    · obtain ⟨b, o, A', c', rfl, _, e1, r1, l1⟩ := HR.out j (by rw [HL.out]; exact hlt)
      rw [HA.out j hlt] at e1 r1 l1
      have hj1 : (j : Int) < (n : Int) := by omega
      have hj2 : (0 : Int) ≤ (j : Int) := by omega
      have t1 := HT.out j hj
      have t2 := HT.out (j + 1) hlt
      have HS := Lib.hid (show totTo ns (j + 1) = totTo ns j + ns.getD j 0 from rfl)
      rw [HS.out] at t2
      rw [marks_len] at e1
      generalize totTo ns j = t at *
      generalize ns.getD j 0 = m at *
      have HC := Lib.hid (heldIntS_calls A' c' m (k + (t : Nat)) _ r1 (by omega) (by omega) (by omega))
      clear r1 l1
      have hw0 : ¬ (k + (t : Int) + (m : Int) < 0) := by omega
      go_wp2_with (go_at_call 54; refine HC.out.mono ?_; rintro e w' ⟨rfl, rfl⟩)
      go_roundw
      case rel => exact ⟨j + 1, by omega, by go_num, by rw [HS.out]; congr 1; omega, trivial⟩
      case measure => simp [intOf]; omega
    · obtain rfl : j = n := by omega
      go_wp2_with fail
      go_ret
      exact ⟨rfl, rfl⟩
end Go.Proofs.YtnfpdonlknkccacDoor
