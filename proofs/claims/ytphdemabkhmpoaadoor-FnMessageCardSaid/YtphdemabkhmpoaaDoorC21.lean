/- Contracts of the exported functions of chapter 2 that go through the table. -/
import Derived.Test.YtphdemabkhmpoaaDoorC20
namespace Go.Proofs.YtphdemabkhmpoaaDoor
open Go.RowKit
set_option linter.unusedVariables false

def digB (n : Int) : Bool := decide (0 ≤ n ∧ n ≤ 3)
theorem digB_iff (n : Int) : digB n = true ↔ IsD n := by simp [digB, IsD]
theorem digB_no (n : Int) : digB n = false ↔ NoD n := by unfold digB NoD; simp; omega
def dMul (a b : Int) : Int := if digB a && digB b then mulD a b else -1
def hOf (a b c : Int) : List Int × Bool := if digB a && (digB b && digB c) then (hexRow a b c, true) else ([], false)
def hIn (xs : List Int) : Bool := rowB xs && hexB xs
def hTimes (xs : List Int) (n : Int) : List Int × Bool := if rowB xs && digB n then (mulR xs n, true) else ([], false)
def hInner (xs ys : List Int) : Int := if rowB xs && rowB ys then innR xs ys else -1
def hNear (xs : List Int) : List Int × Int × Bool := if rowB xs then ((nearTo xs 64).1, (nearTo xs 64).2, true) else ([], 0, false)
def GotLN (w : World) (xs : List Int) (n : Int) (b : Bool) (e : Ending) (w' : World) : Prop := ∃ v, e = .returned (.tuple #[v, .int .i64 n, .bool b]) ∧ Own w' w.heap.size v xs ∧ Below w.heap.size w w'
set_option maxHeartbeats 1000000 in
theorem iHexIn_calls (A : Option Addr) (c : Nat) (xs : List Int) (w : World) (ha : Rds w w.heap.size .i64 A xs) (hx : xs.length ≤ maxLen) (hT : TabP w) :
    Calls Tryd.prog 21 #[.slice A xs.length c] w fun e w' => e = .returned (.bool (hIn xs)) ∧ Below w.heap.size w w' := by
  rcases hb : rowB xs with _ | _
  · have HW := Lib.hid (show hIn xs = false by simp [hIn, hb])
    go_enter Tryd.func21, Tryd.ntmps21
    go_wp2_with fail
    refine (hexRowFrom_no _ _ xs _ ha hx ((rowB_no xs).1 hb)).mono ?_
    rintro e w1 ⟨rfl, b1⟩
    clear hb
    unfold noRow
    go_wp2_with fail
    go_ret
    exact ⟨ret_b HW.out.symm, b1.alloc b1.size _⟩
  · obtain ⟨d0, d1, d2, d3, d4, d5, rfl, h0, h1, h2, h3, h4, h5⟩ := ((rowB_iff xs).1 hb).six
    have HW := Lib.hid (show hIn [d0, d1, d2, d3, d4, d5] = hexB [d0, d1, d2, d3, d4, d5] by simp [hIn, hb])
    clear hb hx
    show Calls _ _ #[.slice _ 6 _] _ _
    go_enter Tryd.func21, Tryd.ntmps21
    go_wp2_with fail
    refine (hexRowFrom_ok _ _ d0 d1 d2 d3 d4 d5 _ ha h0 h1 h2 h3 h4 h5).mono ?_
    rintro e w1 ⟨rfl, b1⟩
    have s1 := b1.size
    go_wp2_with fail
    refine (inHexacode_calls d0 d1 d2 d3 d4 d5 _ h0 h1 h2 h3 h4 h5 ((hT.below b1 hT.lt).alloc _)).mono ?_
    rintro e w2 ⟨rfl, b2⟩
    rw [← HW.out]
    go_wp2_with fail
    go_ret
    exact ⟨rfl, (b1.alloc s1 _).trans (b2.mono (by simp only [alloc_sz]; omega))⟩
end Go.Proofs.YtphdemabkhmpoaaDoor
