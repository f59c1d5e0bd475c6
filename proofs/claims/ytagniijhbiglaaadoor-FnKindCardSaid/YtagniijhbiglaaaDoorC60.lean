/- Drawing two sextets. -/
import Derived.Test.YtagniijhbiglaaaDoorC54
namespace Go.Proofs.YtagniijhbiglaaaDoor
open Go.RowKit
set_option linter.unusedVariables false
attribute [local irreducible] octS cN octF syn
set_option maxRecDepth 100000 in
set_option maxHeartbeats 1000000 in
theorem l92Sextets_calls (A : Option Addr) (c : Nat) (bs : List Int) (w : World) (hr : Rds w w.heap.size .u8 A bs) (hc : bs.length ≤ c) (hm : c ≤ maxLen) (hv : ∀ i, 0 ≤ bs.getD i 0 ∧ bs.getD i 0 ≤ 255) :
    Calls Tryd.prog 57 #[.slice A bs.length c] w fun e w' => ∃ (v v2 : Value) (xs ys : List Int), e = .returned (.tuple #[v, v2]) ∧ Own w' w.heap.size v xs ∧ Own w' w.heap.size v2 ys ∧ xs.length ≤ 6 ∧ ys.length ≤ 6 ∧ Below w.heap.size w w' := by
  go_enter Tryd.func57, Tryd.ntmps57
  go_wp2_with fail
  refine (l6Open_calls A c bs _ hr hc hm hv).mono ?_
  rintro e w1 ⟨g, rfl, hg, r1, b1⟩
  go_wp2_with fail
  refine (l92Sextet_calls g 0 _ r1 (by omega)).mono ?_
  rintro e w2 ⟨v, xs, q1, rfl, o2, hl, hq1, r2, g2⟩
  have hlt : g < w1.heap.size := by obtain ⟨A, c, bs, hbk, _⟩ := r1; exact (Array.getElem?_eq_some_iff.1 hbk).1
  have hs1 := b1.size
  have HB2 := Lib.hid (b1.trans (grown_below g2 hg b1.size))
  have hs2 : w1.heap.size ≤ w2.heap.size := g2.size
  obtain ⟨A2, c2, rfl⟩ := o2.slice
  have HO2 := Lib.hid o2
  have HL := Lib.hid hl
  have R2 := Lib.hid r2
  clear o2 b1 r1 r2 g2 hl
  by_cases h6 : xs.length = 6
  · have hl6 : ((xs.length : Nat) : Int) = 6 := by omega
    clear h6
    have HP := Lib.hid (pick_calls g q1 4 w2 R2.out (by omega) (by omega) (by omega))
    generalize hn : xs.length = n at *
    have HN := Lib.hid hn
    clear hn
    go_wp2_with fail
    refine HP.out.mono ?_
    rintro e w3 ⟨m, rfl, m0, m1, r3, g3⟩
    have HO3 := Lib.hid (HO2.out.grownG g3 hlt)
    have HB3 := Lib.hid (HB2.out.trans (grown_below g3 hg HB2.out.size))
    have R3 := Lib.hid r3
    have hs3 : w2.heap.size ≤ w3.heap.size := g3.size
    clear r3 g3
    by_cases hm0 : m = 0
    · subst hm0
      go_wp2_with fail
      go_ret2
      exact ⟨_, _, xs, xs, rfl, HO3.out.weak hs1, HO3.out.weak hs1, by rw [HN.out]; exact HL.out, by rw [HN.out]; exact HL.out, HB3.out⟩
    · have hm1 : (m == 0) = false := by simpa using hm0
      clear hm0
      go_wp2_with fail
      refine (l92Sextet_calls g _ _ R3.out (by omega)).mono ?_
      rintro e w4 ⟨v4, ys, q2, rfl, o4, hl4, hq2, r4, g4⟩
      have HO4 := Lib.hid (HO3.out.grownG g4 hlt)
      have HB4 := Lib.hid (HB3.out.trans (grown_below g4 hg HB3.out.size))
      have HY := Lib.hid (o4.weak (show w.heap.size ≤ w3.heap.size by omega))
      clear g4 o4
      go_wp2_with fail
      go_ret2
      exact ⟨_, _, xs, ys, rfl, HO4.out.weak hs1, HY.out, by rw [HN.out]; exact HL.out, hl4, HB4.out⟩
  · have h61 : (((xs.length : Nat) : Int) == 6) = false := by simp; omega
    clear h6
    generalize hn : xs.length = n at *
    go_wp2_with fail
    refine (l92Sextet_calls g _ _ R2.out (by omega)).mono ?_
    rintro e w4 ⟨v4, ys, q2, rfl, o4, hl4, hq2, r4, g4⟩
    have HO4 := Lib.hid (HO2.out.grownG g4 hlt)
    have HB4 := Lib.hid (HB2.out.trans (grown_below g4 hg HB2.out.size))
    have HY := Lib.hid (o4.weak (show w.heap.size ≤ w2.heap.size by omega))
    clear g4 o4
    go_wp2_with fail
    go_ret2
    exact ⟨_, _, xs, ys, rfl, HO4.out.weak hs1, HY.out, by rw [hn]; exact HL.out, hl4, HB4.out⟩
theorem DrawSextetTable_calls (A : Option Addr) (c : Nat) (bs : List Int) (w : World) (hr : Rds w w.heap.size .u8 A bs) (hc : bs.length ≤ c) (hm : c ≤ maxLen) (hv : ∀ i, 0 ≤ bs.getD i 0 ∧ bs.getD i 0 ≤ 255) :
    Calls Tryd.prog 20 #[.slice A bs.length c] w fun e w' => ∃ (v v2 : Value) (xs ys : List Int), e = .returned (.tuple #[v, v2]) ∧ Own w' w.heap.size v xs ∧ Own w' w.heap.size v2 ys ∧ xs.length ≤ 6 ∧ ys.length ≤ 6 ∧ Below w.heap.size w w' := by
  go_enter Tryd.func20, Tryd.ntmps20
  go_wp2_with fail
  refine (l92Sextets_calls A c bs _ hr hc hm hv).mono ?_
  rintro e w1 ⟨v, v2, xs, ys, rfl, o1, o2, h1, h2, b1⟩
  go_wp2_with fail
  go_ret2
  exact ⟨v, v2, xs, ys, rfl, o1, o2, h1, h2, b1⟩
theorem DrawSextetKind_calls (A : Option Addr) (c : Nat) (bs : List Int) (w : World) (hr : Rds w w.heap.size .u8 A bs) (hc : bs.length ≤ c) (hm : c ≤ maxLen) (hv : ∀ i, 0 ≤ bs.getD i 0 ∧ bs.getD i 0 ≤ 255) :
    Calls Tryd.prog 23 #[.slice A bs.length c] w fun e w' => ∃ (v v2 : Value) (xs ys : List Int), e = .returned (.tuple #[v, v2]) ∧ Own w' w.heap.size v xs ∧ Own w' w.heap.size v2 ys ∧ xs.length ≤ 6 ∧ ys.length ≤ 6 ∧ Below w.heap.size w w' := by
  go_enter Tryd.func23, Tryd.ntmps23
  go_wp2_with fail
  refine (l92Sextets_calls A c bs _ hr hc hm hv).mono ?_
  rintro e w1 ⟨v, v2, xs, ys, rfl, o1, o2, h1, h2, b1⟩
  go_wp2_with fail
  go_ret2
  exact ⟨v, v2, xs, ys, rfl, o1, o2, h1, h2, b1⟩
end Go.Proofs.YtagniijhbiglaaaDoor
