/- Drawing the arguments of chapter 9. -/
import Derived.Test.YtmeejnkpaiinaabDoorC169
import Derived.Test.YtmeejnkpaiinaabDoorC29
namespace Go.Proofs.YtmeejnkpaiinaabDoor
open Go.RowKit
set_option linter.unusedVariables false
attribute [local irreducible] cN syn octS octF

theorem DrawLatticeIn_calls (A : Option Addr) (c : Nat) (bs : List Int) (w : World) (hr : Rds w w.heap.size .u8 A bs) (hc : bs.length ≤ c) (hm : c ≤ maxLen) (hv : ∀ i, 0 ≤ bs.getD i 0 ∧ bs.getD i 0 ≤ 255) :
    Calls Tryd.prog 10 #[.slice A bs.length c] w fun e w' => ∃ (v : Value) (xs : List Int), e = .returned v ∧ Own w' w.heap.size v xs ∧ xs.length ≤ 24 ∧ Below w.heap.size w w' := by
  go_enter Tryd.func10, Tryd.ntmps10
  go_wp2_with fail
  refine (l6Open_calls A c bs _ hr hc hm hv).mono ?_
  rintro e w1 ⟨g, rfl, hg, r1, b1⟩
  go_wp2_with fail
  refine (l92Vector_calls g 0 _ r1 (by omega)).mono ?_
  rintro e w2 ⟨v, xs, q1, rfl, o2, hl, hq1, r2, g2⟩
  go_wp2_with fail
  go_ret
  exact ⟨v, xs, rfl, o2.weak b1.size, hl, b1.trans (grown_below g2 hg b1.size)⟩
theorem l92Vectors_calls (A : Option Addr) (c : Nat) (bs : List Int) (w : World) (hr : Rds w w.heap.size .u8 A bs) (hc : bs.length ≤ c) (hm : c ≤ maxLen) (hv : ∀ i, 0 ≤ bs.getD i 0 ∧ bs.getD i 0 ≤ 255) :
    Calls Tryd.prog 45 #[.slice A bs.length c] w fun e w' => ∃ (v v2 : Value) (xs ys : List Int), e = .returned (.tuple #[v, v2]) ∧ Own w' w.heap.size v xs ∧ xs.length ≤ 24 ∧ Own w' w.heap.size v2 ys ∧ ys.length ≤ 24 ∧ Below w.heap.size w w' := by
  go_enter Tryd.func45, Tryd.ntmps45
  go_wp2_with fail
  refine (l6Open_calls A c bs _ hr hc hm hv).mono ?_
  rintro e w1 ⟨g, rfl, hg, r1, b1⟩
  go_wp2_with fail
  refine (l92Vector_calls g 0 _ r1 (by omega)).mono ?_
  rintro e w2 ⟨v, xs, q1, rfl, o2, hl, hq1, r2, g2⟩
  go_wp2_with fail
  refine (l92Vector_calls g q1 _ r2 (by omega)).mono ?_
  rintro e w3 ⟨v2, ys, q2, rfl, o3, hl2, hq2, r3, g3⟩
  go_wp2_with fail
  go_ret2
  exact ⟨v, v2, xs, ys, rfl, (o2.grownG g3 r1.lt).weak b1.size, hl, o3.weak (Nat.le_trans b1.size g2.size), hl2, (b1.trans (grown_below g2 hg b1.size)).trans (grown_below g3 hg (Nat.le_trans b1.size g2.size))⟩
theorem DrawLatticeAdd_calls (A : Option Addr) (c : Nat) (bs : List Int) (w : World) (hr : Rds w w.heap.size .u8 A bs) (hc : bs.length ≤ c) (hm : c ≤ maxLen) (hv : ∀ i, 0 ≤ bs.getD i 0 ∧ bs.getD i 0 ≤ 255) :
    Calls Tryd.prog 15 #[.slice A bs.length c] w fun e w' => ∃ (v v2 : Value) (xs ys : List Int), e = .returned (.tuple #[v, v2]) ∧ Own w' w.heap.size v xs ∧ xs.length ≤ 24 ∧ Own w' w.heap.size v2 ys ∧ ys.length ≤ 24 ∧ Below w.heap.size w w' := by
  go_enter Tryd.func15, Tryd.ntmps15
  go_wp2_with fail
  refine (l92Vectors_calls A c bs _ hr hc hm hv).mono ?_
  rintro e w1 ⟨v, v2, xs, ys, rfl, o1, hl, o2, hl2, b1⟩
  go_wp2_with fail
  go_ret2
  exact ⟨v, v2, xs, ys, rfl, o1, hl, o2, hl2, b1⟩
theorem DrawLatticeInner_calls (A : Option Addr) (c : Nat) (bs : List Int) (w : World) (hr : Rds w w.heap.size .u8 A bs) (hc : bs.length ≤ c) (hm : c ≤ maxLen) (hv : ∀ i, 0 ≤ bs.getD i 0 ∧ bs.getD i 0 ≤ 255) :
    Calls Tryd.prog 19 #[.slice A bs.length c] w fun e w' => ∃ (v v2 : Value) (xs ys : List Int), e = .returned (.tuple #[v, v2]) ∧ Own w' w.heap.size v xs ∧ xs.length ≤ 24 ∧ Own w' w.heap.size v2 ys ∧ ys.length ≤ 24 ∧ Below w.heap.size w w' := by
  go_enter Tryd.func19, Tryd.ntmps19
  go_wp2_with fail
  refine (l92Vectors_calls A c bs _ hr hc hm hv).mono ?_
  rintro e w1 ⟨v, v2, xs, ys, rfl, o1, hl, o2, hl2, b1⟩
  go_wp2_with fail
  go_ret2
  exact ⟨v, v2, xs, ys, rfl, o1, hl, o2, hl2, b1⟩
theorem DrawLatticeFlip_calls (A : Option Addr) (c : Nat) (bs : List Int) (w : World) (hr : Rds w w.heap.size .u8 A bs) (hc : bs.length ≤ c) (hm : c ≤ maxLen) (hv : ∀ i, 0 ≤ bs.getD i 0 ∧ bs.getD i 0 ≤ 255) :
    Calls Tryd.prog 21 #[.slice A bs.length c] w fun e w' => ∃ (v : Value) (xs : List Int) (n : Int), e = .returned (.tuple #[v, .int .i64 n]) ∧ Own w' w.heap.size v xs ∧ xs.length ≤ 24 ∧ Below w.heap.size w w' := by
  go_enter Tryd.func21, Tryd.ntmps21
  go_wp2_with fail
  refine (l6Open_calls A c bs _ hr hc hm hv).mono ?_
  rintro e w1 ⟨g, rfl, hg, r1, b1⟩
  go_wp2_with fail
  refine (l92Vector_calls g 0 _ r1 (by omega)).mono ?_
  rintro e w2 ⟨v, xs, q1, rfl, o2, hl, hq1, r2, g2⟩
  go_wp2_with fail
  refine (pick_calls g q1 2 _ r2 (by omega) (by omega) (by omega)).mono ?_
  rintro e w3 ⟨a, rfl, a0, a1, r3, g3⟩
  have HB := Lib.hid ((b1.trans (grown_below g2 hg b1.size)).trans (grown_below g3 hg (Nat.le_trans b1.size g2.size)))
  have HO := Lib.hid ((o2.grownG g3 r1.lt).weak b1.size)
  have hgw := r1.lt
  have HR := Lib.hid r3
  have HO1 := Lib.hid (o2.grownG g3 r1.lt)
  have hsz1 := b1.size
  clear g2 g3 r2 r3 o2 b1
  by_cases h0 : a = 0
  · subst h0
    go_wp2_with fail
    refine (l91Code_calls g _ _ HR.out (by omega)).mono ?_
    rintro e w4 ⟨n, rfl, _, _, r4, g4⟩
    go_wp2_with fail
    go_ret2
    exact ⟨v, xs, n, rfl, (HO1.out.grownG g4 hgw).weak hsz1, hl, HB.out.trans (grown_below g4 hg HB.out.size)⟩
  · have e0 : (a == 0) = false := by simpa using h0
    go_wp2_with fail
    refine (l91Word_calls g _ _ HR.out (by omega)).mono ?_
    rintro e w4 ⟨n, q4, rfl, _, _, _, r4, g4⟩
    go_wp2_with fail
    go_ret2
    exact ⟨v, xs, n, rfl, (HO1.out.grownG g4 hgw).weak hsz1, hl, HB.out.trans (grown_below g4 hg HB.out.size)⟩
theorem DrawLatticeOctad_calls (A : Option Addr) (c : Nat) (bs : List Int) (w : World) (hr : Rds w w.heap.size .u8 A bs) (hc : bs.length ≤ c) (hm : c ≤ maxLen) (hv : ∀ i, 0 ≤ bs.getD i 0 ∧ bs.getD i 0 ≤ 255) :
    Calls Tryd.prog 24 #[.slice A bs.length c] w fun e w' => ∃ n s : Int, e = .returned (.tuple #[.int .i64 n, .int .i64 s]) ∧ Below w.heap.size w w' := by
  go_enter Tryd.func24, Tryd.ntmps24
  go_wp2_with fail
  refine (l6Open_calls A c bs _ hr hc hm hv).mono ?_
  rintro e w1 ⟨g, rfl, hg, r1, b1⟩
  go_wp2_with fail
  refine (l91Octad_calls g 0 _ r1 (by omega)).mono ?_
  rintro e w2 ⟨n, q1, rfl, _, _, hq1, r2, g2⟩
  go_wp2_with fail
  refine (pick_calls g q1 129 _ r2 (by omega) (by omega) (by omega)).mono ?_
  rintro e w3 ⟨a, rfl, a0, a1, r3, g3⟩
  go_wp2_with fail
  go_ret2
  exact ⟨n, a, rfl, (b1.trans (grown_below g2 hg b1.size)).trans (grown_below g3 hg (Nat.le_trans b1.size g2.size))⟩
theorem DrawLatticeThree_calls (A : Option Addr) (c : Nat) (bs : List Int) (w : World) (hr : Rds w w.heap.size .u8 A bs) (hc : bs.length ≤ c) (hm : c ≤ maxLen) (hv : ∀ i, 0 ≤ bs.getD i 0 ∧ bs.getD i 0 ≤ 255) :
    Calls Tryd.prog 27 #[.slice A bs.length c] w fun e w' => ∃ n s : Int, e = .returned (.tuple #[.int .i64 n, .int .i64 s]) ∧ Below w.heap.size w w' := by
  go_enter Tryd.func27, Tryd.ntmps27
  go_wp2_with fail
  refine (l6Open_calls A c bs _ hr hc hm hv).mono ?_
  rintro e w1 ⟨g, rfl, hg, r1, b1⟩
  go_wp2_with fail
  refine (DrawCodeMessage_calls A c bs _ ((hr.below b1).more b1.size) hc hm hv).mono ?_
  rintro e w2 ⟨n, rfl, _, _, b2⟩
  have r2 := r1.below b2
  go_wp2_with fail
  refine (pick_calls g 0 25 _ r2 (by omega) (by omega) (by omega)).mono ?_
  rintro e w3 ⟨a, rfl, a0, a1, r3, g3⟩
  go_wp2_with fail
  go_ret2
  exact ⟨n, a, rfl, (b1.trans (b2.mono b1.size)).trans (grown_below g3 hg (Nat.le_trans b1.size b2.size))⟩
theorem DrawLatticeFour_calls (A : Option Addr) (c : Nat) (bs : List Int) (w : World) (hr : Rds w w.heap.size .u8 A bs) (hc : bs.length ≤ c) (hm : c ≤ maxLen) (hv : ∀ i, 0 ≤ bs.getD i 0 ∧ bs.getD i 0 ≤ 255) :
    Calls Tryd.prog 30 #[.slice A bs.length c] w fun e w' => ∃ (p q : Int) (f g : Bool), e = .returned (.tuple #[.int .i64 p, .int .i64 q, .bool f, .bool g]) ∧ Below w.heap.size w w' := by
  go_enter Tryd.func30, Tryd.ntmps30
  go_wp2_with fail
  refine (l6Open_calls A c bs _ hr hc hm hv).mono ?_
  rintro e w1 ⟨g, rfl, hg, r1, b1⟩
  go_wp2_with fail
  refine (pick_calls g 0 25 _ r1 (by omega) (by omega) (by omega)).mono ?_
  rintro e w2 ⟨a, rfl, _, _, r2, g2⟩
  go_wp2_with fail
  refine (pick_calls g _ 24 _ r2 (by omega) (by omega) (by omega)).mono ?_
  rintro e w3 ⟨b, rfl, _, _, r3, g3⟩
  go_wp2_with fail
  refine (pick_calls g _ 2 _ r3 (by omega) (by omega) (by omega)).mono ?_
  rintro e w4 ⟨x, rfl, _, _, r4, g4⟩
  go_wp2_with fail
  refine (pick_calls g _ 2 _ r4 (by omega) (by omega) (by omega)).mono ?_
  rintro e w5 ⟨y, rfl, _, _, r5, g5⟩
  have G := grown_trans (grown_trans (grown_trans g2 g3) g4) g5
  have B := b1.trans (grown_below G hg b1.size)
  clear g2 g3 g4 g5 r1 r2 r3 r4 r5 G b1
  go_wp2_with fail
  exact bodyPost_ret (v := .tuple #[.int .i64 a, .int .i64 b, .bool (x == 0), .bool (y == 0)]) (by simp [results, Tryd.results30, go_sem]) rfl ⟨a, b, x == 0, y == 0, rfl, B⟩
end Go.Proofs.YtmeejnkpaiinaabDoor
