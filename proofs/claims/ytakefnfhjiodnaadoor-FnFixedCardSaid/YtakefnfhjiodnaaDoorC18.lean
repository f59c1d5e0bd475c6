/- Drawing digits and rows of six digits. -/
import Derived.Test.YtakefnfhjiodnaaDoorQ2
import Derived.Test.YtakefnfhjiodnaaDoorQ4
import Derived.Test.YtakefnfhjiodnaaDoorQ3
namespace Go.Proofs.YtakefnfhjiodnaaDoor
open Go.RowKit
set_option linter.unusedVariables false

theorem Own.cut {w : World} {B g n c m : Nat} {xs : List Int} (h : Own w B (.slice (some ⟨g, 0, none⟩) n c) xs) (hm : m ≤ xs.length) : Own w B (.slice (some ⟨g, 0, none⟩) m c) (xs.take m) := by
  rcases h.2 with ⟨h1, _⟩ | ⟨b, cap, cur, h1, h2, h3, h4, h5, h6, h7⟩
  · cases h1
  · simp only [Value.slice.injEq, Option.some.injEq, Addr.mk.injEq, and_true] at h1
    obtain ⟨rfl, rfl, rfl⟩ := h1
    refine ⟨by simp [vals], .inr ⟨g, c, cur, by simp [Nat.min_eq_left hm], h2, h3, by simp; omega, h5, h6, ?_⟩⟩
    have e : vals .i64 (xs.take m) = (vals .i64 xs).take m := by simp [vals, List.map_take]
    rw [e, ← h7, List.length_take, Nat.min_eq_left hm, List.take_take, Nat.mul_one, Nat.mul_one, Nat.min_eq_left hm]
/-- What drawing a row leaves: a list of at most six numbers in memory of its own; the reader has gone on. -/
def RowDrawn (g q : Nat) (w : World) (e : Ending) (w' : World) : Prop := ∃ (v : Value) (xs : List Int) (q' : Nat), e = .returned v ∧ Own w' w.heap.size v xs ∧ xs.length ≤ 6 ∧ q' ≤ q + 10 ∧ Rd w' g q' ∧ w.grownBy w' (some g)
set_option maxHeartbeats 2000000 in
theorem l91Row_calls (g q : Nat) (w : World) (h : Rd w g q) (hq : q ≤ 1000000) :
    Calls Tryd.prog 80 #[.pointer (some ⟨g, 0, none⟩)] w (RowDrawn g q w) := by
  have hgl := h.lt
  go_enter Tryd.func80, Tryd.ntmps80
  go_wp2_with fail
  refine (pick_calls g q 4 _ h (by omega) (by omega) (by omega)).mono ?_
  rintro e w1 ⟨a, rfl, a0, a1, r1, g1⟩
  go_wp2_with fail
  refine (pick_calls g _ 4 _ r1 (by omega) (by omega) (by omega)).mono ?_
  rintro e w2 ⟨b, rfl, b0, b1, r2, g2⟩
  go_wp2_with fail
  refine (pick_calls g _ 4 _ r2 (by omega) (by omega) (by omega)).mono ?_
  rintro e w3 ⟨d, rfl, d0, d1, r3, g3⟩
  have G3 := grown_trans g1 (grown_trans g2 g3)
  go_wp2_with fail
  refine (l2Of_calls _ _ _ _ (by omega) (by omega) (by omega) (by omega) (by omega) (by omega)).mono ?_
  rintro e w4 ⟨v, rfl, o4, b4⟩
  have hlen : (hexRow a b d).length = 6 := rfl
  generalize hexRow a b d = xs at *
  obtain ⟨gg, cap, rfl, hg1, hg2, hg3⟩ : ∃ gg cap, v = .slice (some ⟨gg, 0, none⟩) 6 cap ∧ w3.heap.size ≤ gg ∧ gg < w4.heap.size ∧ 6 ≤ cap := by
    rcases o4.form with ⟨_, h⟩ | ⟨gg, cap, h, h2, h3, h4, _⟩
    · subst h; cases hlen
    · rw [hlen] at h; exact ⟨gg, cap, h, h2, h3, by omega⟩
  have HO := Lib.hid (o4.weak (show w.heap.size ≤ w3.heap.size from G3.size))
  have HR := Lib.hid (r3.below b4)
  have HG := Lib.hid (grown_then_below G3 (b4.mono G3.size))
  have HL := Lib.hid hlen
  have hs3 := G3.size
  clear o4 b4 r1 r2 r3 g1 g2 g3 G3 h hlen
  go_wp2_with fail
  refine (pick_calls g _ 8 _ HR.out (by omega) (by omega) (by omega)).mono ?_
  rintro e w5 ⟨k, rfl, k0, k1, r5, g5⟩
  have HO5 := Lib.hid (HO.out.grownG g5 hgl)
  have HG5 := Lib.hid (grown_trans HG.out g5)
  have HR5 := Lib.hid r5
  have hs5 := HG5.out.size
  have hs45 := g5.size
  clear HO HG HR r5 g5
  by_cases e0 : k = 0
  · subst e0
    go_wp2_with fail
    refine (pick_calls g _ 6 _ HR5.out (by omega) (by omega) (by omega)).mono ?_
    rintro e w6 ⟨m, rfl, m0, m1, r6, g6⟩
    go_wp2_with fail
    refine (pick_calls g _ 5 _ r6 (by omega) (by omega) (by omega)).mono ?_
    rintro e w7 ⟨z, rfl, z0, z1, r7, g7⟩
    have O7 := HO5.out.grownG (grown_trans g6 g7) hgl
    have HG7 := Lib.hid (grown_trans HG5.out (grown_trans g6 g7))
    have HR7 := Lib.hid r7
    obtain ⟨j, rfl⟩ := Int.eq_ofNat_of_zero_le m0
    have hj : j < xs.length := by rw [HL.out]; omega
    have cj := O7.cell hj
    have fj := O7.free j
    have HO7 := Lib.hid O7
    clear O7 HO5 HG5 HR5 r6 r7 g6 g7 hj
    go_wp2_with fail
    go_ret
    exact ⟨_, xs.set j z, _, rfl, by rw [show (6 : Nat) = (xs.set j z).length by simp [HL.out]]; simpa [HL.out] using HO7.out.set j z, by simp [HL.out], by omega, HR7.out.keep ((Below.refl _ _).setCell (p := ⟨gg, j, none⟩) (by show g + 1 ≤ gg; omega) _), grown_then_below HG7.out ((Below.refl _ _).setCell (p := ⟨gg, j, none⟩) (by show w.heap.size ≤ gg; omega) _)⟩
  · have n0 : (k == 0) = false := by simpa using e0
    clear e0
    by_cases e1 : k = 1
    · subst e1
      go_wp2_with fail
      go_ret
      refine ⟨_, xs.take 5, _, rfl, HO5.out.cut (by rw [HL.out]; omega), by simp; omega, by omega, HR5.out, HG5.out⟩
    · have n1 : (k == 1) = false := by simpa using e1
      clear e1
      by_cases e2 : k = 2
      · subst e2
        go_wp2_with fail
        refine (pick_calls g _ 6 _ HR5.out (by omega) (by omega) (by omega)).mono ?_
        rintro e w6 ⟨m, rfl, m0, m1, r6, g6⟩
        go_wp2_with fail
        refine (pick_calls g _ 4 _ r6 (by omega) (by omega) (by omega)).mono ?_
        rintro e w7 ⟨z, rfl, z0, z1, r7, g7⟩
        have O7 := HO5.out.grownG (grown_trans g6 g7) hgl
        have HG7 := Lib.hid (grown_trans HG5.out (grown_trans g6 g7))
        have HR7 := Lib.hid r7
        obtain ⟨j, rfl⟩ := Int.eq_ofNat_of_zero_le m0
        have hj : j < xs.length := by rw [HL.out]; omega
        have cj := O7.cell hj
        have fj := O7.free j
        have HO7 := Lib.hid O7
        clear O7 HO5 HG5 HR5 r6 r7 g6 g7 hj
        go_wp2_with fail
        go_ret
        exact ⟨_, xs.set j z, _, rfl, by rw [show (6 : Nat) = (xs.set j z).length by simp [HL.out]]; simpa [HL.out] using HO7.out.set j z, by simp [HL.out], by omega, HR7.out.keep ((Below.refl _ _).setCell (p := ⟨gg, j, none⟩) (by show g + 1 ≤ gg; omega) _), grown_then_below HG7.out ((Below.refl _ _).setCell (p := ⟨gg, j, none⟩) (by show w.heap.size ≤ gg; omega) _)⟩
      · have n2 : (k == 2) = false := by simpa using e2
        clear e2
        go_wp2_with fail
        go_ret
        exact ⟨_, xs, _, rfl, by rw [← HL.out]; simpa [HL.out] using HO5.out, by rw [HL.out]; omega, by omega, HR5.out, HG5.out⟩
def OneList (w : World) (m : Nat) (e : Ending) (w' : World) : Prop := ∃ (v : Value) (xs : List Int), e = .returned v ∧ Own w' w.heap.size v xs ∧ xs.length ≤ m ∧ Below w.heap.size w w'
def TwoLists (w : World) (m : Nat) (e : Ending) (w' : World) : Prop := ∃ (v v2 : Value) (xs ys : List Int), e = .returned (.tuple #[v, v2]) ∧ Own w' w.heap.size v xs ∧ xs.length ≤ m ∧ Own w' w.heap.size v2 ys ∧ ys.length ≤ m ∧ Below w.heap.size w w'
end Go.Proofs.YtakefnfhjiodnaaDoor
