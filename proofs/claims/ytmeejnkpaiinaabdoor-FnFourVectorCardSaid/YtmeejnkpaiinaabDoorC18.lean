/- Drawing digits and rows of six digits. -/
import Derived.Test.YtmeejnkpaiinaabDoorQ2
import Derived.Test.YtmeejnkpaiinaabDoorQ4
import Derived.Test.YtmeejnkpaiinaabDoorQ3
namespace Go.Proofs.YtmeejnkpaiinaabDoor
open Go.RowKit
set_option linter.unusedVariables false

theorem Own.cut {w : World} {B g n c m : Nat} {xs : List Int} (h : Own w B (.slice (some ⟨g, 0, none⟩) n c) xs) (hm : m ≤ xs.length) : Own w B (.slice (some ⟨g, 0, none⟩) m c) (xs.take m) := by
  rcases h.2 with ⟨h1, _⟩ | ⟨b, cap, cur, h1, h2, h3, h4, h5, h6, h7⟩
  · cases h1
  · simp only [Value.slice.injEq, Option.some.injEq, Addr.mk.injEq, and_true] at h1
    obtain ⟨rfl, rfl, rfl⟩ := h1
    refine ⟨by simp [vals], .inr ⟨g, c, cur, by simp [Nat.min_eq_left hm], h2, h3, by simp; omega, h5, h6, ?_⟩⟩
    have e : vals .i64 (xs.take m) = (vals .i64 xs).take m := by simp [vals, List.map_take]
    rw [e, ← h7, List.length_take, Nat.min_eq_left hm, List.take_take, Nat.mul_one, Nat.mul_one, Nat.min_eq_left hm]
/-- What drawing a row leaves: a list of at most six numbers in memory of its own; the reader has gone on. -/
def RowDrawn (g q : Nat) (w : World) (e : Ending) (w' : World) : Prop := ∃ (v : Value) (xs : List Int) (q' : Nat), e = .returned v ∧ Own w' w.heap.size v xs ∧ xs.length ≤ 6 ∧ q' ≤ q + 10 ∧ Rd w' g q' ∧ w.grownBy w' (some g)
def OneList (w : World) (m : Nat) (e : Ending) (w' : World) : Prop := ∃ (v : Value) (xs : List Int), e = .returned v ∧ Own w' w.heap.size v xs ∧ xs.length ≤ m ∧ Below w.heap.size w w'
def TwoLists (w : World) (m : Nat) (e : Ending) (w' : World) : Prop := ∃ (v v2 : Value) (xs ys : List Int), e = .returned (.tuple #[v, v2]) ∧ Own w' w.heap.size v xs ∧ xs.length ≤ m ∧ Own w' w.heap.size v2 ys ∧ ys.length ≤ m ∧ Below w.heap.size w w'
end Go.Proofs.YtmeejnkpaiinaabDoor
