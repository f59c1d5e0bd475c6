/- Sorting words by the library's own text: comparing, inserting. -/
import Derived.Test.YtmeejnkpaiinaacGreatDoorP0
import Derived.Test.YtmeejnkpaiinaacGreatDoorM30
import Derived.Deep.RegionWith
import Derived.Deep.RegionHeld3
import Derived.Lib.Hide
import Derived.Lib.Walk
import Derived.Laws.Rows
namespace Go.Proofs.YtmeejnkpaiinaacGreatDoor
open Go.RowKit Go.Sort
set_option linter.unusedVariables false

/-- Block g holds the words d, and then tl. -/
def RowB (W : World) (g : Nat) (t : TypeId) (tl : Array Value) (d : Array Int) : Prop := W.heap[g]? = some (.cells ((d.map (Value.int .u32)) ++ tl) t (0, 0))
section
variable {W W' : World} {g : Nat} {t : TypeId} {tl : Array Value} {d : Array Int}
theorem RowB.cell (h : RowB W g t tl d) {i : Nat} (hi : i < d.size) : W.cell? ⟨g, i, none⟩ = some (.int .u32 d[i]!) := by
  unfold RowB at h
  simp only [World.cell?, h]
  rw [Array.getElem?_append_left (by simpa using hi), Array.getElem?_map, Array.getElem?_eq_getElem hi, getElem!_pos d i hi]
  rfl
theorem RowB.free (h : RowB W g t tl d) (i : Nat) : W.frozen? ⟨g, i, none⟩ = false := Lib.frozen_of_heap h i
theorem RowB.lt (h : RowB W g t tl d) : g < W.heap.size := (Array.getElem?_eq_some_iff.1 h).1
theorem RowB.drewN (h : RowB W g t tl d) (n : Nat) : RowB (W.drewN n) g t tl d := h
theorem RowB.below (h : RowB W g t tl d) (hb : Below W.heap.size W W') : RowB W' g t tl d := (hb.block g h.lt).trans h
theorem RowB.set (h : RowB W g t tl d) {i : Nat} (hi : i < d.size) (x : Int) : RowB (W.setCell ⟨g, i, none⟩ (.int .u32 x)) g t tl (d.setIfInBounds i x) := by
  unfold RowB at *
  have := heap_setCell_same W g i _ t (.int .u32 x) h
  rw [this]
  congr 2
  apply Array.ext_getElem?
  intro k
  rw [Array.getElem?_setIfInBounds, Array.size_append, Array.size_map, Array.getElem?_append, Array.getElem?_append, Array.size_map, Array.size_map, Array.size_setIfInBounds, Array.getElem?_map, Array.getElem?_map, Array.getElem?_setIfInBounds]
  by_cases e : i = k
  · subst e
    simp [hi]
    omega
  · simp [e]
theorem RowB.swp (h : RowB W g t tl d) {i j : Nat} (hi : i < d.size) (hj : j < d.size) : RowB ((W.setCell ⟨g, i, none⟩ (.int .u32 d[j]!)).setCell ⟨g, j, none⟩ (.int .u32 d[i]!)) g t tl (Go.Sort.swp d i j) :=
  (h.set hi d[j]!).set (by simpa using hj) d[i]!
/-- Only block g has turned; new blocks may lie behind. -/
def Trn (g : Nat) (W W' : World) : Prop := W.grownBy W' (some g)
theorem Trn.refl (g : Nat) (W : World) : Trn g W W := World.grownBy.refl W _
theorem Trn.trans {W'' : World} (h : Trn g W W') (k : Trn g W' W'') : Trn g W W'' :=
  ⟨k.os.trans h.os, k.tape.trans h.tape, k.output.trans h.output, Nat.le_trans h.size k.size, fun q hq hr => (k.block q (Nat.lt_of_lt_of_le hq h.size) hr).trans (h.block q hq hr)⟩
theorem Trn.set (h : Trn g W W') (i : Nat) (u : Value) : Trn g W (W'.setCell ⟨g, i, none⟩ u) := h.trans ⟨rfl, rfl, rfl, by simp [World.setCell], fun k _ hk => Below.heap_setCell _ _ _ _ (fun e => hk (by simp [e]))⟩
theorem Trn.swp (h : Trn g W W') (i j : Nat) (u v : Value) : Trn g W ((W'.setCell ⟨g, i, none⟩ u).setCell ⟨g, j, none⟩ v) := (h.set i u).set j v
theorem Trn.drewN (h : Trn g W W') (n : Nat) : Trn g W (W'.drewN n) := ⟨h.os, h.tape, h.output, h.size, h.block⟩
end
end Go.Proofs.YtmeejnkpaiinaacGreatDoor
