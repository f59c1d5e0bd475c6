/- Vectors of the program: LatticeInner; lists over their cells. -/
import Derived.Test.YtiodikflmijhkaaC162
namespace Go.Proofs.Ytiodikflmijhkaa
open Go.RowKit
set_option linter.unusedVariables false
attribute [local irreducible] cN syn

theorem own_24V {w : World} {B g : Nat} (xs : List Int) (hl : xs.length = 24) (hg : w.heap[g]? = some (.cells (VL xs) 30 (0, 0))) (hB : B ≤ g) : OwnV w B (.slice (some ⟨g, 0, none⟩) 24 24) xs :=
  ⟨by simp [vals_len], .inr ⟨g, 24, _, by rw [hl], hB, hg, by simp [hl], by unfold maxLen; omega, by simp [VL, hl], by
    have : (vals .i64 xs).length ≤ xs.length * 1 := by rw [vals_len]; omega
    simp only [VL, vals, Nat.mul_one]
    rw [List.take_of_length_le (by simp)]⟩⟩
theorem own_blockV {w : World} {B g : Nat} {xs : List Int} (hl : xs.length = 24) (h : OwnV w B (.slice (some ⟨g, 0, none⟩) 24 24) xs) : w.heap[g]? = some (.cells (VL xs) 30 (0, 0)) := by
  rcases h.2 with ⟨h1, _⟩ | ⟨g', cap, cur, h1, h2, h3, h4, h5, h6, h7⟩
  · cases h1
  · simp only [Value.slice.injEq, Option.some.injEq, Addr.mk.injEq, and_true] at h1
    obtain ⟨rfl, _, rfl⟩ := h1
    rw [h3]
    rw [List.take_of_length_le (by rw [Array.length_toList, h6, hl]; omega)] at h7
    have : cur = VL xs := by
      apply Array.toList_inj.1
      rw [h7]
      simp [VL, vals]
    rw [this]
set_option maxHeartbeats 1000000 in
theorem vecList_calls (xs : List Int) (w : World) (hl : xs.length = 24) :
    Calls Try.prog 15 #[.agg (VL xs)] w fun e w' => ∃ v, e = .returned v ∧ OwnV w' w.heap.size v xs ∧ Below w.heap.size w w' := by
  have HB := Lib.hid ((Below.refl w.heap.size w).alloc (Nat.le_refl _) (.cells (VL xs) 30))
  have HO := Lib.hid (own_24V xs hl (Blk.new w 30 (VL xs)) (Nat.le_refl _))
  clear hl
  generalize hV : VL xs = V at *
  clear hV
  go_enter Try.func15, Try.ntmps15
  go_wp2_with fail
  go_ret
  exact ⟨_, rfl, HO.out, HB.out⟩
end Go.Proofs.Ytiodikflmijhkaa
