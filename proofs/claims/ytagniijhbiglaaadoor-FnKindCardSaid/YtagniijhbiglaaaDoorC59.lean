/- Tables of two lists, of the program: the exported function. -/
import Derived.Test.YtagniijhbiglaaaDoorC58
namespace Go.Proofs.YtagniijhbiglaaaDoor
open Go.RowKit Go.Shelf
set_option linter.unusedVariables false
attribute [local irreducible] octS cN octF syn

set_option maxRecDepth 100000 in
set_option maxHeartbeats 1000000 in
theorem iSextetTable_calls (A A2 : Option Addr) (c c2 : Nat) (xs ys : List Int) (w : World) (ha : Rds w w.heap.size .i64 A xs) (hx : xs.length ≤ maxLen) (hb : Rds w w.heap.size .i64 A2 ys) (hy : ys.length ≤ maxLen) (hT : Tab2 w) :
    Calls Tryd.prog 21 #[.slice A xs.length c, .slice A2 ys.length c2] w (GotL w (tabA xs ys).1 (tabA xs ys).2) := by
  have HF := Lib.hid (tableFrom_calls A A2 c c2 xs ys w ha hx hb hy hT)
  have hl := tfL_len xs ys
  have HL := Lib.hid (tbList_calls (tfL xs ys) hl)
  have hsz : (V36 (tfL xs ys)).size = 36 := by simp [V36, hl]
  have HI := Lib.hid (show (Tryd.prog.info? 66).map (·.size) = some (V36 (tfL xs ys)).size by rw [hsz]; exact tbInfo)
  have HALL := Lib.hid (V36_all (tfL xs ys))
  have HSZ := Lib.hid hsz
  rcases h1 : (sxB xs && sxB ys) with _ | _
  · rw [show tabA xs ys = ([], false) by unfold tabA; rw [h1]; rfl]
    rw [h1] at HF
    generalize V36 (tfL xs ys) = T at *
    clear ha hx hb hy h1 hl hsz HL
    generalize xs.length = n at *
    generalize ys.length = n2 at *
    go_enter Tryd.func21, Tryd.ntmps21
    go_wp2_with fail
    refine HF.out.mono ?_
    rintro e w1 ⟨rfl, b1⟩
    have HN := Lib.hid (Blk.new w1 66 (V36 z36))
    have HB := Lib.hid (b1.alloc b1.size (.cells (V36 z36) 66))
    have hw1 := b1.size
    clear b1
    go_wp2_with (refine wpList_store_row rfl 66 _ _ rfl w1.heap.size T rfl rfl 66 (V36 z36) HN.out HI.out (by rw [HSZ.out]; rfl) HALL.out ?_)
    go_ret2
    exact ⟨_, rfl, Own.nil_ _ _, below_setRow HB.out hw1⟩
  · rw [show tabA xs ys = (tab36 xs ys, true) by unfold tabA; rw [h1]; rfl]
    rw [h1] at HF
    have htf : tfL xs ys = tab36 xs ys := by unfold tfL; rw [h1]; rfl
    rw [htf] at HF HL HI HALL HSZ
    generalize V36 (tab36 xs ys) = T at *
    generalize tab36 xs ys = Z at *
    clear ha hx hb hy h1 hl hsz htf
    generalize xs.length = n at *
    generalize ys.length = n2 at *
    go_enter Tryd.func21, Tryd.ntmps21
    go_wp2_with fail
    refine HF.out.mono ?_
    rintro e w1 ⟨rfl, b1⟩
    have HN := Lib.hid (Blk.new w1 66 (V36 z36))
    have HB := Lib.hid (b1.alloc b1.size (.cells (V36 z36) 66))
    have hw1 := b1.size
    clear b1
    have HN2 := Lib.hid (setRow_heap _ _ _ T _ _ HN.out)
    have HB2 := Lib.hid (below_setRow (T := T) HB.out hw1)
    go_wp2_with (first
      | (refine wpList_store_row rfl 66 _ _ rfl w1.heap.size T rfl rfl 66 (V36 z36) HN.out HI.out (by rw [HSZ.out]; rfl) HALL.out ?_)
      | (refine wpList_load_row rfl 66 _ rfl w1.heap.size rfl 66 T (0, 0) _ HN2.out Tryd.underlying66 rfl HI.out ?_))
    refine (HL.out _).mono ?_
    rintro e w2 ⟨v, rfl, o2, b2⟩
    go_wp2_with fail
    go_ret2
    exact ⟨_, rfl, o2.weak HB2.out.size, HB2.out.trans (b2.mono HB2.out.size)⟩
end Go.Proofs.YtagniijhbiglaaaDoor
