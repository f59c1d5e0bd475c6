/- Tables of two lists, of the program. -/
import Derived.Test.YtagniijhbiglaaaDoorC57
namespace Go.Proofs.YtagniijhbiglaaaDoor
open Go.RowKit Go.Shelf
set_option linter.unusedVariables false
attribute [local irreducible] octS cN octF syn

def tfL (xs ys : List Int) : List Int := if sxB xs && sxB ys then tab36 xs ys else z36
theorem tfL_len (xs ys : List Int) : (tfL xs ys).length = 36 := by
  unfold tfL
  split
  · simp [tab36]
  · rfl
theorem sx_words2 {xs : List Int} (h : sxB xs = true) : xs.length = 6 ∧ ∀ j, j < 6 → IsW (xs.getD j 0) := by
  obtain ⟨u, hu, rfl⟩ := (sxB_iff xs).1 h
  exact ⟨sxOf_len hu, fun j hj => by have := (sxOf_same hu (sx_at hu j hj)).1; exact ⟨this.1, this.2.1⟩⟩
theorem z36_size : (V36 z36).size = 36 := rfl
theorem z36_info : (Tryd.prog.info? 66).map (·.size) = some (V36 z36).size := by rw [z36_size]; exact tbInfo
set_option maxRecDepth 100000 in
set_option maxHeartbeats 2000000 in
theorem tableFrom_calls (A A2 : Option Addr) (c c2 : Nat) (xs ys : List Int) (w : World) (ha : Rds w w.heap.size .i64 A xs) (hx : xs.length ≤ maxLen) (hb : Rds w w.heap.size .i64 A2 ys) (hy : ys.length ≤ maxLen) (hT : Tab2 w) :
    Calls Tryd.prog 58 #[.slice A xs.length c, .slice A2 ys.length c2] w fun e w' => e = .returned (.tuple #[.agg (V36 (tfL xs ys)), .bool (sxB xs && sxB ys)]) ∧ Below w.heap.size w w' := by
  have HA := Lib.hid (fun (W : World) (h : Below w.heap.size w W) => sextetFrom_calls A c xs W ((ha.below h).more h.size) hx (hT.below h hT.lt))
  have HB := Lib.hid (fun (W : World) (h : Below w.heap.size w W) => sextetFrom_calls A2 c2 ys W ((hb.below h).more h.size) hy (hT.below h hT.lt))
  have hZ := (Blk.new w 66 (V36 z36))
  have HB0 := Lib.hid ((Below.refl w.heap.size w).alloc (Nat.le_refl _) (.cells (V36 z36) 66))
  have hs0 : (w.alloc (.cells (V36 z36) 66)).heap.size = w.heap.size + 1 := by simp
  rcases h1 : sxB xs with _ | _
  · rw [show tfL xs ys = z36 by unfold tfL; rw [h1]; rfl]
    obtain ⟨v0, v1, v2, v3, v4, v5, hs⟩ := six_of (sfL_len xs)
    rw [hs, arrW_six, h1] at HA
    clear hs h1 ha hb hx hy HB hT
    generalize xs.length = n at *
    generalize ys.length = n2 at *
    have HZ := Lib.hid hZ
    clear hZ
    go_enter Tryd.func58, Tryd.ntmps58
    go_wp2_with fail
    refine (HA.out _ HB0.out).mono ?_
    rintro e w1 ⟨rfl, b1⟩
    have HZ1 := Lib.hid ((HZ.out.below b1 (by show w.heap.size < (w.alloc (.cells (V36 z36) 66)).heap.size; rw [hs0]; exact Nat.lt_succ_self _)).alloc (.cells #[.int .u32 v0, .int .u32 v1, .int .u32 v2, .int .u32 v3, .int .u32 v4, .int .u32 v5] 55))
    have HB1 := Lib.hid ((HB0.out.trans (b1.mono HB0.out.size)).alloc (HB0.out.trans (b1.mono HB0.out.size)).size (.cells #[.int .u32 v0, .int .u32 v1, .int .u32 v2, .int .u32 v3, .int .u32 v4, .int .u32 v5] 55))
    clear b1
    go_wp2_with (refine wpList_store_row rfl 66 _ _ rfl w.heap.size (V36 z36) rfl rfl 66 (V36 z36) HZ1.out z36_info rfl (V36_all _) ?_)
    exact bodyPost_ret (results_ct rfl rfl rfl (setRow_heap _ _ _ _ _ _ HZ1.out : Blk _ _ _ _) Tryd.underlying66 rfl z36_info) rfl ⟨rfl, below_setRow HB1.out (Nat.le_refl _)⟩
  rcases h2 : sxB ys with _ | _
  · rw [show tfL xs ys = z36 by unfold tfL; rw [h1, h2]; rfl]
    obtain ⟨v0, v1, v2, v3, v4, v5, hs⟩ := six_of (sfL_len xs)
    obtain ⟨u0, u1, u2, u3, u4, u5, hs2⟩ := six_of (sfL_len ys)
    rw [hs, arrW_six, h1] at HA
    rw [hs2, arrW_six, h2] at HB
    clear hs hs2 h1 h2 ha hb hx hy hT
    generalize xs.length = n at *
    generalize ys.length = n2 at *
    have HZ := Lib.hid hZ
    clear hZ
    go_enter Tryd.func58, Tryd.ntmps58
    go_wp2_with fail
    refine (HA.out _ HB0.out).mono ?_
    rintro e w1 ⟨rfl, b1⟩
    have HZ1 := Lib.hid ((HZ.out.below b1 (by show w.heap.size < (w.alloc (.cells (V36 z36) 66)).heap.size; rw [hs0]; exact Nat.lt_succ_self _)).alloc (.cells #[.int .u32 v0, .int .u32 v1, .int .u32 v2, .int .u32 v3, .int .u32 v4, .int .u32 v5] 55))
    have HB1 := Lib.hid ((HB0.out.trans (b1.mono HB0.out.size)).alloc (HB0.out.trans (b1.mono HB0.out.size)).size (.cells #[.int .u32 v0, .int .u32 v1, .int .u32 v2, .int .u32 v3, .int .u32 v4, .int .u32 v5] 55))
    clear b1
    go_wp2_with fail
    refine (HB.out _ HB1.out).mono ?_
    rintro e w2 ⟨rfl, b2⟩
    have HZ2 := Lib.hid ((HZ1.out.below b2 HZ1.out.lt).alloc (.cells #[.int .u32 u0, .int .u32 u1, .int .u32 u2, .int .u32 u3, .int .u32 u4, .int .u32 u5] 55))
    have HB2 := Lib.hid ((HB1.out.trans (b2.mono HB1.out.size)).alloc (HB1.out.trans (b2.mono HB1.out.size)).size (.cells #[.int .u32 u0, .int .u32 u1, .int .u32 u2, .int .u32 u3, .int .u32 u4, .int .u32 u5] 55))
    clear b2
    go_wp2_with (refine wpList_store_row rfl 66 _ _ rfl w.heap.size (V36 z36) rfl rfl 66 (V36 z36) HZ2.out z36_info rfl (V36_all _) ?_)
    exact bodyPost_ret (results_ct rfl rfl rfl (setRow_heap _ _ _ _ _ _ HZ2.out : Blk _ _ _ _) Tryd.underlying66 rfl z36_info) rfl ⟨rfl, below_setRow HB2.out (Nat.le_refl _)⟩
  · obtain ⟨l1, hw1⟩ := sx_words2 h1
    obtain ⟨l2, hw2⟩ := sx_words2 h2
    have HTB := Lib.hid (table_calls xs ys l1 l2 hw1 hw2)
    have hsz : (V36 (tab36 xs ys)).size = 36 := by simp [V36, tab36]
    have HI := Lib.hid (show (Tryd.prog.info? 66).map (·.size) = some (V36 (tab36 xs ys)).size by rw [hsz]; exact tbInfo)
    have HALL := Lib.hid (V36_all (tab36 xs ys))
    have HSZ := Lib.hid hsz
    rw [show tfL xs ys = tab36 xs ys by unfold tfL; rw [h1, h2]; rfl]
    rw [show sfL xs = xs by unfold sfL; rw [h1]; rfl, h1] at HA
    rw [show sfL ys = ys by unfold sfL; rw [h2]; rfl, h2] at HB
    generalize V36 (tab36 xs ys) = T at *
    obtain ⟨v0, v1, v2, v3, v4, v5, rfl⟩ := six_of l1
    obtain ⟨u0, u1, u2, u3, u4, u5, rfl⟩ := six_of l2
    rw [arrW_six] at HA HB
    rw [arrW_six, arrW_six] at HTB
    clear h1 h2 ha hb hx hy hT l1 l2 hw1 hw2 hsz
    generalize ([v0, v1, v2, v3, v4, v5] : List Int).length = n at *
    generalize ([u0, u1, u2, u3, u4, u5] : List Int).length = n2 at *
    have HZ := Lib.hid hZ
    clear hZ
    go_enter Tryd.func58, Tryd.ntmps58
    go_wp2_with fail
    refine (HA.out _ HB0.out).mono ?_
    rintro e w1 ⟨rfl, b1⟩
    have HZ1 := Lib.hid ((HZ.out.below b1 (by show w.heap.size < (w.alloc (.cells (V36 z36) 66)).heap.size; rw [hs0]; exact Nat.lt_succ_self _)).alloc (.cells #[.int .u32 v0, .int .u32 v1, .int .u32 v2, .int .u32 v3, .int .u32 v4, .int .u32 v5] 55))
    have HB1 := Lib.hid ((HB0.out.trans (b1.mono HB0.out.size)).alloc (HB0.out.trans (b1.mono HB0.out.size)).size (.cells #[.int .u32 v0, .int .u32 v1, .int .u32 v2, .int .u32 v3, .int .u32 v4, .int .u32 v5] 55))
    have HX1 := Lib.hid (Blk.new w1 55 #[.int .u32 v0, .int .u32 v1, .int .u32 v2, .int .u32 v3, .int .u32 v4, .int .u32 v5])
    clear b1
    go_wp2_with fail
    refine (HB.out _ HB1.out).mono ?_
    rintro e w2 ⟨rfl, b2⟩
    have HZ2 := Lib.hid ((HZ1.out.below b2 HZ1.out.lt).alloc (.cells #[.int .u32 u0, .int .u32 u1, .int .u32 u2, .int .u32 u3, .int .u32 u4, .int .u32 u5] 55))
    have HB2 := Lib.hid ((HB1.out.trans (b2.mono HB1.out.size)).alloc (HB1.out.trans (b2.mono HB1.out.size)).size (.cells #[.int .u32 u0, .int .u32 u1, .int .u32 u2, .int .u32 u3, .int .u32 u4, .int .u32 u5] 55))
    have HX2 := Lib.hid ((HX1.out.below b2 HX1.out.lt).alloc (.cells #[.int .u32 u0, .int .u32 u1, .int .u32 u2, .int .u32 u3, .int .u32 u4, .int .u32 u5] 55))
    have HY2 := Lib.hid (Blk.new w2 55 #[.int .u32 u0, .int .u32 u1, .int .u32 u2, .int .u32 u3, .int .u32 u4, .int .u32 u5])
    clear b2
    go_wp2_with (first
      | (refine wpList_load_row rfl 55 _ rfl w1.heap.size rfl 55 _ (0, 0) _ HX2.out Tryd.underlying55 rfl sxInfo ?_)
      | (refine wpList_load_row rfl 55 _ rfl w2.heap.size rfl 55 _ (0, 0) _ HY2.out Tryd.underlying55 rfl sxInfo ?_))
    refine (HTB.out _).mono ?_
    rintro e w3 ⟨rfl, b3⟩
    have HZ3 := Lib.hid (HZ2.out.below b3 HZ2.out.lt)
    have HB3 := Lib.hid (HB2.out.trans (b3.mono HB2.out.size))
    clear b3
    go_wp2_with (refine wpList_store_row rfl 66 _ _ rfl w.heap.size T rfl rfl 66 (V36 z36) HZ3.out HI.out (by rw [HSZ.out]; rfl) HALL.out ?_)
    exact bodyPost_ret (results_ct rfl rfl rfl (setRow_heap _ _ _ _ _ _ HZ3.out : Blk _ _ _ _) Tryd.underlying66 rfl HI.out) rfl ⟨rfl, below_setRow HB3.out (Nat.le_refl _)⟩
end Go.Proofs.YtagniijhbiglaaaDoor
