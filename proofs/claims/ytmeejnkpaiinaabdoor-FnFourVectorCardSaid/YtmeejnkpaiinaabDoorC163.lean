/- Vectors of the program: LatticeInner; lists over their cells. -/
import Derived.Test.YtmeejnkpaiinaabDoorC162
namespace Go.Proofs.YtmeejnkpaiinaabDoor
open Go.RowKit
set_option linter.unusedVariables false
attribute [local irreducible] cN syn

set_option maxRecDepth 100000 in
set_option maxHeartbeats 2000000 in
theorem iLatticeInner_calls (A A2 : Option Addr) (c c2 : Nat) (xs ys : List Int) (w : World) (ha : Rds w w.heap.size .i64 A xs) (hx : xs.length ≤ maxLen) (ha2 : Rds w w.heap.size .i64 A2 ys) (hy : ys.length ≤ maxLen) :
    Calls Tryd.prog 13 #[.slice A xs.length c, .slice A2 ys.length c2] w fun e w' => e = .returned (.tuple #[.int .i64 (lvInner xs ys).1, .bool (lvInner xs ys).2]) ∧ Below w.heap.size w w' := by
  have HF := Lib.hid (twoFrom_calls A A2 c c2 xs ys w ha hx ha2 hy)
  have hl1 := tw_len xs ys xs (fun h _ => vecB_len h)
  have hl2 := tw_len xs ys ys (fun _ h => vecB_len h)
  have HI := Lib.hid (vcInfoL _ hl1)
  have HI2 := Lib.hid (vcInfoL _ hl2)
  have HSZ := Lib.hid (show (VL z24).size = (VL (tw xs ys xs)).size by rw [VL_size, VL_size, hl1]; rfl)
  have HSZ2 := Lib.hid (show (VL z24).size = (VL (tw xs ys ys)).size by rw [VL_size, VL_size, hl2]; rfl)
  have HALL := Lib.hid (VL_all (tw xs ys xs))
  have HALL2 := Lib.hid (VL_all (tw xs ys ys))
  have HIN := Lib.hid (fun (h1 : vecB xs = true) (h2 : vecB ys = true) W => inner_calls xs ys W h1 h2)
  have HT1 := Lib.hid (show vecB xs = true → vecB ys = true → tw xs ys xs = xs by intro h1 h2; simp [tw, h1, h2])
  have HT2 := Lib.hid (show vecB xs = true → vecB ys = true → tw xs ys ys = ys by intro h1 h2; simp [tw, h1, h2])
  rcases hb : (vecB xs && vecB ys) with _ | _
  · rw [show lvInner xs ys = (0, false) by simp [lvInner, hb]]
    rw [hb] at HF
    clear ha hx ha2 hy hb hl1 hl2 HIN HT1 HT2
    generalize xs.length = n at *
    generalize ys.length = n2 at *
    generalize VL (tw xs ys xs) = V at *
    generalize VL (tw xs ys ys) = V2 at *
    go_enter Tryd.func13, Tryd.ntmps13
    go_wp2_with fail
    refine HF.out.mono ?_
    rintro e w1 ⟨rfl, b1⟩
    have H2 := two_heapV w1 (.cells (VL z24) 48) (.cells (VL z24) 48)
    have N0 := Lib.hid H2.1
    have N1 := Lib.hid H2.2.1
    have NB := Lib.hid (b1.trans (H2.2.2.mono b1.size))
    have hsz := b1.size
    clear H2 b1
    have N2 := Lib.hid ((setRow_other _ w1.heap.size (w1.heap.size + 1) V (by omega)).trans N1.out)
    go_wp2_with (first
      | (refine wpList_store_row rfl 48 _ _ rfl w1.heap.size V rfl rfl 48 (VL z24) N0.out HI.out HSZ.out HALL.out ?_)
      | (refine wpList_store_row rfl 48 _ _ rfl (w1.heap.size + 1) V2 rfl rfl 48 (VL z24) N2.out HI2.out HSZ2.out HALL2.out ?_))
    go_ret2
    exact ⟨rfl, bel_row (bel_row NB.out hsz) (by omega)⟩
  · rw [show lvInner xs ys = (innL xs ys, true) by simp [lvInner, hb]]
    rw [hb] at HF
    simp only [Bool.and_eq_true] at hb
    rw [HT1.out hb.1 hb.2] at HF HI HSZ HALL
    rw [HT2.out hb.1 hb.2] at HF HI2 HSZ2 HALL2
    have HIN2 := Lib.hid (HIN.out hb.1 hb.2)
    clear ha hx ha2 hy hb hl1 hl2 HIN HT1 HT2
    generalize xs.length = n at *
    generalize ys.length = n2 at *
    generalize VL xs = V at *
    generalize VL ys = V2 at *
    go_enter Tryd.func13, Tryd.ntmps13
    go_wp2_with fail
    refine HF.out.mono ?_
    rintro e w1 ⟨rfl, b1⟩
    have H2 := two_heapV w1 (.cells (VL z24) 48) (.cells (VL z24) 48)
    have N0 := Lib.hid H2.1
    have N1 := Lib.hid H2.2.1
    have NB := Lib.hid (b1.trans (H2.2.2.mono b1.size))
    have hsz := b1.size
    clear H2 b1
    have N2 := Lib.hid ((setRow_other _ w1.heap.size (w1.heap.size + 1) V (by omega)).trans N1.out)
    have M1 := Lib.hid (setRow_heap _ _ _ V2 _ _ N2.out)
    have M0 := Lib.hid ((setRow_other _ (w1.heap.size + 1) w1.heap.size V2 (by omega)).trans (setRow_heap _ _ _ V _ _ N0.out))
    have MB := Lib.hid (bel_row (T := V2) (bel_row (T := V) NB.out hsz) (show w.heap.size ≤ w1.heap.size + 1 by omega))
    go_wp2_with (first
      | (refine wpList_store_row rfl 48 _ _ rfl w1.heap.size V rfl rfl 48 (VL z24) N0.out HI.out HSZ.out HALL.out ?_)
      | (refine wpList_store_row rfl 48 _ _ rfl (w1.heap.size + 1) V2 rfl rfl 48 (VL z24) N2.out HI2.out HSZ2.out HALL2.out ?_)
      | (refine wpList_load_row rfl 48 _ rfl w1.heap.size rfl 48 V (0, 0) _ M0.out Tryd.underlying48 rfl HI.out ?_)
      | (refine wpList_load_row rfl 48 _ rfl (w1.heap.size + 1) rfl 48 V2 (0, 0) _ M1.out Tryd.underlying48 rfl HI2.out ?_))
    refine (HIN2.out _).mono ?_
    rintro e w2 ⟨rfl, b2⟩
    have BB := Lib.hid (MB.out.trans (b2.mono MB.out.size))
    clear b2
    go_wp2_with fail
    go_ret2
    exact ⟨rfl, BB.out⟩
theorem own_24V {w : World} {B g : Nat} (xs : List Int) (hl : xs.length = 24) (hg : w.heap[g]? = some (.cells (VL xs) 48 (0, 0))) (hB : B ≤ g) : OwnV w B (.slice (some ⟨g, 0, none⟩) 24 24) xs :=
  ⟨by simp [vals_len], .inr ⟨g, 24, _, by rw [hl], hB, hg, by simp [hl], by unfold maxLen; omega, by simp [VL, hl], by
    have : (vals .i64 xs).length ≤ xs.length * 1 := by rw [vals_len]; omega
    simp only [VL, vals, Nat.mul_one]
    rw [List.take_of_length_le (by simp)]⟩⟩
theorem own_blockV {w : World} {B g : Nat} {xs : List Int} (hl : xs.length = 24) (h : OwnV w B (.slice (some ⟨g, 0, none⟩) 24 24) xs) : w.heap[g]? = some (.cells (VL xs) 48 (0, 0)) := by
  rcases h.2 with ⟨h1, _⟩ | ⟨g', cap, cur, h1, h2, h3, h4, h5, h6, h7⟩
  · cases h1
  · simp only [Value.slice.injEq, Option.some.injEq, Addr.mk.injEq, and_true] at h1
    obtain ⟨rfl, _, rfl⟩ := h1
    rw [h3]
    rw [List.take_of_length_le (by rw [Array.length_toList, h6, hl]; omega)] at h7
    have : cur = VL xs := by
      apply Array.toList_inj.1
      rw [h7]
      simp [VL, vals]
    rw [this]
set_option maxHeartbeats 1000000 in
theorem vecList_calls (xs : List Int) (w : World) (hl : xs.length = 24) :
    Calls Tryd.prog 44 #[.agg (VL xs)] w fun e w' => ∃ v, e = .returned v ∧ OwnV w' w.heap.size v xs ∧ Below w.heap.size w w' := by
  have HB := Lib.hid ((Below.refl w.heap.size w).alloc (Nat.le_refl _) (.cells (VL xs) 48))
  have HO := Lib.hid (own_24V xs hl (Blk.new w 48 (VL xs)) (Nat.le_refl _))
  clear hl
  generalize hV : VL xs = V at *
  clear hV
  go_enter Tryd.func44, Tryd.ntmps44
  go_wp2_with fail
  go_ret
  exact ⟨_, rfl, HO.out, HB.out⟩
end Go.Proofs.YtmeejnkpaiinaabDoor
