/- Permutations of the program: the exported functions PermValid, PermTimes, PermTurned, PermFixed. -/
import Derived.Test.YtakefnfhjiodnaaDoorC104
namespace Go.Proofs.YtakefnfhjiodnaaDoor
open Go.RowKit
set_option linter.unusedVariables false
attribute [local irreducible] cN syn

def pL (xs : List Int) : List Int := if permB xs then xs else z24
theorem pL_len (xs : List Int) : (pL xs).length = 24 := by
  unfold pL
  split
  · rename_i h; exact permB_len h
  · rfl
theorem pL_yes {xs : List Int} (h : permB xs = true) : pL xs = xs := by simp [pL, h]
theorem pL_no {xs : List Int} (h : permB xs = false) : pL xs = z24 := by simp [pL, h]
theorem permFrom_calls (A : Option Addr) (c : Nat) (xs : List Int) (w : World) (ha : Rds w w.heap.size .i64 A xs) (hx : xs.length ≤ maxLen) :
    Calls Tryd.prog 51 #[.slice A xs.length c] w fun e w' => e = .returned (.tuple #[.agg (VL (pL xs)), .bool (permB xs)]) ∧ Below w.heap.size w w' := by
  rcases hp : permB xs with _ | _
  · rw [pL_no hp]; exact permFrom_no A c xs w ha hx hp
  · rw [pL_yes hp]; exact permFrom_yes A c xs w ha hx hp
set_option maxHeartbeats 1000000 in
theorem iPermValid_calls (A : Option Addr) (c : Nat) (xs : List Int) (w : World) (ha : Rds w w.heap.size .i64 A xs) (hx : xs.length ≤ maxLen) :
    Calls Tryd.prog 13 #[.slice A xs.length c] w fun e w' => e = .returned (.bool (permB xs)) ∧ Below w.heap.size w w' := by
  have HF := Lib.hid (permFrom_calls A c xs w ha hx)
  have HI := Lib.hid (pmInfoL (pL xs) (pL_len xs))
  have HSZ := Lib.hid (show (VL (pL xs)).size = 24 by rw [VL_size, pL_len])
  have HALL := Lib.hid (VL_all (pL xs))
  clear ha hx
  generalize xs.length = n at *
  generalize permB xs = b at *
  generalize VL (pL xs) = V at *
  go_enter Tryd.func13, Tryd.ntmps13
  go_wp2_with fail
  refine HF.out.mono ?_
  rintro e w1 ⟨rfl, b1⟩
  have HN := Lib.hid (Blk.new w1 48 (VL z24))
  have HB := Lib.hid (b1.alloc b1.size (.cells (VL z24) 48))
  have hw1 := b1.size
  clear b1
  go_wp2_with (refine wpList_store_row rfl 48 _ _ rfl w1.heap.size V rfl rfl 48 (VL z24) HN.out HI.out (by rw [HSZ.out]; rfl) HALL.out ?_)
  go_ret
  exact ⟨rfl, bel_row HB.out hw1⟩
set_option maxHeartbeats 1000000 in
theorem iPermTurned_calls (A : Option Addr) (c : Nat) (xs : List Int) (w : World) (ha : Rds w w.heap.size .i64 A xs) (hx : xs.length ≤ maxLen) :
    Calls Tryd.prog 16 #[.slice A xs.length c] w (GotL w (plTurned xs).1 (plTurned xs).2) := by
  have HF := Lib.hid (permFrom_calls A c xs w ha hx)
  have HI := Lib.hid (pmInfoL (pL xs) (pL_len xs))
  have HSZ := Lib.hid (show (VL (pL xs)).size = 24 by rw [VL_size, pL_len])
  have HALL := Lib.hid (VL_all (pL xs))
  rcases hp : permB xs with _ | _
  · rw [show plTurned xs = ([], false) by simp [plTurned, hp]]
    rw [hp] at HF
    clear ha hx hp
    generalize xs.length = n at *
    generalize VL (pL xs) = V at *
    go_enter Tryd.func16, Tryd.ntmps16
    go_wp2_with fail
    refine HF.out.mono ?_
    rintro e w1 ⟨rfl, b1⟩
    have HN := Lib.hid (Blk.new w1 48 (VL z24))
    have HB := Lib.hid (b1.alloc b1.size (.cells (VL z24) 48))
    have hw1 := b1.size
    clear b1
    go_wp2_with (refine wpList_store_row rfl 48 _ _ rfl w1.heap.size V rfl rfl 48 (VL z24) HN.out HI.out (by rw [HSZ.out]; rfl) HALL.out ?_)
    go_ret2
    exact ⟨_, rfl, Own.nil_ _ _, bel_row HB.out hw1⟩
  · rw [show plTurned xs = (intP (turnN (natP xs)), true) by simp [plTurned, hp]]
    have HTU := Lib.hid (fun W => turned_calls xs W hp)
    have HLI := Lib.hid (fun W => pmList_calls (intP (turnN (natP xs))) W (by rw [intP_len, turnN_len]))
    rw [hp] at HF
    rw [pL_yes hp] at HF HI HSZ HALL
    clear ha hx hp
    generalize xs.length = n at *
    generalize intP (turnN (natP xs)) = T at *
    generalize VL xs = V at *
    go_enter Tryd.func16, Tryd.ntmps16
    go_wp2_with fail
    refine HF.out.mono ?_
    rintro e w1 ⟨rfl, b1⟩
    have HN := Lib.hid (Blk.new w1 48 (VL z24))
    have HB := Lib.hid (b1.alloc b1.size (.cells (VL z24) 48))
    have hw1 := b1.size
    clear b1
    have HN2 : ∀ W, W = (w1.alloc (.cells (VL z24) 48)).setRow w1.heap.size V → W.heap[w1.heap.size]? = some (.cells V 48 (0, 0)) := fun W h => by rw [h]; exact setRow_heap _ _ _ _ _ _ HN.out
    have HN2 := Lib.hid HN2
    go_wp2_with (first
      | (refine wpList_store_row rfl 48 _ _ rfl w1.heap.size V rfl rfl 48 (VL z24) HN.out HI.out (by rw [HSZ.out]; rfl) HALL.out ?_)
      | (refine wpList_load_row rfl 48 _ rfl w1.heap.size rfl 48 V (0, 0) _ (HN2.out _ rfl) Tryd.underlying48 rfl HI.out ?_))
    refine (HTU.out _).mono ?_
    rintro e w2 ⟨rfl, b2⟩
    have HB2 := Lib.hid ((bel_row (T := V) HB.out hw1).trans (b2.mono (bel_row (T := V) HB.out hw1).size))
    clear b2
    go_wp2_with fail
    refine (HLI.out _).mono ?_
    rintro e w3 ⟨v, rfl, o3, b3⟩
    go_wp2_with fail
    go_ret2
    exact ⟨_, rfl, o3.weak HB2.out.size, HB2.out.trans (b3.mono HB2.out.size)⟩
set_option maxHeartbeats 1000000 in
theorem iPermFixed_calls (A : Option Addr) (c : Nat) (xs : List Int) (w : World) (ha : Rds w w.heap.size .i64 A xs) (hx : xs.length ≤ maxLen) :
    Calls Tryd.prog 18 #[.slice A xs.length c] w fun e w' => e = .returned (.tuple #[.int .i64 (plFixed xs).1, .bool (plFixed xs).2]) ∧ Below w.heap.size w w' := by
  have HF := Lib.hid (permFrom_calls A c xs w ha hx)
  have HI := Lib.hid (pmInfoL (pL xs) (pL_len xs))
  have HSZ := Lib.hid (show (VL (pL xs)).size = 24 by rw [VL_size, pL_len])
  have HALL := Lib.hid (VL_all (pL xs))
  rcases hp : permB xs with _ | _
  · rw [show plFixed xs = (0, false) by simp [plFixed, hp]]
    rw [hp] at HF
    clear ha hx hp
    generalize xs.length = n at *
    generalize VL (pL xs) = V at *
    go_enter Tryd.func18, Tryd.ntmps18
    go_wp2_with fail
    refine HF.out.mono ?_
    rintro e w1 ⟨rfl, b1⟩
    have HN := Lib.hid (Blk.new w1 48 (VL z24))
    have HB := Lib.hid (b1.alloc b1.size (.cells (VL z24) 48))
    have hw1 := b1.size
    clear b1
    go_wp2_with (refine wpList_store_row rfl 48 _ _ rfl w1.heap.size V rfl rfl 48 (VL z24) HN.out HI.out (by rw [HSZ.out]; rfl) HALL.out ?_)
    go_ret2
    exact ⟨rfl, bel_row HB.out hw1⟩
  · rw [show plFixed xs = (((fixTo (natP xs) 24 : Nat) : Int), true) by simp [plFixed, hp]]
    have HTU := Lib.hid (fun W => fixed_calls xs W hp)
    obtain ⟨hr0, hr1⟩ := fixTo_rng (natP xs) 24 (by omega)
    rw [hp] at HF
    rw [pL_yes hp] at HF HI HSZ HALL
    clear ha hx hp
    generalize xs.length = n at *
    generalize ((fixTo (natP xs) 24 : Nat) : Int) = T at *
    generalize VL xs = V at *
    go_enter Tryd.func18, Tryd.ntmps18
    go_wp2_with fail
    refine HF.out.mono ?_
    rintro e w1 ⟨rfl, b1⟩
    have HN := Lib.hid (Blk.new w1 48 (VL z24))
    have HB := Lib.hid (b1.alloc b1.size (.cells (VL z24) 48))
    have hw1 := b1.size
    clear b1
    have HN2 : ∀ W, W = (w1.alloc (.cells (VL z24) 48)).setRow w1.heap.size V → W.heap[w1.heap.size]? = some (.cells V 48 (0, 0)) := fun W h => by rw [h]; exact setRow_heap _ _ _ _ _ _ HN.out
    have HN2 := Lib.hid HN2
    go_wp2_with (first
      | (refine wpList_store_row rfl 48 _ _ rfl w1.heap.size V rfl rfl 48 (VL z24) HN.out HI.out (by rw [HSZ.out]; rfl) HALL.out ?_)
      | (refine wpList_load_row rfl 48 _ rfl w1.heap.size rfl 48 V (0, 0) _ (HN2.out _ rfl) Tryd.underlying48 rfl HI.out ?_))
    refine (HTU.out _).mono ?_
    rintro e w2 ⟨rfl, b2⟩
    have HB2 := Lib.hid ((bel_row (T := V) HB.out hw1).trans (b2.mono (bel_row (T := V) HB.out hw1).size))
    clear b2
    have hwr : IntKind.i64.wrap T = T := wrap_i64_in T hr0 (by omega)
    go_wp2_with fail
    go_ret2
    exact ⟨rfl, HB2.out⟩
set_option maxHeartbeats 2000000 in
theorem iPermTimes_calls (A A2 : Option Addr) (c c2 : Nat) (xs ys : List Int) (w : World) (ha : Rds w w.heap.size .i64 A xs) (hx : xs.length ≤ maxLen) (ha2 : Rds w w.heap.size .i64 A2 ys) (hy : ys.length ≤ maxLen) :
    Calls Tryd.prog 17 #[.slice A xs.length c, .slice A2 ys.length c2] w (GotL w (plTimes xs ys).1 (plTimes xs ys).2) := by
  have HF := Lib.hid (permFrom_calls A c xs w ha hx)
  have HI := Lib.hid (pmInfoL (pL xs) (pL_len xs))
  have HSZ := Lib.hid (show (VL (pL xs)).size = 24 by rw [VL_size, pL_len])
  have HALL := Lib.hid (VL_all (pL xs))
  have HF2 := Lib.hid (fun (W : World) (h : Below w.heap.size w W) => permFrom_calls A2 c2 ys W ((ha2.below h).more h.size) hy)
  have HI2 := Lib.hid (pmInfoL (pL ys) (pL_len ys))
  have HSZ2 := Lib.hid (show (VL (pL ys)).size = 24 by rw [VL_size, pL_len])
  have HALL2 := Lib.hid (VL_all (pL ys))
  rcases hp : permB xs with _ | _
  · rw [show plTimes xs ys = ([], false) by simp [plTimes, hp]]
    rw [hp] at HF
    clear ha hx hp ha2 hy
    generalize xs.length = n at *
    generalize ys.length = n2 at *
    generalize VL (pL xs) = V at *
    go_enter Tryd.func17, Tryd.ntmps17
    go_wp2_with fail
    refine HF.out.mono ?_
    rintro e w1 ⟨rfl, b1⟩
    have HN := Lib.hid (Blk.new w1 48 (VL z24))
    have HB := Lib.hid (b1.alloc b1.size (.cells (VL z24) 48))
    have hw1 := b1.size
    clear b1
    go_wp2_with (refine wpList_store_row rfl 48 _ _ rfl w1.heap.size V rfl rfl 48 (VL z24) HN.out HI.out (by rw [HSZ.out]; rfl) HALL.out ?_)
    go_ret2
    exact ⟨_, rfl, Own.nil_ _ _, bel_row HB.out hw1⟩
  rcases hq : permB ys with _ | _
  · rw [show plTimes xs ys = ([], false) by simp [plTimes, hq]]
    rw [hp] at HF
    simp only [hq] at HF2
    clear ha hx hp ha2 hy hq
    generalize xs.length = n at *
    generalize ys.length = n2 at *
    generalize VL (pL xs) = V at *
    generalize VL (pL ys) = V2 at *
    go_enter Tryd.func17, Tryd.ntmps17
    go_wp2_with fail
    refine HF.out.mono ?_
    rintro e w1 ⟨rfl, b1⟩
    have HN := Lib.hid (Blk.new w1 48 (VL z24))
    have HB := Lib.hid (bel_row (T := V) (b1.alloc b1.size (.cells (VL z24) 48)) b1.size)
    clear b1
    go_wp2_with (refine wpList_store_row rfl 48 _ _ rfl w1.heap.size V rfl rfl 48 (VL z24) HN.out HI.out (by rw [HSZ.out]; rfl) HALL.out ?_)
    refine (HF2.out _ HB.out).mono ?_
    rintro e w2 ⟨rfl, b2⟩
    have HB2 := Lib.hid (HB.out.trans (b2.mono HB.out.size))
    have HN2 := Lib.hid (Blk.new w2 48 (VL z24))
    clear b2
    go_wp2_with (refine wpList_store_row rfl 48 _ _ rfl w2.heap.size V2 rfl rfl 48 (VL z24) HN2.out HI2.out (by rw [HSZ2.out]; rfl) HALL2.out ?_)
    go_ret2
    exact ⟨_, rfl, Own.nil_ _ _, bel_row (HB2.out.alloc HB2.out.size _) HB2.out.size⟩
  · rw [show plTimes xs ys = (intP (thenN (natP xs) (natP ys)), true) by simp [plTimes, hp, hq]]
    have HTH := Lib.hid (fun W => then_calls xs ys W hp hq)
    have HLI := Lib.hid (fun W => pmList_calls (intP (thenN (natP xs) (natP ys))) W (by rw [intP_len, thenN_len, natP_len, permB_len hp]))
    rw [hp] at HF
    simp only [hq] at HF2
    rw [pL_yes hp] at HF HI HSZ HALL
    rw [pL_yes hq] at HI2 HSZ2 HALL2
    simp only [pL_yes hq] at HF2
    clear ha hx hp ha2 hy hq
    generalize xs.length = n at *
    generalize ys.length = n2 at *
    generalize intP (thenN (natP xs) (natP ys)) = T at *
    generalize VL xs = V at *
    generalize VL ys = V2 at *
    go_enter Tryd.func17, Tryd.ntmps17
    go_wp2_with fail
    refine HF.out.mono ?_
    rintro e w1 ⟨rfl, b1⟩
    have HN := Lib.hid (Blk.new w1 48 (VL z24))
    have HB := Lib.hid (bel_row (T := V) (b1.alloc b1.size (.cells (VL z24) 48)) b1.size)
    clear b1
    go_wp2_with (refine wpList_store_row rfl 48 _ _ rfl w1.heap.size V rfl rfl 48 (VL z24) HN.out HI.out (by rw [HSZ.out]; rfl) HALL.out ?_)
    refine (HF2.out _ HB.out).mono ?_
    rintro e w2 ⟨rfl, b2⟩
    have hs2 := b2.size
    rw [show ((w1.alloc (.cells (VL z24) 48)).setRow w1.heap.size V).heap.size = w1.heap.size + 1 by simp [World.setRow]] at hs2
    have HB2 := Lib.hid (HB.out.trans (b2.mono HB.out.size))
    have HP1 : Hid (w2.heap[w1.heap.size]? = some (.cells V 48 (0, 0))) := Lib.hid ((b2.block w1.heap.size (by rw [show ((w1.alloc (.cells (VL z24) 48)).setRow w1.heap.size V).heap.size = w1.heap.size + 1 by simp [World.setRow]]; omega)).trans (setRow_heap _ _ _ _ _ _ HN.out))
    have HN2 := Lib.hid (Blk.new w2 48 (VL z24))
    have HB3 := Lib.hid (bel_row (T := V2) (HB2.out.alloc HB2.out.size (.cells (VL z24) 48)) HB2.out.size)
    have HP2 : ∀ W, W = (w2.alloc (.cells (VL z24) 48)).setRow w2.heap.size V2 → W.heap[w1.heap.size]? = some (.cells V 48 (0, 0)) ∧ W.heap[w2.heap.size]? = some (.cells V2 48 (0, 0)) := fun W h => by
      rw [h]
      exact ⟨(setRow_other _ _ _ _ (by omega)).trans ((Below.heap_alloc _ _ _ (by omega)).trans HP1.out), setRow_heap _ _ _ _ _ _ HN2.out⟩
    have HP2 := Lib.hid HP2
    clear b2
    go_wp2_with (first
      | (refine wpList_store_row rfl 48 _ _ rfl w2.heap.size V2 rfl rfl 48 (VL z24) HN2.out HI2.out (by rw [HSZ2.out]; rfl) HALL2.out ?_)
      | (refine wpList_load_row rfl 48 _ rfl w1.heap.size rfl 48 V (0, 0) _ (HP2.out _ rfl).1 Tryd.underlying48 rfl HI.out ?_)
      | (refine wpList_load_row rfl 48 _ rfl w2.heap.size rfl 48 V2 (0, 0) _ (HP2.out _ rfl).2 Tryd.underlying48 rfl HI2.out ?_))
    refine (HTH.out _).mono ?_
    rintro e w3 ⟨rfl, b3⟩
    have HB4 := Lib.hid (HB3.out.trans (b3.mono HB3.out.size))
    clear b3
    go_wp2_with fail
    refine (HLI.out _).mono ?_
    rintro e w4 ⟨v, rfl, o4, b4⟩
    go_wp2_with fail
    go_ret2
    exact ⟨_, rfl, o4.weak HB4.out.size, HB4.out.trans (b4.mono HB4.out.size)⟩
end Go.Proofs.YtakefnfhjiodnaaDoor
