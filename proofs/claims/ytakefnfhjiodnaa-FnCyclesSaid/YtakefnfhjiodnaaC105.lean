/- Permutations of the program: the exported functions PermValid, PermTimes, PermTurned, PermFixed. -/
import Derived.Test.YtakefnfhjiodnaaC104
namespace Go.Proofs.Ytakefnfhjiodnaa
open Go.RowKit
set_option linter.unusedVariables false
attribute [local irreducible] cN syn

def pL (xs : List Int) : List Int := if permB xs then xs else z24
theorem pL_len (xs : List Int) : (pL xs).length = 24 := by
  unfold pL
  split
  · rename_i h; exact permB_len h
  · rfl
theorem pL_yes {xs : List Int} (h : permB xs = true) : pL xs = xs := by simp [pL, h]
theorem pL_no {xs : List Int} (h : permB xs = false) : pL xs = z24 := by simp [pL, h]
theorem permFrom_calls (A : Option Addr) (c : Nat) (xs : List Int) (w : World) (ha : Rds w w.heap.size .i64 A xs) (hx : xs.length ≤ maxLen) :
    Calls Try.prog 12 #[.slice A xs.length c] w fun e w' => e = .returned (.tuple #[.agg (VL (pL xs)), .bool (permB xs)]) ∧ Below w.heap.size w w' := by
  rcases hp : permB xs with _ | _
  · rw [pL_no hp]; exact permFrom_no A c xs w ha hx hp
  · rw [pL_yes hp]; exact permFrom_yes A c xs w ha hx hp
set_option maxHeartbeats 1000000 in
theorem iPermFixed_calls (A : Option Addr) (c : Nat) (xs : List Int) (w : World) (ha : Rds w w.heap.size .i64 A xs) (hx : xs.length ≤ maxLen) :
    Calls Try.prog 8 #[.slice A xs.length c] w fun e w' => e = .returned (.tuple #[.int .i64 (plFixed xs).1, .bool (plFixed xs).2]) ∧ Below w.heap.size w w' := by
  have HF := Lib.hid (permFrom_calls A c xs w ha hx)
  have HI := Lib.hid (pmInfoL (pL xs) (pL_len xs))
  have HSZ := Lib.hid (show (VL (pL xs)).size = 24 by rw [VL_size, pL_len])
  have HALL := Lib.hid (VL_all (pL xs))
  rcases hp : permB xs with _ | _
  · rw [show plFixed xs = (0, false) by simp [plFixed, hp]]
    rw [hp] at HF
    clear ha hx hp
    generalize xs.length = n at *
    generalize VL (pL xs) = V at *
    go_enter Try.func8, Try.ntmps8
    go_wp2_with fail
    refine HF.out.mono ?_
    rintro e w1 ⟨rfl, b1⟩
    have HN := Lib.hid (Blk.new w1 36 (VL z24))
    have HB := Lib.hid (b1.alloc b1.size (.cells (VL z24) 36))
    have hw1 := b1.size
    clear b1
    go_wp2_with (refine wpList_store_row rfl 36 _ _ rfl w1.heap.size V rfl rfl 36 (VL z24) HN.out HI.out (by rw [HSZ.out]; rfl) HALL.out ?_)
    go_ret2
    exact ⟨rfl, bel_row HB.out hw1⟩
  · rw [show plFixed xs = (((fixTo (natP xs) 24 : Nat) : Int), true) by simp [plFixed, hp]]
    have HTU := Lib.hid (fun W => fixed_calls xs W hp)
    obtain ⟨hr0, hr1⟩ := fixTo_rng (natP xs) 24 (by omega)
    rw [hp] at HF
    rw [pL_yes hp] at HF HI HSZ HALL
    clear ha hx hp
    generalize xs.length = n at *
    generalize ((fixTo (natP xs) 24 : Nat) : Int) = T at *
    generalize VL xs = V at *
    go_enter Try.func8, Try.ntmps8
    go_wp2_with fail
    refine HF.out.mono ?_
    rintro e w1 ⟨rfl, b1⟩
    have HN := Lib.hid (Blk.new w1 36 (VL z24))
    have HB := Lib.hid (b1.alloc b1.size (.cells (VL z24) 36))
    have hw1 := b1.size
    clear b1
    have HN2 : ∀ W, W = (w1.alloc (.cells (VL z24) 36)).setRow w1.heap.size V → W.heap[w1.heap.size]? = some (.cells V 36 (0, 0)) := fun W h => by rw [h]; exact setRow_heap _ _ _ _ _ _ HN.out
    have HN2 := Lib.hid HN2
    go_wp2_with (first
      | (refine wpList_store_row rfl 36 _ _ rfl w1.heap.size V rfl rfl 36 (VL z24) HN.out HI.out (by rw [HSZ.out]; rfl) HALL.out ?_)
      | (refine wpList_load_row rfl 36 _ rfl w1.heap.size rfl 36 V (0, 0) _ (HN2.out _ rfl) Try.underlying36 rfl HI.out ?_))
    refine (HTU.out _).mono ?_
    rintro e w2 ⟨rfl, b2⟩
    have HB2 := Lib.hid ((bel_row (T := V) HB.out hw1).trans (b2.mono (bel_row (T := V) HB.out hw1).size))
    clear b2
    have hwr : IntKind.i64.wrap T = T := wrap_i64_in T hr0 (by omega)
    go_wp2_with fail
    go_ret2
    exact ⟨rfl, HB2.out⟩
end Go.Proofs.Ytakefnfhjiodnaa
