/- Counting weights: the model, the program, and the drawing. -/
import Derived.Test.YtnbefojdejgccaaDoorC30
import Derived.Test.YtnbefojdejgccaaDoorC26
import Derived.Test.YtnbefojdejgccaaDoorC9
import Derived.Test.YtnbefojdejgccaaDoorC11
import Derived.Test.YtnbefojdejgccaaDoorC16
namespace Go.Proofs.YtnbefojdejgccaaDoor
open Go.RowKit Go.Shelf
attribute [local go_sem] Oper.semAt_some
set_option linter.unusedVariables false

theorem wgtB_iff (a b : Int) : wgtB a b = true ↔ 0 ≤ a ∧ a ≤ b ∧ b ≤ 4095 := by simp [wgtB]
theorem wt_code (m : Nat) (h : m < 4096) : wt (codeOf (m : Int)) = ((pop (cN m) : Nat) : Int) := by rw [codeOf_cN m h, wt_pop]
def z25 : Array Value := #[.int .i64 0, .int .i64 0, .int .i64 0, .int .i64 0, .int .i64 0, .int .i64 0, .int .i64 0, .int .i64 0, .int .i64 0, .int .i64 0, .int .i64 0, .int .i64 0, .int .i64 0, .int .i64 0, .int .i64 0, .int .i64 0, .int .i64 0, .int .i64 0, .int .i64 0, .int .i64 0, .int .i64 0, .int .i64 0, .int .i64 0, .int .i64 0, .int .i64 0]
theorem mk25 (W : World) : (Instr.makeSlice 27 (.int .i64 25) (.int .i64 25)).run Tryd.prog W = .ok (.slice (some ⟨W.heap.size, 0, none⟩) 25 25) (W.alloc (.cells z25 3)) := by kernel_rfl
theorem z25_vals : z25 = (vals .i64 (cntF [])).toArray := rfl
theorem own_arr {w : World} {B g : Nat} (xs : List Int) (hl : xs.length = 25) (hg : w.heap[g]? = some (.cells (vals .i64 xs).toArray 3 (0, 0))) (hB : B ≤ g) : Own w B (.slice (some ⟨g, 0, none⟩) 25 25) xs :=
  ⟨by simp [vals_len, hl], .inr ⟨g, 25, _, by rw [hl], hB, hg, by simp [hl], by unfold maxLen; omega, by simp [vals_len, hl], by
    have : (vals .i64 xs).length ≤ xs.length * 1 := by rw [vals_len]; omega
    simp [List.take_of_length_le, vals_len]⟩⟩
theorem arr_at {w : World} {g j : Nat} {t : TypeId} (xs : List Int) (hj : j < xs.length) (hg : w.heap[g]? = some (.cells (vals .i64 xs).toArray t (0, 0))) : w.cell? ⟨g, j, none⟩ = some (.int .i64 (xs.getD j 0)) := by
  rw [Lib.cell_of_heap hg]
  have := vals_get .i64 xs j hj
  simpa using this
theorem arr_set {w : World} {g j : Nat} {t : TypeId} (xs : List Int) (x : Int) (hg : w.heap[g]? = some (.cells (vals .i64 xs).toArray t (0, 0))) : (w.setCell ⟨g, j, none⟩ (.int .i64 x)).heap[g]? = some (.cells (vals .i64 (xs.set j x)).toArray t (0, 0)) := by
  have := heap_setCell_same w g j (vals .i64 xs).toArray t (.int .i64 x) hg
  rw [List.setIfInBounds_toArray, vals_set] at this
  exact this
set_option maxRecDepth 100000 in
set_option maxHeartbeats 2000000 in
theorem sCodeWeights_calls (a b : Int) (w : World) :
    Calls Tryd.prog 30 #[.int .i64 a, .int .i64 b] w (GotL w (cWeights a b).1 (cWeights a b).2) := by
  have HM := mk25
  have HE := Lib.hid (show Own ((w.alloc (.cells z25 3)).alloc (.cells #[] 3)) w.heap.size (.slice (some ⟨w.heap.size + 1, 0, none⟩) 0 0) [] by
    have := own_empty (w.alloc (.cells z25 3)) w.heap.size (by simp)
    rwa [World.size_alloc] at this)
  rcases hb : wgtB a b with _ | _
  · rw [show cWeights a b = ([], false) by simp [cWeights, hb]]
    have hn : ¬ (0 ≤ a ∧ a ≤ b ∧ b ≤ 4095) := by rw [← wgtB_iff, hb]; simp
    clear hb
    by_cases h1 : 0 ≤ a ∧ a ≤ b
    · have h2 : 4096 ≤ b := by omega
      go_enter Tryd.func30, Tryd.ntmps30
      go_wp2_with (go_at_call 47; refine (l6In_ok _ _ _ _ h1.1 h1.2).mono ?_; rintro e w' ⟨rfl, rfl⟩)
      go_ret2
      exact ⟨_, rfl, HE.out, ((Below.refl _ _).alloc (Nat.le_refl _) _).alloc (by simp) _⟩
    · go_enter Tryd.func30, Tryd.ntmps30
      go_wp2_with (go_at_call 47; refine (l6In_no _ _ _ _ (by omega)).mono ?_; rintro e w' ⟨rfl, rfl⟩)
      go_ret2
      exact ⟨_, rfl, HE.out, ((Below.refl _ _).alloc (Nat.le_refl _) _).alloc (by simp) _⟩
  · rw [show cWeights a b = (cntF (msgs a.toNat b.toNat), true) by simp [cWeights, hb]]
    obtain ⟨h0, h1, h2⟩ := (wgtB_iff a b).1 hb
    obtain ⟨lo, rfl⟩ := Int.eq_ofNat_of_zero_le h0
    obtain ⟨hi, rfl⟩ := Int.eq_ofNat_of_zero_le (show 0 ≤ b by omega)
    clear hb
    simp only [Int.toNat_natCast]
    have hO := Lib.hid (own_arr (w := w.alloc (.cells z25 3)) (B := w.heap.size) (cntF []) (cntF_len []) (by rw [← z25_vals]; exact heap_alloc_new w _) (Nat.le_refl _))
    go_enter Tryd.func30, Tryd.ntmps30
    go_wp2_with (go_at_call 47; refine (l6In_ok _ _ _ _ h0 h1).mono ?_; rintro e w' ⟨rfl, rfl⟩)
    go_loopw [7, 8] (fun i _ wr => ∃ q : Nat, lo ≤ q ∧ q ≤ hi + 1 ∧ i = .int .i64 q ∧ Hid (Own wr w.heap.size (.slice (some ⟨w.heap.size, 0, none⟩) 25 25) (cntF (List.range' lo (q - lo)))) ∧ Hid (Below w.heap.size w wr)) (fun i _ _ => hi + 1 - (intOf i).toNat)
    case atStart => exact ⟨lo, Nat.le_refl _, by omega, rfl, by rw [Nat.sub_self]; exact hO, Lib.hid ((Below.refl _ _).alloc (Nat.le_refl _) _)⟩
    case round =>
      obtain ⟨q, hq0, hq1, rfl, ho, hbw⟩ := hrel
      by_cases hlt : q ≤ hi
      · have hw := wt_code q (by omega)
        have hp := pop_le (cN q)
        have hln := cntF_len (List.range' lo (q - lo))
        have hrg := cntF_rng (List.range' lo (q - lo)) (pop (cN q)) (by omega)
        rw [List.length_range'] at hrg
        have HS := Lib.hid (show cntF (List.range' lo (q + 1 - lo)) = (cntF (List.range' lo (q - lo))).set (pop (cN q)) ((cntF (List.range' lo (q - lo))).getD (pop (cN q)) 0 + 1) by
          rw [show q + 1 - lo = (q - lo) + 1 by omega, List.range'_concat, cntF_snoc]
          rw [show lo + 1 * (q - lo) = q by omega]; rfl)
        have HW := Lib.hid hw
        have hc := fun W (h : Own W w.heap.size (.slice (some ⟨w.heap.size, 0, none⟩) 25 25) (cntF (List.range' lo (q - lo)))) => h.cell (j := pop (cN q)) (by omega)
        have HC := Lib.hid hc
        clear hw hc hln
        generalize cntF (List.range' lo (q - lo)) = cs at *
        generalize pop (cN q) = j at *
        go_wp2_with fail
        refine (l3Of_calls _ _ (by omega) (by omega)).mono ?_
        rintro e w1 ⟨rfl, b1⟩
        have HO1 := Lib.hid (ho.out.below b1)
        have c1 := HC.out _ HO1.out
        have f1 := HO1.out.free j
        have HB1 := Lib.hid (hbw.out.trans (b1.mono hbw.out.size))
        have HSET := Lib.hid (HO1.out.set j (cs.getD j 0 + 1))
        clear b1
        generalize cs.getD j 0 = y at *
        go_wp2_with (go_at_call 50; refine (l1Weight_calls _ _).mono ?_; rintro e w' ⟨rfl, rfl⟩; rw [HW.out])
        go_roundw
        case rel => exact ⟨q + 1, by omega, by omega, by go_num, by rw [HS.out]; exact HSET, Lib.hid (HB1.out.setCell (p := ⟨w.heap.size, j, none⟩) (Nat.le_refl _) _)⟩
        case measure => simp [intOf]; omega
      · obtain rfl : q = hi + 1 := by omega
        have hlt' : ¬ ((hi : Int) + 1 ≤ hi) := by omega
        go_wp2
        go_ret2
        exact ⟨_, rfl, ho.out, hbw.out⟩
theorem DrawCodeWeights_calls (A : Option Addr) (c : Nat) (bs : List Int) (w : World) (hr : Rds w w.heap.size .u8 A bs) (hc : bs.length ≤ c) (hm : c ≤ maxLen) (hv : ∀ i, 0 ≤ bs.getD i 0 ∧ bs.getD i 0 ≤ 255) :
    Calls Tryd.prog 28 #[.slice A bs.length c] w fun e w' => ∃ a b : Int, e = .returned (.tuple #[.int .i64 a, .int .i64 b]) ∧ 0 ≤ a ∧ a ≤ 4095 ∧ -400 ≤ b ∧ b ≤ 5000 ∧ Below w.heap.size w w' := by
  go_enter Tryd.func28, Tryd.ntmps28
  go_wp2_with fail
  refine (l6Open_calls A c bs _ hr hc hm hv).mono ?_
  rintro e w1 ⟨g, rfl, hg, r1, b1⟩
  go_wp2_with fail
  refine (pick_calls g 0 4 _ r1 (by omega) (by omega) (by omega)).mono ?_
  rintro e w2 ⟨a, rfl, a0, a1, r2, g2⟩
  by_cases hz : a = 0
  · subst hz
    go_wp2_with fail
    go_ret2
    exact ⟨0, 4095, rfl, by omega, by omega, by omega, by omega, b1.trans (grown_below g2 hg b1.size)⟩
  · have hz1 : (a == 0) = false := by simpa using hz
    clear hz
    go_wp2_with fail
    refine (pick_calls g _ 64 _ r2 (by omega) (by omega) (by omega)).mono ?_
    rintro e w3 ⟨b, rfl, b0, b1', r3, g3⟩
    go_wp2_with fail
    refine (pick_calls g _ 300 _ r3 (by omega) (by omega) (by omega)).mono ?_
    rintro e w4 ⟨d, rfl, d0, d1, r4, g4⟩
    go_wp2_with fail
    refine (pick_calls g _ 20 _ r4 (by omega) (by omega) (by omega)).mono ?_
    rintro e w5 ⟨x, rfl, x0, x1, r5, g5⟩
    have hd : 0 ≤ x / 19 ∧ x / 19 ≤ 1 := by omega
    go_wp2_with fail
    go_ret2
    exact ⟨_, _, rfl, by omega, by omega, by omega, by omega, b1.trans (grown_below (grown_trans g2 (grown_trans g3 (grown_trans g4 g5))) hg b1.size)⟩
end Go.Proofs.YtnbefojdejgccaaDoor
