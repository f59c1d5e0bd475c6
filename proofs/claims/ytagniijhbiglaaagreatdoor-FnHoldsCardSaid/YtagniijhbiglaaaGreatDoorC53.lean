/- The octads of a sextet, of the program. -/
import Derived.Test.YtagniijhbiglaaaGreatDoorC52
import Derived.Test.YtagniijhbiglaaaGreatDoorC44
namespace Go.Proofs.YtagniijhbiglaaaGreatDoor
open Go.RowKit Go.Shelf
set_option linter.unusedVariables false
attribute [local irreducible] octS cN octF syn

theorem idxS (a b c d e f : Int) (i : Nat) (h : i < 6) (W : World) : (Instr.index 39 (.agg #[.int .u32 a, .int .u32 b, .int .u32 c, .int .u32 d, .int .u32 e, .int .u32 f]) (.int .i64 (i : Nat))).run Tryz.prog W = .ok (.int .u32 (([a, b, c, d, e, f] : List Int).getD i 0)) W := by
  match i, h with
  | 0, _ => exact idxS0 _ _ _ _ _ _ W
  | 1, _ => exact idxS1 _ _ _ _ _ _ W
  | 2, _ => exact idxS2 _ _ _ _ _ _ W
  | 3, _ => exact idxS3 _ _ _ _ _ _ W
  | 4, _ => exact idxS4 _ _ _ _ _ _ W
  | 5, _ => exact idxS5 _ _ _ _ _ _ W
theorem sliceS (g : Nat) (p : Nat) (h : p < 6) : ∃ A, (∀ W : World, (Instr.sliceAt 39 (.pointer (some ⟨g, 0, none⟩)) (some (.int .i64 ((p : Nat) + 1 : Int))) none none).run Tryz.prog W = .ok (.slice A (5 - p) (5 - p)) W) ∧ (p < 5 → A = some ⟨g, p + 1, none⟩) := by
  have hp : p = 0 ∨ p = 1 ∨ p = 2 ∨ p = 3 ∨ p = 4 ∨ p = 5 := by omega
  have u := Tryz.underlying39
  have ag := Tryz.isAgg39
  have sz := Tryz.sizeOf39
  refine ⟨if p = 5 then some ⟨g, 0, none⟩ else some ⟨g, p + 1, none⟩, fun W => ?_, fun h => by rw [if_neg (by omega)]⟩
  rcases hp with rfl | rfl | rfl | rfl | rfl | rfl
  all_goals go_simp
def z15 : Array Value := #[.int .i64 0, .int .i64 0, .int .i64 0, .int .i64 0, .int .i64 0, .int .i64 0, .int .i64 0, .int .i64 0, .int .i64 0, .int .i64 0, .int .i64 0, .int .i64 0, .int .i64 0, .int .i64 0, .int .i64 0]
theorem mk15 (W : World) : (Instr.makeSlice 23 (.int .i64 0) (.int .i64 15)).run Tryz.prog W = .ok (.slice (some ⟨W.heap.size, 0, none⟩) 0 15) (W.alloc (.cells z15 3)) := by kernel_rfl
theorem own15 (w : World) : Own (w.alloc (.cells z15 3)) w.heap.size (.slice (some ⟨w.heap.size, 0, none⟩) 0 15) [] :=
  ⟨rfl, .inr ⟨w.heap.size, 15, z15, rfl, Nat.le_refl _, heap_alloc_new w _, Nat.zero_le _, by unfold maxLen; omega, rfl, rfl⟩⟩
set_option maxRecDepth 100000 in
set_option maxHeartbeats 1000000 in
theorem octads_calls (L : List Int) (h6 : L.length = 6) (hw : ∀ j, j < 6 → IsW (L.getD j 0)) (w : World) :
    Calls Tryz.prog 16 #[.agg (arrW L)] w fun e w' => ∃ v, e = .returned v ∧ Own w' w.heap.size v (octSx L) ∧ Below w.heap.size w w' := by
  have HW := Lib.hid hw
  have HM := mk15
  have HPP := Lib.hid (pro_perm L)
  have HBLK := Lib.hid (fun j (hj : j < 6) => arrW_at (w := w.alloc (.cells (arrW L) 39)) (g := w.heap.size) (j := j) (t := 39) L (by omega) (heap_alloc_new w _))
  obtain ⟨a, b, c, d, e, f, hL⟩ := six_of h6
  have HIX := Lib.hid (show ∀ (i : Nat), i < 6 → ∀ W, (Instr.index 39 (.agg #[.int .u32 a, .int .u32 b, .int .u32 c, .int .u32 d, .int .u32 e, .int .u32 f]) (.int .i64 (i : Nat))).run Tryz.prog W = .ok (.int .u32 (L.getD i 0)) W from fun i h W => by rw [hL]; exact idxS a b c d e f i h W)
  have HV := Lib.hid (show arrW L = #[.int .u32 a, .int .u32 b, .int .u32 c, .int .u32 d, .int .u32 e, .int .u32 f] by rw [hL]; rfl)
  rw [HV.out] at HBLK
  rw [HV.out]
  clear hw h6 hL HV
  go_enter Tryz.func16, Tryz.ntmps16
  go_wp2_with fail
  have HO := Lib.hid ((own15 (w.alloc (.cells #[.int .u32 a, .int .u32 b, .int .u32 c, .int .u32 d, .int .u32 e, .int .u32 f] 39))))
  have hz0 : (w.alloc (.cells #[.int .u32 a, .int .u32 b, .int .u32 c, .int .u32 d, .int .u32 e, .int .u32 f] 39)).heap.size = w.heap.size + 1 := by simp
  have HB0 := Lib.hid ((Below.refl w.heap.size w).alloc (Nat.le_refl _) (.cells #[.int .u32 a, .int .u32 b, .int .u32 c, .int .u32 d, .int .u32 e, .int .u32 f] 39))
  have HB1 := Lib.hid ((Below.refl (w.heap.size + 1) (w.alloc (.cells #[.int .u32 a, .int .u32 b, .int .u32 c, .int .u32 d, .int .u32 e, .int .u32 f] 39))).alloc (by rw [hz0]; exact Nat.le_refl _) (.cells z15 3))
  rw [hz0] at HO
  go_loopw [3, 10] (fun v i wr => ∃ p : Nat, p ≤ 6 ∧ i = .int .i64 p ∧ Hid (Own wr (w.heap.size + 1) v (proTo L p)) ∧ Hid (Below (w.heap.size + 1) (w.alloc (.cells #[.int .u32 a, .int .u32 b, .int .u32 c, .int .u32 d, .int .u32 e, .int .u32 f] 39)) wr)) (fun _ i _ => 6 - (intOf i).toNat)
  case atStart => exact ⟨0, by omega, rfl, HO, HB1⟩
  case round =>
    obtain ⟨p, hp, rfl, ho, hbl⟩ := hrel
    by_cases hlt : p < 6
    · have hp1 : (0 : Int) ≤ (p : Int) := by omega
      have hp2 : (p : Int) < 6 := by omega
      have hix := HIX.out p hlt
      have hx := HW.out p hlt
      have HE := Lib.hid (show ∃ x, L.getD p 0 = x from ⟨_, rfl⟩)
      generalize hxe : L.getD p 0 = x at *
      have HXE := Lib.hid hxe
      clear hxe HE
      obtain ⟨AA, hsl, hAA⟩ := sliceS w.heap.size p hlt
      have HAA := Lib.hid hAA
      clear hAA
      have hm5 : 5 - p ≤ 5 := by omega
      have hpm : p + 1 + (5 - p) = 6 := by omega
      have HNEXT := Lib.hid (show proTo L p ++ proRow L p (5 - p) = proTo L (p + 1) from rfl)
      generalize 5 - p = m at *
      go_wp2_with fail
      go_loopw [3, 18] (fun v i wr => ∃ k : Nat, k ≤ m ∧ i = .int .i64 k ∧ Hid (Own wr (w.heap.size + 1) v (proTo L p ++ proRow L p k)) ∧ Hid (Below (w.heap.size + 1) (w.alloc (.cells #[.int .u32 a, .int .u32 b, .int .u32 c, .int .u32 d, .int .u32 e, .int .u32 f] 39)) wr)) (fun _ i _ => 6 - (intOf i).toNat)
      case atStart => exact ⟨0, by omega, rfl, Lib.hid (by rw [show proRow L p 0 = [] from rfl, List.append_nil]; exact ho.out), hbl⟩
      case round =>
        obtain ⟨k, hk, rfl, ho, hbl⟩ := hrel
        by_cases hlt2 : k < m
        · obtain rfl := HAA.out (by omega)
          have hq1 : (0 : Int) ≤ (k : Int) := by omega
          have hq2 : (k : Int) < (m : Int) := by omega
          have hc := (hbl.out.cell (p := ⟨w.heap.size, p + 1 + k, none⟩) (Nat.lt_succ_self _)).trans (HBLK.out (p + 1 + k) (by omega))
          have hy := HW.out (p + 1 + k) (by omega)
          have HS := Lib.hid (show proTo L p ++ proRow L p (k + 1) = (proTo L p ++ proRow L p k) ++ [xorI (L.getD p 0) (L.getD (p + 1 + k) 0)] by rw [proRow_succ, List.append_assoc])
          rw [HXE.out] at HS
          have hll : (proTo L p ++ proRow L p k).length ≤ 1048576 := by rw [List.length_append, proRow_len]; have := proTo_le L p; omega
          have wx : IsW (xorI x (L.getD (p + 1 + k) 0)) := ⟨xorI_nonneg _ _, xorI_le _ _ hx.2 hy.2⟩
          generalize proTo L p ++ proRow L p k = T at *
          generalize L.getD (p + 1 + k) 0 = y at *
          have hsz := hbl.out.size
          rw [hz0] at hsz
          generalize hz : xorI x y = z at *
          have HZ := Lib.hid hz
          clear hz
          have wz1 := wx.1
          have wz2 := wx.2
          go_wp2_with (first
            | (go_at_call 27; refine (word_add _ _ _ hx.1 hx.2 hy.1 hy.2).mono ?_; rintro e w' ⟨he, rfl⟩; rw [HZ.out] at he; subst he)
            | (at_builtin; refine wpList_push rfl _ _ rfl _ (w.heap.size + 1) _ _ _ _ rfl rfl (by exact ho.out) hll (by omega) ?_; intro v2 w2 ho2 hb2 _))
          rw [← HS.out] at ho2
          go_roundw
          case rel => exact ⟨k + 1, by omega, by go_num, Lib.hid ho2, Lib.hid (hbl.out.trans hb2)⟩
          case measure => simp [intOf]; omega
        · obtain rfl : k = m := by omega
          rw [HNEXT.out] at ho
          go_wp2_with fail
          go_roundw
          case rel => exact ⟨p + 1, by omega, by go_num, ho, hbl⟩
          case measure => simp [intOf]; omega
    · obtain rfl : p = 6 := by omega
      have hl := proTo_le L 6
      have HSX := Lib.hid (show (proTo L 6).mergeSort (fun x y => decide (x ≤ y)) = octSx L from sortI_congr HPP.out)
      have hl0 : 0 < (proTo L 6).length := by rw [HPP.out.length_eq]; have := octTo_len L 6; omega
      have HSC := Lib.hid (fun V v h => sort_own2 V (w.heap.size + 1) v (proTo L 6) h hl0 (by omega))
      rw [HSX.out] at HSC
      have hob := own_row_ge ho.out
      have hsz := hbl.out.size
      rw [hz0] at hsz
      clear hl hl0
      go_wp2_with fail
      refine (HSC.out _ _ ho.out).mono ?_
      rintro e w3 ⟨rfl, o3, g3⟩
      have HB3 := Lib.hid (HB0.out.trans ((hbl.out.mono (Nat.le_succ _)).trans ((Below.refl w.heap.size wr).grown g3 (by omega) (fun k e => by have := hob k e; omega))))
      go_wp2_with fail
      go_ret
      exact ⟨_, rfl, o3.weak (Nat.le_succ _), HB3.out⟩
set_option maxHeartbeats 1000000 in
theorem iSextetOctads_calls (A : Option Addr) (c : Nat) (xs : List Int) (w : World) (ha : Rds w w.heap.size .i64 A xs) (hx : xs.length ≤ maxLen) (hT : Tab2 w) :
    Calls Tryz.prog 6 #[.slice A xs.length c] w (GotL w (octA xs).1 (octA xs).2) := by
  have HF := Lib.hid (sextetFrom_calls A c xs w ha hx hT)
  have HSF := Lib.hid (sfL_len xs)
  rcases h1 : sxB xs with _ | _
  · rw [show octA xs = ([], false) by unfold octA; rw [h1]; rfl]
    obtain ⟨v0, v1, v2, v3, v4, v5, hs⟩ := six_of (sfL_len xs)
    rw [hs, arrW_six, h1] at HF
    clear ha hx hs h1
    generalize xs.length = n at *
    go_enter Tryz.func6, Tryz.ntmps6
    go_wp2_with fail
    refine HF.out.mono ?_
    rintro e w1 ⟨rfl, b1⟩
    have HB := Lib.hid (b1.alloc b1.size (.cells #[.int .u32 v0, .int .u32 v1, .int .u32 v2, .int .u32 v3, .int .u32 v4, .int .u32 v5] 39))
    clear b1
    go_wp2_with fail
    go_ret2
    exact ⟨_, rfl, Own.nil_ _ _, HB.out⟩
  · rw [show octA xs = (octSx xs, true) by unfold octA; rw [h1]; rfl]
    obtain ⟨l1, hw⟩ := sx_words h1
    have HO := Lib.hid (octads_calls xs l1 hw)
    rw [show sfL xs = xs by unfold sfL; rw [h1]; rfl, h1] at HF
    generalize octSx xs = T at *
    obtain ⟨v0, v1, v2, v3, v4, v5, rfl⟩ := six_of l1
    rw [arrW_six] at HF HO
    clear ha hx hw h1 l1 HSF
    generalize ([v0, v1, v2, v3, v4, v5] : List Int).length = n at *
    go_enter Tryz.func6, Tryz.ntmps6
    go_wp2_with fail
    refine HF.out.mono ?_
    rintro e w1 ⟨rfl, b1⟩
    have HB := Lib.hid (b1.alloc b1.size (.cells #[.int .u32 v0, .int .u32 v1, .int .u32 v2, .int .u32 v3, .int .u32 v4, .int .u32 v5] 39))
    clear b1
    go_wp2_with fail
    refine (HO.out _).mono ?_
    rintro e w2 ⟨v, rfl, o2, b2⟩
    go_wp2_with fail
    go_ret2
    exact ⟨_, rfl, o2.weak HB.out.size, HB.out.trans (b2.mono HB.out.size)⟩
set_option maxHeartbeats 1000000 in
theorem iSextetHolds_calls (A : Option Addr) (c : Nat) (xs : List Int) (x : Int) (w : World) (ha : Rds w w.heap.size .i64 A xs) (hx : xs.length ≤ maxLen) (hT : Tab2 w) :
    Calls Tryz.prog 10 #[.slice A xs.length c, .int .i64 x] w fun e w' => e = .returned (.bool (holdsB xs x)) ∧ Below w.heap.size w w' := by
  have HF := Lib.hid (sextetFrom_calls A c xs w ha hx hT)
  have HSF := Lib.hid (sfL_len xs)
  rcases h1 : sxB xs with _ | _
  · rw [show holdsB xs x = false by unfold holdsB; rw [h1]; rfl]
    obtain ⟨v0, v1, v2, v3, v4, v5, hs⟩ := six_of (sfL_len xs)
    rw [hs, arrW_six, h1] at HF
    clear ha hx hs h1
    generalize xs.length = n at *
    go_enter Tryz.func10, Tryz.ntmps10
    go_wp2_with fail
    refine HF.out.mono ?_
    rintro e w1 ⟨rfl, b1⟩
    have HB := Lib.hid (b1.alloc b1.size (.cells #[.int .u32 v0, .int .u32 v1, .int .u32 v2, .int .u32 v3, .int .u32 v4, .int .u32 v5] 39))
    clear b1
    go_wp2_with fail
    go_ret
    exact ⟨rfl, HB.out⟩
  · obtain ⟨l1, hw⟩ := sx_words h1
    have HO := Lib.hid (octads_calls xs l1 hw)
    have HLN := Lib.hid (octSx_len xs)
    have HR := Lib.hid (show (octSx xs).contains x = holdsB xs x by unfold holdsB; rw [h1]; rfl)
    generalize holdsB xs x = r at *
    rw [show sfL xs = xs by unfold sfL; rw [h1]; rfl, h1] at HF
    generalize octSx xs = T at *
    obtain ⟨v0, v1, v2, v3, v4, v5, rfl⟩ := six_of l1
    rw [arrW_six] at HF HO
    clear ha hx hw h1 l1 HSF
    generalize ([v0, v1, v2, v3, v4, v5] : List Int).length = n at *
    go_enter Tryz.func10, Tryz.ntmps10
    go_wp2_with fail
    refine HF.out.mono ?_
    rintro e w1 ⟨rfl, b1⟩
    have HB := Lib.hid (b1.alloc b1.size (.cells #[.int .u32 v0, .int .u32 v1, .int .u32 v2, .int .u32 v3, .int .u32 v4, .int .u32 v5] 39))
    clear b1
    go_wp2_with fail
    refine (HO.out _).mono ?_
    rintro e w2 ⟨v, rfl, o2, b2⟩
    have HB2 := Lib.hid (HB.out.trans (b2.mono HB.out.size))
    obtain ⟨A2, c2, rfl⟩ := o2.slice
    obtain ⟨b, o, rfl, hb0, _⟩ := o2.rds.at_ (j := 0) (by rw [HLN.out]; decide)
    have HRD := Lib.hid (fun j (hj : j < T.length) => show w2.cell? ⟨b, o + j, none⟩ = some (.int .i64 (T.getD j 0)) by
      obtain ⟨b', o', e', _, h⟩ := o2.rds.at_ hj
      cases e'
      exact h)
    have hcon := Tryz.slices_Contains_int b o T.length c2 T x w2 (Nat.le_refl _) (by rw [HLN.out]; decide) HRD.out
    rw [List.take_of_length_le (Nat.le_refl _), HR.out] at hcon
    have HC := Lib.hid hcon
    clear o2 b2 hcon
    go_wp2_with fail
    refine HC.out.mono ?_
    rintro e w3 ⟨rfl, rfl⟩
    go_wp2_with fail
    go_ret
    exact ⟨rfl, HB2.out⟩
end Go.Proofs.YtagniijhbiglaaaGreatDoor
