/- The shape of a vector, of the program; LatticeShape. -/
import Derived.Test.YtmeejnkpaiinaabC163
import Derived.Test.YtmeejnkpaiinaabShelf
import Derived.Sort.OwnSortedInts
namespace Go.Proofs.Ytmeejnkpaiinaab
open Go.RowKit Go.Sort
set_option linter.unusedVariables false
attribute [local irreducible] cN syn

theorem sort_vec (V : World) (g : Nat) (L : List Int) (hl : L.length = 24) (hb : V.heap[g]? = some (.cells (VL L) 36 (0, 0))) :
    Calls Try.prog 29 #[.slice (some ⟨g, 0, none⟩) 24 24] V fun e W => e = .returned (.tuple #[]) ∧ W.heap[g]? = some (.cells (VL (L.mergeSort fun x y => decide (x ≤ y))) 36 (0, 0)) ∧ V.grownBy W (some g) := by
  have hs := Try.slices_Sort_int g 0 24 L V (holds_of_blockI hb (by simp only [VL]; rw [List.take_of_length_le (by simp)])) (Array.getElem?_eq_some_iff.1 hb).1 (by omega)
  rw [hl] at hs
  refine hs.mono ?_
  rintro e W ⟨rfl, n, os, rfl⟩
  refine ⟨rfl, ?_, grownBy_sortedI _⟩
  have h := ownsRow_sortedI (base := g) (os := os) (n := n) (cap := 24) (ts := L.mergeSort fun x y => decide (x ≤ y)) (ss := L) (by simp) (Nat.le_refl _) hb (by omega) (by unfold maxLen; omega) (by rw [VL_size]; omega)
  have hl2 : (L.mergeSort fun x y => decide (x ≤ y)).length = 24 := by rw [List.length_mergeSort, hl]
  rw [hl] at h
  refine own_blockV (B := g) hl2 ?_
  unfold OwnV
  rw [hl2]
  exact h
set_option maxRecDepth 100000 in
set_option maxHeartbeats 2000000 in
theorem shape_calls (xs : List Int) (w : World) (hx : vecB xs = true) :
    Calls Try.prog 19 #[.agg (VL xs)] w fun e w' => e = .returned (.agg (VL (shapeL xs))) ∧ Below w.heap.size w w' := by
  have hlx := vecB_len hx
  obtain ⟨ts, hts⟩ : ∃ ts, (vL fun p => max (atL xs p) (-atL xs p)) = ts := ⟨_, rfl⟩
  have hlt : ts.length = 24 := by rw [← hts]; exact vL_len _
  have HSH := Lib.hid (show shapeL xs = ts.mergeSort fun x y => decide (x ≤ y) by rw [← hts]; rfl)
  have HAT := Lib.hid (fun k (hk : k < 24) => show ts.getD k 0 = max (atL xs k) (-atL xs k) by rw [← hts]; exact vL_get _ k hk)
  have HRG := Lib.hid (fun k => vecB_rng hx k)
  have HX := Lib.hid (vcInfoL xs hlx)
  have hll := shape_len xs
  have HT := Lib.hid (vcInfoL (shapeL xs) hll)
  have HTS := Lib.hid (show (VL z24).size = (VL (shapeL xs)).size by rw [VL_size, VL_size, hll]; rfl)
  have HTA := Lib.hid (VL_all (shapeL xs))
  have HIX := Lib.hid (fun k hk W => vdx24 xs hlx k hk W)
  have HM := Lib.hid (fun k (hk : k ≤ 24) => mixL_len ts xs k hlt hlx hk)
  have HMS := Lib.hid (fun k (hk : k < 24) => mixL_set ts xs k hlt hlx hk)
  have HM0 := Lib.hid (mixL_zero ts xs)
  have HM24 := Lib.hid (mixL_all ts xs hlt hlx)
  have HSO := Lib.hid (fun W g h => sort_vec W g ts hlt h)
  have HVX := Lib.hid (show VL xs = VL (mixL ts xs 0) by rw [mixL_zero])
  rw [← HSH.out] at HSO
  generalize shapeL xs = ss at *
  generalize hVX : VL xs = VX at *
  clear hVX hts hlx hlt hx hll
  go_enter Try.func19, Try.ntmps19
  go_wp2_with (first
    | (refine wpList_load_row rfl 36 _ rfl w.heap.size rfl 36 VX (0, 0) _ (two_heapV w _ _).1 Try.underlying36 rfl HX.out ?_))
  go_loopw [6] (fun i wr => ∃ p : Nat, p ≤ 24 ∧ i = .int .i64 p ∧ Hid (wr.heap[w.heap.size]? = some (.cells (VL (mixL ts xs p)) 36 (0, 0))) ∧ Hid (wr.heap[w.heap.size + 1]? = some (.cells (VL z24) 36 (0, 0))) ∧ Hid (Below w.heap.size w wr)) (fun i _ => 24 - (intOf i).toNat)
  case atStart => exact ⟨0, by omega, rfl, Lib.hid (by rw [← HVX.out]; exact (two_heapV w _ _).1), Lib.hid (two_heapV w _ _).2.1, Lib.hid (two_heapV w _ _).2.2⟩
  case round =>
    obtain ⟨p, hp, rfl, h1, h2, hbl⟩ := hrel
    by_cases hlt : p < 24
    · have hp1 : (0 : Int) ≤ (p : Int) := by omega
      have hp2 : (p : Int) < 24 := by omega
      have hix := HIX.out p hlt
      have hcx := VL_at (j := p) _ (by rw [HM.out p hp]; exact hlt) h1.out
      have hfx : wr.frozen? ⟨w.heap.size, p, none⟩ = false := Lib.frozen_of_heap h1.out _
      have HF := Lib.hid (fun X => row_set (X := X) h1.out (Nat.le_refl _) hbl.out (HMS.out p hlt))
      rw [HAT.out p hlt] at HF
      have hrg := HRG.out p
      generalize (mixL ts xs p).getD p 0 = z at *
      generalize atL xs p = x at *
      have hwn : wrap64 (-x) = -x := wrap64_of _ (by omega) (by omega)
      have hwn2 : IntKind.i64.wrap (-x) = -x := wrap_i64_of _ (by omega) (by omega)
      go_wp2_with fail
      go_roundw
      case rel =>
        refine ⟨p + 1, by omega, by go_num, Lib.hid ?_, Lib.hid ?_, Lib.hid ?_⟩
        · exact (HF.out _ rfl ⟨rfl, rfl, rfl⟩).1
        · exact ((HF.out _ rfl ⟨rfl, rfl, rfl⟩).2.1 _ (by omega)).trans h2.out
        · exact (HF.out _ rfl ⟨rfl, rfl, rfl⟩).2.2
      case measure => simp [intOf]; omega
    · obtain rfl : p = 24 := by omega
      have h1' := h1.out
      rw [HM24.out] at h1'
      have HQ := Lib.hid (HSO.out wr w.heap.size h1')
      have hsz := hbl.out.size
      clear h1' h1
      go_wp2_with fail
      refine HQ.out.mono ?_
      rintro e w3 ⟨rfl, k1, k2⟩
      have K1 := Lib.hid k1
      have K2 := Lib.hid ((k2.block (w.heap.size + 1) (Array.getElem?_eq_some_iff.1 h2.out).1 (by simp)).trans h2.out)
      have KB := Lib.hid (hbl.out.grown k2 hsz (by intro k hk; simp at hk; omega))
      clear k1 k2
      go_wp2_with (first
        | (refine wpList_load_row rfl 36 _ rfl w.heap.size rfl 36 (VL ss) (0, 0) _ K1.out Try.underlying36 rfl HT.out ?_)
        | (refine wpList_store_row rfl 36 _ _ rfl (w.heap.size + 1) (VL ss) rfl rfl 36 (VL z24) K2.out HT.out HTS.out HTA.out ?_))
      exact bodyPost_ret (results_c rfl rfl (setRow_heap _ _ _ _ _ _ K2.out : Blk _ _ _ _) Try.underlying36 rfl HT.out) rfl ⟨rfl, bel_row KB.out (by omega)⟩
set_option maxRecDepth 100000 in
set_option maxHeartbeats 2000000 in
theorem iLatticeShape_calls (A : Option Addr) (c : Nat) (xs : List Int) (w : World) (ha : Rds w w.heap.size .i64 A xs) (hx : xs.length ≤ maxLen) :
    Calls Try.prog 10 #[.slice A xs.length c] w (GotV w (lvShape xs).1 (lvShape xs).2) := by
  have HF := Lib.hid (vecFrom_calls A c xs w ha hx)
  have HI := Lib.hid (vcInfoL (vcL xs) (vcL_len xs))
  have HSZ := Lib.hid (show (VL z24).size = (VL (vcL xs)).size by rw [VL_size, VL_size, vcL_len]; rfl)
  have HALL := Lib.hid (VL_all (vcL xs))
  rcases hb : vecB xs with _ | _
  · rw [show lvShape xs = ([], false) by simp [lvShape, hb]]
    rw [hb] at HF
    clear ha hx hb
    generalize xs.length = n at *
    generalize VL (vcL xs) = V at *
    go_enter Try.func10, Try.ntmps10
    go_wp2_with fail
    refine HF.out.mono ?_
    rintro e w1 ⟨rfl, b1⟩
    have HN := Lib.hid (Blk.new w1 36 (VL z24))
    have HB := Lib.hid (b1.alloc b1.size (.cells (VL z24) 36))
    have hw1 := b1.size
    clear b1
    go_wp2_with (refine wpList_store_row rfl 36 _ _ rfl w1.heap.size V rfl rfl 36 (VL z24) HN.out HI.out HSZ.out HALL.out ?_)
    go_ret2
    exact ⟨_, rfl, OwnV.nil_ _ _, bel_row HB.out hw1⟩
  · rw [show lvShape xs = (shapeL xs, true) by simp [lvShape, hb]]
    have HS := Lib.hid (fun W => shape_calls xs W hb)
    have HL := Lib.hid (fun W => vecList_calls (shapeL xs) W (shape_len xs))
    rw [hb] at HF
    rw [vcL_yes (vecB_len hb)] at HF HI HSZ HALL
    clear ha hx hb
    generalize xs.length = n at *
    generalize shapeL xs = ss at *
    generalize VL xs = V at *
    go_enter Try.func10, Try.ntmps10
    go_wp2_with fail
    refine HF.out.mono ?_
    rintro e w1 ⟨rfl, b1⟩
    have HN := Lib.hid (Blk.new w1 36 (VL z24))
    have HB := Lib.hid (bel_row (T := V) (b1.alloc b1.size (.cells (VL z24) 36)) b1.size)
    have HV := Lib.hid (setRow_heap _ _ _ V _ _ HN.out)
    clear b1
    go_wp2_with (first
      | (refine wpList_store_row rfl 36 _ _ rfl w1.heap.size V rfl rfl 36 (VL z24) HN.out HI.out HSZ.out HALL.out ?_)
      | (refine wpList_load_row rfl 36 _ rfl w1.heap.size rfl 36 V (0, 0) _ HV.out Try.underlying36 rfl HI.out ?_))
    refine (HS.out _).mono ?_
    rintro e w2 ⟨rfl, b2⟩
    have HB2 := Lib.hid (HB.out.trans (b2.mono HB.out.size))
    clear b2
    go_wp2_with fail
    refine (HL.out _).mono ?_
    rintro e w3 ⟨v, rfl, o3, b3⟩
    go_wp2_with fail
    go_ret2
    exact ⟨_, rfl, o3.weak HB2.out.size, HB2.out.trans (b3.mono HB2.out.size)⟩
end Go.Proofs.Ytmeejnkpaiinaab
