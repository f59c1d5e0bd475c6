/- Joined texts: C165 Shelf C166. -/
import Derived.Test.YtiodikflmijhkaaGreatDoorJ14
import Derived.Test.YtiodikflmijhkaaGreatDoorJ12
import Derived.Test.YtiodikflmijhkaaGreatDoorJ28
import Derived.Test.YtiodikflmijhkaaGreatDoorJ07
import Derived.Shelf.Small.Bits
import Derived.Shelf.Small.Wraps
import Derived.Shelf.Strconv.Itoa0
import Derived.Shelf.Sort.Plain
import Derived.Shelf.Slices.Clone
import Derived.Shelf.Slices.SearchI
import Derived.Shelf.Slices.In.SortNone
import Derived.Shelf.SlicesE.Clone
import Derived.Test.YtiodikflmijhkaaGreatDoorProg
import Derived.Test.YtiodikflmijhkaaGreatDoorJ29
import Derived.Sort.OwnSortedInts
section
namespace Go.Proofs.YtiodikflmijhkaaGreatDoor
open Go.RowKit
set_option linter.unusedVariables false
set_option linter.unusedSimpArgs false
attribute [local irreducible] cN syn

theorem bit_of (W : Nat) (k : Nat) : (bitI (W : Int) (k : Int) == 1) = W.testBit k := by
  rw [bitI_nat]
  cases W.testBit k <;> rfl
theorem atL_get {w : World} {b o : Nat} {xs : List Int} {k : Nat} (h : w.cell? ⟨b, o + k, none⟩ = some (.int .i64 (xs.getD k 0))) : w.cell? ⟨b, o + k, none⟩ = some (.int .i64 (atL xs k)) := h
theorem vL_take (f : Nat → Int) (k : Nat) (hk : k < 24) : (vL f).take k ++ [f k] = (vL f).take (k + 1) := by
  rw [take_succ_getD _ k (by rw [vL_len]; exact hk), vL_get f k hk]
set_option maxHeartbeats 1000000 in
theorem l9Flip_calls (A : Option Addr) (c : Nat) (xs : List Int) (W : Nat) (w : World) (ha : Rds w w.heap.size .i64 A xs) (hl : xs.length = 24) (hr : ∀ k, -100000 ≤ atL xs k ∧ atL xs k ≤ 100000) :
    Calls Tryz.prog 61 #[.slice A xs.length c, .int .i64 W] w fun e w' => ∃ v, e = .returned v ∧ Own w' w.heap.size v (vL (flipF W (atL xs))) ∧ Below w.heap.size w w' := by
  have HE := Lib.hid (own_empty2 w w.heap.size (Nat.le_refl _))
  have HST := Lib.hid (fun k hk => vL_take (flipF W (atL xs)) k hk)
  have HF1 := Lib.hid (show ∀ k, W.testBit k = true → flipF W (atL xs) k = -atL xs k by intro k h; simp [flipF, h])
  have HF0 := Lib.hid (show ∀ k, W.testBit k = false → flipF W (atL xs) k = atL xs k by intro k h; simp [flipF, h])
  have HZL := Lib.hid (vL_len (flipF W (atL xs)))
  generalize vL (flipF W (atL xs)) = zs at *
  generalize flipF W (atL xs) = F at *
  have HL := Lib.hid hl
  have HRG := Lib.hid hr
  clear hl hr
  go_enter Tryz.func61, Tryz.ntmps61
  go_wp2_with fail
  go_loopw [5, 6] (fun v i wr => ∃ k : Nat, k ≤ 24 ∧ i = .int .i64 k ∧ Hid (Own wr w.heap.size v (zs.take k)) ∧ Hid (Below w.heap.size w wr)) (fun _ i _ => 24 - (intOf i).toNat)
  case atStart => exact ⟨0, by omega, rfl, HE, Lib.hid ((Below.refl _ _).alloc (Nat.le_refl _) _)⟩
  case round =>
    obtain ⟨k, hk, rfl, ho, hb⟩ := hrel
    clear HE
    by_cases hlt : k < 24
    · obtain ⟨B1, o1, rfl, hB1, c1⟩ := (ha.below hb.out).at_ (j := k) (by have := HL.out; omega)
      replace c1 := atL_get c1
      have k1 : (k : Int) < xs.length := by have := HL.out; omega
      have hlen : (zs.take k).length ≤ 24 := by rw [List.length_take]; omega
      have hrg := HRG.out k
      have hsz := hb.out.size
      have l1 : B1 < wr.heap.size := by omega
      have hbb := bit_of W k
      have HS := Lib.hid (HST.out k hlt)
      cases hB : W.testBit k
      · rw [HF0.out k hB] at HS
        rw [hB] at hbb
        clear hB
        generalize atL xs k = x at *
        go_wp2_with (first
          | (go_at_call 45; refine (l1Bit_calls _ _ _ (by omega) (by omega)).mono ?_; rintro e w' ⟨rfl, rfl⟩)
          | (at_builtin; refine wpList_push rfl _ _ rfl wr w.heap.size u5 (zs.take k) x 1 rfl rfl ho.out (by omega) hsz ?_; intro v2 w2 ho2 hb2 hg2))
        rw [HS.out] at ho2
        go_roundw
        case rel => exact ⟨k + 1, by omega, by go_num, Lib.hid ho2, Lib.hid (hb.out.trans hb2)⟩
        case measure => simp [intOf]; omega
      · rw [HF1.out k hB] at HS
        rw [hB] at hbb
        clear hB
        generalize atL xs k = x at *
        have hwn : wrap64 (-x) = -x := wrap64_of _ (by omega) (by omega)
        go_wp2_with (first
          | (go_at_call 45; refine (l1Bit_calls _ _ _ (by omega) (by omega)).mono ?_; rintro e w' ⟨rfl, rfl⟩)
          | (at_builtin; refine wpList_push rfl _ _ rfl wr w.heap.size u5 (zs.take k) (-x) 1 rfl rfl ho.out (by omega) hsz ?_; intro v2 w2 ho2 hb2 hg2))
        rw [HS.out] at ho2
        go_roundw
        case rel => exact ⟨k + 1, by omega, by go_num, Lib.hid ho2, Lib.hid (hb.out.trans hb2)⟩
        case measure => simp [intOf]; omega
    · obtain rfl : k = 24 := by omega
      have ho2 := ho.out
      rw [List.take_of_length_le (by rw [HZL.out]; omega)] at ho2
      go_wp2
      go_ret
      exact ⟨_, rfl, ho2, hb.out⟩
theorem ones_set (q : Nat) (hq : q < 24) : (List.replicate 24 (1 : Int)).set q (-3) = vL (threeV q) := by
  rw [show List.replicate 24 (1 : Int) = vL (fun _ => 1) from rfl, vL_set _ q (-3) hq]
  rfl
theorem three_at (q k : Nat) : -100000 ≤ atL (vL (threeV q)) k ∧ atL (vL (threeV q)) k ≤ 100000 := by
  by_cases h : k < 24
  · rw [atL_vL _ k h]; unfold threeV; split <;> omega
  · have : atL (vL (threeV q)) k = 0 := by simp [atL, List.getD, List.getElem?_eq_none (show (vL (threeV q)).length ≤ k by rw [vL_len]; omega)]
    omega
set_option maxHeartbeats 1000000 in
theorem sLatticeThree_calls (n q : Int) (w : World) :
    Calls Tryz.prog 29 #[.int .i64 n, .int .i64 q] w (GotL w (lvThree n q).1 (lvThree n q).2) := by
  have HC := Lib.hid (sCodeIn_calls n w)
  rcases hc : cIn n with _ | _
  · rw [show lvThree n q = ([], false) by simp [lvThree, hc]]
    rw [hc] at HC
    clear hc
    go_enter Tryz.func29, Tryz.ntmps29
    go_wp2_with fail
    refine HC.out.mono ?_
    rintro e w1 ⟨rfl, b1⟩
    have HE := Lib.hid (own_empty2 w1 w.heap.size b1.size)
    go_wp2_with fail
    go_ret2
    exact ⟨_, rfl, HE.out, b1.alloc b1.size _⟩
  by_cases hq : 0 ≤ q ∧ q ≤ 23
  · obtain ⟨hq0, hq1⟩ := hq
    rw [show lvThree n q = (vL (flipF n.toNat (threeV q.toNat)), true) by simp [lvThree, hc, hq0, hq1]]
    have hn : IsW n := by simp only [cIn, Bool.and_eq_true] at hc; exact (wordB_iff n).1 hc.1
    rw [hc] at HC
    obtain ⟨W, rfl⟩ := Int.eq_ofNat_of_zero_le hn.1
    obtain ⟨Q, rfl⟩ := Int.eq_ofNat_of_zero_le hq0
    rw [Int.toNat_natCast, Int.toNat_natCast]
    have HFL := Lib.hid (fun A c V h => l9Flip_calls A c (vL (threeV Q)) W V h (vL_len _) (three_at Q))
    rw [vL_len] at HFL
    have HVF := Lib.hid (show vL (flipF W (atL (vL (threeV Q)))) = vL (flipF W (threeV Q)) from vL_ext _ _ fun p hp => by unfold flipF; rw [atL_vL _ p hp])
    rw [HVF.out] at HFL
    have HSET := Lib.hid (ones_set Q (by omega))
    clear hc hn
    go_enter Tryz.func29, Tryz.ntmps29
    go_wp2_with fail
    refine HC.out.mono ?_
    rintro e w1 ⟨rfl, b1⟩
    have HE := Lib.hid (own_empty2 w1 w.heap.size b1.size)
    have HB := Lib.hid (b1.alloc b1.size (.cells #[] 3))
    go_wp2_with (go_at_call 44; refine (l6In_ok _ _ _ _ (by omega) (by omega)).mono ?_; rintro e w' ⟨rfl, rfl⟩)
    go_loopw [6, 7] (fun v i wr => ∃ k : Nat, k ≤ 24 ∧ i = .int .i64 k ∧ Hid (Own wr w.heap.size v (List.replicate k 1)) ∧ Hid (Below w.heap.size w wr)) (fun _ i _ => 24 - (intOf i).toNat)
    case atStart => exact ⟨0, by omega, rfl, HE, HB⟩
    case round =>
      obtain ⟨k, hk, rfl, ho, hb⟩ := hrel
      clear HE HB
      by_cases hlt : k < 24
      · have hsz := hb.out.size
        have hlen : (List.replicate k (1 : Int)).length ≤ 24 := by simp; omega
        have HS := Lib.hid (show List.replicate k (1 : Int) ++ [1] = List.replicate (k + 1) 1 from (List.replicate_succ' ..).symm)
        generalize List.replicate k (1 : Int) = L at *
        go_wp2_with (at_builtin; refine wpList_push rfl _ _ rfl wr w.heap.size u6 L 1 1 rfl rfl ho.out (by omega) hsz ?_; intro v2 w2 ho2 hb2 hg2)
        rw [HS.out] at ho2
        go_roundw
        case rel => exact ⟨k + 1, by omega, by go_num, Lib.hid ho2, Lib.hid (hb.out.trans hb2)⟩
        case measure => simp [intOf]; omega
      · obtain rfl : k = 24 := by omega
        have ho2 := ho.out
        obtain ⟨A5, c5, rfl⟩ := ho2.slice
        rw [List.length_replicate] at ho2 ⊢
        obtain ⟨g, rfl, hg1, hg2⟩ := own_at ho2 (by omega)
        have hcx := ho2.cell (j := Q) (by simp; omega)
        have hfx := ho2.free Q
        have ho3 := ho2.set Q (-3)
        rw [HSET.out] at ho3
        have HO := Lib.hid ho3
        have HB2 := Lib.hid (hb.out.setCell (p := ⟨g, Q, none⟩) hg1 (.int .i64 (-3)))
        have HR := Lib.hid (HFL.out _ c5 _ HO.out.rds)
        clear ho3 ho ho2
        generalize (List.replicate 24 (1 : Int)).getD Q 0 = z at *
        go_wp2_with fail
        refine HR.out.mono ?_
        rintro e w5 ⟨v5, rfl, o5, b5⟩
        go_wp2_with fail
        go_ret2
        exact ⟨_, rfl, o5.weak HB2.out.size, HB2.out.trans (b5.mono HB2.out.size)⟩
  · rw [show lvThree n q = ([], false) by simp [lvThree, hc]; omega]
    rw [hc] at HC
    have hq' : q < 0 ∨ 23 < q := by omega
    clear hc hq
    go_enter Tryz.func29, Tryz.ntmps29
    go_wp2_with fail
    refine HC.out.mono ?_
    rintro e w1 ⟨rfl, b1⟩
    have HE := Lib.hid (own_empty2 w1 w.heap.size b1.size)
    go_wp2_with (go_at_call 44; refine (l6In_no _ _ _ _ hq').mono ?_; rintro e w' ⟨rfl, rfl⟩)
    go_ret2
    exact ⟨_, rfl, HE.out, b1.alloc b1.size _⟩
end Go.Proofs.YtiodikflmijhkaaGreatDoor
end

section
namespace Go.Proofs
open Go.Shelf
def Tryz.lays189_ren : Go.Shelf.Ren := ⟨fun | 189 => 47 | 125 => 89 | 257 => 88 | 128 => 125 | 129 => 126 | 294 => 116 | 295 => 117 | 296 => 118 | 297 => 119 | 298 => 120 | 299 => 121 | 216 => 122 | 300 => 123 | 301 => 124 | 328 => 138 | 329 => 139 | 330 => 140 | 331 => 141 | 332 => 142 | 215 => 143 | 343 => 149 | n => n, fun | 28 => 23 | 3 => 3 | 46 => 82 | 0 => 0 | 51 => 57 | 53 => 67 | 4 => 4 | 183 => 133 | 182 => 132 | 131 => 90 | 5 => 5 | 9 => 9 | 218 => 144 | 222 => 147 | 228 => 152 | 229 => 153 | n => n, fun | n => n⟩
theorem Tryz.lays189 : Go.Proofs.Lays.n189 Tryz.prog Tryz.lays189_ren := {
  mixed := by kernel_rfl
  f125 := Tryz.func89.trans (congrArg some (by kernel_rfl))
  f128 := Tryz.func125.trans (congrArg some (by kernel_rfl))
  f129 := Tryz.func126.trans (congrArg some (by kernel_rfl))
  f189 := Tryz.func47.trans (congrArg some (by kernel_rfl))
  f215 := Tryz.func143.trans (congrArg some (by kernel_rfl))
  f216 := Tryz.func122.trans (congrArg some (by kernel_rfl))
  f257 := Tryz.func88.trans (congrArg some (by kernel_rfl))
  f294 := Tryz.func116.trans (congrArg some (by kernel_rfl))
  f295 := Tryz.func117.trans (congrArg some (by kernel_rfl))
  f296 := Tryz.func118.trans (congrArg some (by kernel_rfl))
  f297 := Tryz.func119.trans (congrArg some (by kernel_rfl))
  f298 := Tryz.func120.trans (congrArg some (by kernel_rfl))
  f299 := Tryz.func121.trans (congrArg some (by kernel_rfl))
  f300 := Tryz.func123.trans (congrArg some (by kernel_rfl))
  f301 := Tryz.func124.trans (congrArg some (by kernel_rfl))
  f328 := Tryz.func138.trans (congrArg some (by kernel_rfl))
  f329 := Tryz.func139.trans (congrArg some (by kernel_rfl))
  f330 := Tryz.func140.trans (congrArg some (by kernel_rfl))
  f331 := Tryz.func141.trans (congrArg some (by kernel_rfl))
  f332 := Tryz.func142.trans (congrArg some (by kernel_rfl))
  f343 := Tryz.func149.trans (congrArg some (by kernel_rfl))
  t0 := Tryz.underlying0
  a0 := Tryz.isAgg0
  z0 := Tryz.sizeOf0
  v0 := Tryz.zeroValue0
  t3 := Tryz.underlying3
  a3 := Tryz.isAgg3
  z3 := Tryz.sizeOf3
  v3 := Tryz.zeroValue3
  t4 := Tryz.underlying4
  a4 := Tryz.isAgg4
  z4 := Tryz.sizeOf4
  v4 := Tryz.zeroValue4
  t5 := Tryz.underlying5
  a5 := Tryz.isAgg5
  z5 := Tryz.sizeOf5
  v5 := Tryz.zeroValue5
  t9 := Tryz.underlying9
  a9 := Tryz.isAgg9
  z9 := Tryz.sizeOf9
  v9 := Tryz.zeroValue9
  t28 := Tryz.underlying23
  a28 := Tryz.isAgg23
  z28 := Tryz.sizeOf23
  v28 := Tryz.zeroValue23
  t46 := Tryz.underlying82
  a46 := Tryz.isAgg82
  z46 := Tryz.sizeOf82
  v46 := Tryz.zeroValue82
  t51 := Tryz.underlying57
  a51 := Tryz.isAgg57
  z51 := Tryz.sizeOf57
  v51 := Tryz.zeroValue57
  t53 := Tryz.underlying67
  a53 := Tryz.isAgg67
  z53 := Tryz.sizeOf67
  v53 := Tryz.zeroValue67
  t131 := Tryz.underlying90
  a131 := Tryz.isAgg90
  z131 := Tryz.sizeOf90
  v131 := Tryz.zeroValue90
  t182 := Tryz.underlying132
  a182 := Tryz.isAgg132
  z182 := Tryz.sizeOf132
  v182 := Tryz.zeroValue132
  t183 := Tryz.underlying133
  a183 := Tryz.isAgg133
  z183 := Tryz.sizeOf133
  v183 := Tryz.zeroValue133
  t218 := Tryz.underlying144
  a218 := Tryz.isAgg144
  z218 := Tryz.sizeOf144
  v218 := Tryz.zeroValue144
  t222 := Tryz.underlying147
  a222 := Tryz.isAgg147
  z222 := Tryz.sizeOf147
  v222 := Tryz.zeroValue147
  t228 := Tryz.underlying152
  a228 := Tryz.isAgg152
  z228 := Tryz.sizeOf152
  v228 := Tryz.zeroValue152
  t229 := Tryz.underlying153
  a229 := Tryz.isAgg153
  z229 := Tryz.sizeOf153
  v229 := Tryz.zeroValue153 }
open Go.Sort Go.RowKit in
theorem Tryz.slices_Sort_int (blk off cap : Nat) (zs : List Int) (w : World) (hH : Holds (Value.int .i64) w blk off zs.toArray) (hblk : blk < w.heap.size) (hsz : zs.length < 4611686018427387904) :
    Calls Tryz.prog 47 #[.slice (some ⟨blk, off, none⟩) zs.length cap] w fun e w' =>
      e = .returned (.tuple #[]) ∧ ∃ n os, w' = grow (putRow (Value.int .i64) (Sort.ahead w n) blk off (zs.mergeSort fun x y => decide (x ≤ y)).toArray) os := Any.slices_Sort_int Tryz.lays189 blk off cap zs w hH hblk hsz
end Go.Proofs
end

section
namespace Go.Proofs.YtiodikflmijhkaaGreatDoor
open Go.RowKit Go.Sort
set_option linter.unusedVariables false
attribute [local irreducible] cN syn

theorem sort_vec (V : World) (g : Nat) (L : List Int) (hl : L.length = 24) (hb : V.heap[g]? = some (.cells (VL L) 36 (0, 0))) :
    Calls Tryz.prog 47 #[.slice (some ⟨g, 0, none⟩) 24 24] V fun e W => e = .returned (.tuple #[]) ∧ W.heap[g]? = some (.cells (VL (L.mergeSort fun x y => decide (x ≤ y))) 36 (0, 0)) ∧ V.grownBy W (some g) := by
  have hs := Tryz.slices_Sort_int g 0 24 L V (holds_of_blockI hb (by simp only [VL]; rw [List.take_of_length_le (by simp)])) (Array.getElem?_eq_some_iff.1 hb).1 (by omega)
  rw [hl] at hs
  refine hs.mono ?_
  rintro e W ⟨rfl, n, os, rfl⟩
  refine ⟨rfl, ?_, grownBy_sortedI _⟩
  have h := ownsRow_sortedI (base := g) (os := os) (n := n) (cap := 24) (ts := L.mergeSort fun x y => decide (x ≤ y)) (ss := L) (by simp) (Nat.le_refl _) hb (by omega) (by unfold maxLen; omega) (by rw [VL_size]; omega)
  have hl2 : (L.mergeSort fun x y => decide (x ≤ y)).length = 24 := by rw [List.length_mergeSort, hl]
  rw [hl] at h
  refine own_blockV (B := g) hl2 ?_
  unfold OwnV
  rw [hl2]
  exact h
set_option maxRecDepth 100000 in
set_option maxHeartbeats 2000000 in
theorem shape_calls (xs : List Int) (w : World) (hx : vecB xs = true) :
    Calls Tryz.prog 23 #[.agg (VL xs)] w fun e w' => e = .returned (.agg (VL (shapeL xs))) ∧ Below w.heap.size w w' := by
  have hlx := vecB_len hx
  obtain ⟨ts, hts⟩ : ∃ ts, (vL fun p => max (atL xs p) (-atL xs p)) = ts := ⟨_, rfl⟩
  have hlt : ts.length = 24 := by rw [← hts]; exact vL_len _
  have HSH := Lib.hid (show shapeL xs = ts.mergeSort fun x y => decide (x ≤ y) by rw [← hts]; rfl)
  have HAT := Lib.hid (fun k (hk : k < 24) => show ts.getD k 0 = max (atL xs k) (-atL xs k) by rw [← hts]; exact vL_get _ k hk)
  have HRG := Lib.hid (fun k => vecB_rng hx k)
  have HX := Lib.hid (vcInfoL xs hlx)
  have hll := shape_len xs
  have HT := Lib.hid (vcInfoL (shapeL xs) hll)
  have HTS := Lib.hid (show (VL z24).size = (VL (shapeL xs)).size by rw [VL_size, VL_size, hll]; rfl)
  have HTA := Lib.hid (VL_all (shapeL xs))
  have HIX := Lib.hid (fun k hk W => vdx24 xs hlx k hk W)
  have HM := Lib.hid (fun k (hk : k ≤ 24) => mixL_len ts xs k hlt hlx hk)
  have HMS := Lib.hid (fun k (hk : k < 24) => mixL_set ts xs k hlt hlx hk)
  have HM0 := Lib.hid (mixL_zero ts xs)
  have HM24 := Lib.hid (mixL_all ts xs hlt hlx)
  have HSO := Lib.hid (fun W g h => sort_vec W g ts hlt h)
  have HVX := Lib.hid (show VL xs = VL (mixL ts xs 0) by rw [mixL_zero])
  rw [← HSH.out] at HSO
  generalize shapeL xs = ss at *
  generalize hVX : VL xs = VX at *
  clear hVX hts hlx hlt hx hll
  go_enter Tryz.func23, Tryz.ntmps23
  go_wp2_with (first
    | (refine wpList_load_row rfl 36 _ rfl w.heap.size rfl 36 VX (0, 0) _ (two_heapV w _ _).1 Tryz.underlying36 rfl HX.out ?_))
  go_loopw [6] (fun i wr => ∃ p : Nat, p ≤ 24 ∧ i = .int .i64 p ∧ Hid (wr.heap[w.heap.size]? = some (.cells (VL (mixL ts xs p)) 36 (0, 0))) ∧ Hid (wr.heap[w.heap.size + 1]? = some (.cells (VL z24) 36 (0, 0))) ∧ Hid (Below w.heap.size w wr)) (fun i _ => 24 - (intOf i).toNat)
  case atStart => exact ⟨0, by omega, rfl, Lib.hid (by rw [← HVX.out]; exact (two_heapV w _ _).1), Lib.hid (two_heapV w _ _).2.1, Lib.hid (two_heapV w _ _).2.2⟩
  case round =>
    obtain ⟨p, hp, rfl, h1, h2, hbl⟩ := hrel
    by_cases hlt : p < 24
    · have hp1 : (0 : Int) ≤ (p : Int) := by omega
      have hp2 : (p : Int) < 24 := by omega
      have hix := HIX.out p hlt
      have hcx := VL_at (j := p) _ (by rw [HM.out p hp]; exact hlt) h1.out
      have hfx : wr.frozen? ⟨w.heap.size, p, none⟩ = false := Lib.frozen_of_heap h1.out _
      have HF := Lib.hid (fun X => row_set (X := X) h1.out (Nat.le_refl _) hbl.out (HMS.out p hlt))
      rw [HAT.out p hlt] at HF
      have hrg := HRG.out p
      generalize (mixL ts xs p).getD p 0 = z at *
      generalize atL xs p = x at *
      have hwn : wrap64 (-x) = -x := wrap64_of _ (by omega) (by omega)
      have hwn2 : IntKind.i64.wrap (-x) = -x := wrap_i64_of _ (by omega) (by omega)
      go_wp2_with fail
      go_roundw
      case rel =>
        refine ⟨p + 1, by omega, by go_num, Lib.hid ?_, Lib.hid ?_, Lib.hid ?_⟩
        · exact (HF.out _ rfl ⟨rfl, rfl, rfl⟩).1
        · exact ((HF.out _ rfl ⟨rfl, rfl, rfl⟩).2.1 _ (by omega)).trans h2.out
        · exact (HF.out _ rfl ⟨rfl, rfl, rfl⟩).2.2
      case measure => simp [intOf]; omega
    · obtain rfl : p = 24 := by omega
      have h1' := h1.out
      rw [HM24.out] at h1'
      have HQ := Lib.hid (HSO.out wr w.heap.size h1')
      have hsz := hbl.out.size
      clear h1' h1
      go_wp2_with fail
      refine HQ.out.mono ?_
      rintro e w3 ⟨rfl, k1, k2⟩
      have K1 := Lib.hid k1
      have K2 := Lib.hid ((k2.block (w.heap.size + 1) (Array.getElem?_eq_some_iff.1 h2.out).1 (by simp)).trans h2.out)
      have KB := Lib.hid (hbl.out.grown k2 hsz (by intro k hk; simp at hk; omega))
      clear k1 k2
      go_wp2_with (first
        | (refine wpList_load_row rfl 36 _ rfl w.heap.size rfl 36 (VL ss) (0, 0) _ K1.out Tryz.underlying36 rfl HT.out ?_)
        | (refine wpList_store_row rfl 36 _ _ rfl (w.heap.size + 1) (VL ss) rfl rfl 36 (VL z24) K2.out HT.out HTS.out HTA.out ?_))
      exact bodyPost_ret (results_c rfl rfl (setRow_heap _ _ _ _ _ _ K2.out : Blk _ _ _ _) Tryz.underlying36 rfl HT.out) rfl ⟨rfl, bel_row KB.out (by omega)⟩
set_option maxRecDepth 100000 in
set_option maxHeartbeats 2000000 in
theorem iLatticeShape_calls (A : Option Addr) (c : Nat) (xs : List Int) (w : World) (ha : Rds w w.heap.size .i64 A xs) (hx : xs.length ≤ maxLen) :
    Calls Tryz.prog 9 #[.slice A xs.length c] w (GotV w (lvShape xs).1 (lvShape xs).2) := by
  have HF := Lib.hid (vecFrom_calls A c xs w ha hx)
  have HI := Lib.hid (vcInfoL (vcL xs) (vcL_len xs))
  have HSZ := Lib.hid (show (VL z24).size = (VL (vcL xs)).size by rw [VL_size, VL_size, vcL_len]; rfl)
  have HALL := Lib.hid (VL_all (vcL xs))
  rcases hb : vecB xs with _ | _
  · rw [show lvShape xs = ([], false) by simp [lvShape, hb]]
    rw [hb] at HF
    clear ha hx hb
    generalize xs.length = n at *
    generalize VL (vcL xs) = V at *
    go_enter Tryz.func9, Tryz.ntmps9
    go_wp2_with fail
    refine HF.out.mono ?_
    rintro e w1 ⟨rfl, b1⟩
    have HN := Lib.hid (Blk.new w1 36 (VL z24))
    have HB := Lib.hid (b1.alloc b1.size (.cells (VL z24) 36))
    have hw1 := b1.size
    clear b1
    go_wp2_with (refine wpList_store_row rfl 36 _ _ rfl w1.heap.size V rfl rfl 36 (VL z24) HN.out HI.out HSZ.out HALL.out ?_)
    go_ret2
    exact ⟨_, rfl, OwnV.nil_ _ _, bel_row HB.out hw1⟩
  · rw [show lvShape xs = (shapeL xs, true) by simp [lvShape, hb]]
    have HS := Lib.hid (fun W => shape_calls xs W hb)
    have HL := Lib.hid (fun W => vecList_calls (shapeL xs) W (shape_len xs))
    rw [hb] at HF
    rw [vcL_yes (vecB_len hb)] at HF HI HSZ HALL
    clear ha hx hb
    generalize xs.length = n at *
    generalize shapeL xs = ss at *
    generalize VL xs = V at *
    go_enter Tryz.func9, Tryz.ntmps9
    go_wp2_with fail
    refine HF.out.mono ?_
    rintro e w1 ⟨rfl, b1⟩
    have HN := Lib.hid (Blk.new w1 36 (VL z24))
    have HB := Lib.hid (bel_row (T := V) (b1.alloc b1.size (.cells (VL z24) 36)) b1.size)
    have HV := Lib.hid (setRow_heap _ _ _ V _ _ HN.out)
    clear b1
    go_wp2_with (first
      | (refine wpList_store_row rfl 36 _ _ rfl w1.heap.size V rfl rfl 36 (VL z24) HN.out HI.out HSZ.out HALL.out ?_)
      | (refine wpList_load_row rfl 36 _ rfl w1.heap.size rfl 36 V (0, 0) _ HV.out Tryz.underlying36 rfl HI.out ?_))
    refine (HS.out _).mono ?_
    rintro e w2 ⟨rfl, b2⟩
    have HB2 := Lib.hid (HB.out.trans (b2.mono HB.out.size))
    clear b2
    go_wp2_with fail
    refine (HL.out _).mono ?_
    rintro e w3 ⟨v, rfl, o3, b3⟩
    go_wp2_with fail
    go_ret2
    exact ⟨_, rfl, o3.weak HB2.out.size, HB2.out.trans (b3.mono HB2.out.size)⟩
end Go.Proofs.YtiodikflmijhkaaGreatDoor
end
