/- The permutations of rows of the hexacode and of digits, of both sides. -/
import Derived.Test.YtakefnfhjiodnaaDoorC105
import Derived.Test.YtakefnfhjiodnaaDoorC106
import Derived.Test.YtakefnfhjiodnaaDoorQ5
import Derived.Test.YtakefnfhjiodnaaDoorC22
namespace Go.Proofs.YtakefnfhjiodnaaDoor
open Go.RowKit
set_option linter.unusedVariables false
attribute [local irreducible] cN syn

def hexP (row : List Int) : List Int := (List.range 24).map fun i => ((i / 4 * 4 : Nat) : Int) + xorI ((i % 4 : Nat) : Int) (row.getD (i / 4) 0)
def scP (n : Int) : List Int := (List.range 24).map fun i => ((i / 4 * 4 : Nat) : Int) + mulD ((i % 4 : Nat) : Int) n
def plHex (row : List Int) : List Int × Bool := if hIn row then (hexP row, true) else ([], false)
def plScale (n : Int) : List Int × Bool := if decide (1 ≤ n ∧ n ≤ 3) then (scP n, true) else ([], false)
theorem hexP_len (row : List Int) : (hexP row).length = 24 := by simp [hexP]
theorem scP_len (n : Int) : (scP n).length = 24 := by simp [scP]
theorem hexP_at (row : List Int) (i : Nat) (h : i < 24) : (hexP row).getD i 0 = ((i / 4 * 4 : Nat) : Int) + xorI ((i % 4 : Nat) : Int) (row.getD (i / 4) 0) := by simp [hexP, h]
theorem scP_at (n : Int) (i : Nat) (h : i < 24) : (scP n).getD i 0 = ((i / 4 * 4 : Nat) : Int) + mulD ((i % 4 : Nat) : Int) n := by simp [scP, h]
theorem hexP_get (row : List Int) (c r : Nat) (hc : c < 6) (hr : r < 4) : (hexP row).getD (4 * c + r) 0 = (c : Int) * 4 + xorI (r : Int) (row.getD c 0) := by
  rw [hexP_at row _ (by omega), show (4 * c + r) / 4 = c by omega, show (4 * c + r) % 4 = r by omega]
  omega
theorem scP_get (n : Int) (c r : Nat) (hc : c < 6) (hr : r < 4) : (scP n).getD (4 * c + r) 0 = (c : Int) * 4 + mulD (r : Int) n := by
  rw [scP_at n _ (by omega), show (4 * c + r) / 4 = c by omega, show (4 * c + r) % 4 = r by omega]
  omega
set_option maxHeartbeats 1000000 in
theorem hexClo_calls (g : Nat) (row : List Int) (r c : Nat) (hr : r < 4) (hc : c < 6) (hrow : IsRow6 row) (t : TypeId) (w : World) (hg : w.heap[g]? = some (.cells (vals .u8 row).toArray t (0, 0))) :
    Calls Tryd.prog 84 #[.int .u8 (r : Int), .int .i64 (c : Int), .pointer (some ⟨g, 0, none⟩)] w fun e w' => e = .returned (.int .u8 (xorI (r : Int) (row.getD c 0))) ∧ w = w' := by
  have hd := hrow.get c
  have hcell : w.cell? ⟨g, c, none⟩ = some (.int .u8 (row.getD c 0)) := by
    rw [Lib.cell_of_heap hg]
    have := vals_get .u8 row c (by rw [hrow.1]; exact hc)
    simpa using this
  have hc0 : (0 : Int) ≤ (c : Int) := by omega
  have hc1 : (c : Int) < 6 := by omega
  have HR : Hid (IsD (r : Int)) := Lib.hid ⟨by omega, by omega⟩
  have HDD := Lib.hid hd
  clear hg hrow hd
  generalize row.getD c 0 = d at *
  go_enter Tryd.func84, Tryd.ntmps84
  go_wp2_with (go_at_call 85; refine (digit_add _ _ _ HR.out HDD.out).mono ?_; rintro e w' ⟨rfl, rfl⟩)
  go_ret
  exact ⟨rfl, rfl⟩
set_option maxHeartbeats 1000000 in
theorem scClo_calls (g : Nat) (n : Int) (r c : Nat) (hr : r < 4) (hn : IsD n) (t : TypeId) (w : World) (hg : w.heap[g]? = some (.cells #[.int .u8 n] t (0, 0))) (hT : TabP w) :
    Calls Tryd.prog 91 #[.int .u8 (r : Int), .int .i64 (c : Int), .pointer (some ⟨g, 0, none⟩)] w fun e w' => e = .returned (.int .u8 (mulD (r : Int) n)) ∧ w = w' := by
  have hcell : w.cell? ⟨g, 0, none⟩ = some (.int .u8 n) := by
    rw [Lib.cell_of_heap hg]; rfl
  have HR : Hid (IsD (r : Int)) := Lib.hid ⟨by omega, by omega⟩
  have HN := Lib.hid hn
  clear hg hn
  go_enter Tryd.func91, Tryd.ntmps91
  go_wp2_with (go_at_call 92; refine (digit_times _ _ _ HR.out HN.out hT).mono ?_; rintro e w' ⟨rfl, rfl⟩)
  go_ret
  exact ⟨rfl, rfl⟩
theorem two_heap (w : World) (o0 o1 : Obj) : ((w.alloc o0).alloc o1).heap[w.heap.size]? = some o0 ∧ ((w.alloc o0).alloc o1).heap[w.heap.size + 1]? = some o1 ∧ Below w.heap.size w ((w.alloc o0).alloc o1) := by
  refine ⟨?_, ?_, ((Below.refl _ w).alloc (Nat.le_refl _) _).alloc (by simp) _⟩
  · exact (Below.heap_alloc _ _ _ (by simp; try omega)).trans (heap_alloc_new w _)
  · have := heap_alloc_new (w.alloc o0) o1
    rw [alloc_sz] at this
    exact this
set_option maxRecDepth 100000 in
set_option maxHeartbeats 2000000 in
theorem hexWithin_calls (g : Nat) (row : List Int) (hrow : IsRow6 row) (w : World) (hg : w.heap[g]? = some (.cells (vals .u8 row).toArray 79 (0, 0))) :
    Calls Tryd.prog 83 #[.func (.func 84) #[] #[.pointer (some ⟨g, 0, none⟩)]] w fun e w' => e = .returned (.agg (VL (hexP row))) ∧ Below w.heap.size w w' := by
  have hgl : g < w.heap.size := (Array.getElem?_eq_some_iff.1 hg).1
  have HG := Lib.hid (fun (W : World) (h : Below w.heap.size w W) => (h.block g hgl).trans hg)
  have HTS := Lib.hid (fun c r hc hr => hexP_get row c r hc hr)
  have HD := Lib.hid (fun (c r : Nat) (hc : c < 6) (hr : r < 4) => show IsD (xorI (r : Int) (row.getD c 0)) from xorI_d ⟨by omega, by omega⟩ (hrow.get c))
  have hlt : (hexP row).length = 24 := hexP_len row
  have HT := Lib.hid (pmInfoL (hexP row) hlt)
  have HTZ := Lib.hid (show (VL (hexP row)).size = 24 by rw [VL_size, hlt])
  have HTA := Lib.hid (VL_all (hexP row))
  have HM := Lib.hid (fun k (hk : k ≤ 24) => mixL_len (hexP row) z24 k hlt rfl hk)
  have HMS := Lib.hid (fun k (hk : k < 24) => mixL_set (hexP row) z24 k hlt rfl hk)
  have HM0 := Lib.hid (mixL_zero (hexP row) z24)
  have HM24 := Lib.hid (mixL_all (hexP row) z24 hlt rfl)
  generalize hexP row = ts at *
  clear hg hlt
  go_enter Tryd.func83, Tryd.ntmps83
  go_wp2_with fail
  go_loopw [6] (fun i wr => ∃ p : Nat, p ≤ 6 ∧ i = .int .i64 p ∧ Hid (wr.heap[w.heap.size]? = some (.cells (VL z24) 48 (0, 0))) ∧ Hid (wr.heap[w.heap.size + 1]? = some (.cells (VL (mixL ts z24 (4 * p))) 48 (0, 0))) ∧ Hid (Below w.heap.size w wr)) (fun i _ => 6 - (intOf i).toNat)
  case atStart => exact ⟨0, by omega, rfl, Lib.hid (two_heap w _ _).1, Lib.hid (by rw [HM0.out]; exact (two_heap w _ _).2.1), Lib.hid (two_heap w _ _).2.2⟩
  case round =>
    obtain ⟨p, hp, rfl, h1, h2, hbl⟩ := hrel
    by_cases hlt : p < 6
    · have hp1 : (0 : Int) ≤ (p : Int) := by omega
      have hp2 : (p : Int) < 6 := by omega
      go_wp2_with fail
      go_loopw [9] (fun i wr => ∃ k : Nat, k ≤ 4 ∧ i = .int .i64 k ∧ Hid (wr.heap[w.heap.size]? = some (.cells (VL z24) 48 (0, 0))) ∧ Hid (wr.heap[w.heap.size + 1]? = some (.cells (VL (mixL ts z24 (4 * p + k))) 48 (0, 0))) ∧ Hid (Below w.heap.size w wr)) (fun i _ => 4 - (intOf i).toNat)
      case atStart => exact ⟨0, by omega, rfl, h1, h2, hbl⟩
      case round =>
        obtain ⟨k, hk, rfl, h1, h2, hbl⟩ := hrel
        by_cases hlt2 : k < 4
        · have hk1 : (0 : Int) ≤ (k : Int) := by omega
          have hk2 : (k : Int) < 4 := by omega
          have hst := HTS.out p k hlt hlt2
          have hdd := HD.out p k hlt hlt2
          have hms := HMS.out (4 * p + k) (by omega)
          rw [hst] at hms
          have HCL := Lib.hid (fun (W : World) (h : Below w.heap.size w W) => hexClo_calls g row k p hlt2 hlt hrow _ W (HG.out W h))
          generalize xorI (k : Int) (row.getD p 0) = d at *
          obtain ⟨d0, d1⟩ := hdd
          have HF := Lib.hid (fun X => row_set (X := X) h2.out (by omega) hbl.out hms)
          have hcx := VL_at (j := 4 * p + k) _ (by rw [HM.out _ (by omega)]; omega) h2.out
          have hfx : wr.frozen? ⟨w.heap.size + 1, 4 * p + k, none⟩ = false := Lib.frozen_of_heap h2.out _
          generalize (mixL ts z24 (4 * p + k)).getD (4 * p + k) 0 = z at *
          have hix6 : p * 4 + k = 4 * p + k := by omega
          have hw8 : IntKind.u8.wrap (k : Int) = (k : Int) := by rw [IntKind.wrap_u8]; omega
          have hw64 : IntKind.i64.wrap d = d := by rw [IntKind.wrap_i64]; omega
          clear hst hms
          go_wp2_with (first
            | (go_at_call 123; refine (placeAt_calls _ _ _ (by omega) (by omega) (by omega) (by omega)).mono ?_; rintro e w' ⟨rfl, rfl⟩)
            | (go_at_call 84; refine (HCL.out _ hbl.out).mono ?_; rintro e w' ⟨rfl, rfl⟩))
          go_roundw
          case rel =>
            refine ⟨k + 1, by omega, by go_num, Lib.hid ?_, Lib.hid ?_, Lib.hid ?_⟩
            · exact ((HF.out _ rfl ⟨rfl, rfl, rfl⟩).2.1 _ (by omega)).trans h1.out
            · exact (HF.out _ rfl ⟨rfl, rfl, rfl⟩).1
            · exact (HF.out _ rfl ⟨rfl, rfl, rfl⟩).2.2
          case measure => simp [intOf]; omega
        · obtain rfl : k = 4 := by omega
          go_wp2_with fail
          go_roundw
          case rel => exact ⟨p + 1, by omega, by go_num, h1, Lib.hid (by rw [show 4 * (p + 1) = 4 * p + 4 by omega]; exact h2.out), hbl⟩
          case measure => simp [intOf]; omega
    · obtain rfl : p = 6 := by omega
      have h2' := h2.out
      rw [show 4 * 6 = 24 from rfl, HM24.out] at h2'
      have H2 := Lib.hid h2'
      clear h2'
      go_wp2_with (first
        | (refine wpList_load_row rfl 48 _ rfl (w.heap.size + 1) rfl 48 (VL ts) (0, 0) _ H2.out Tryd.underlying48 rfl HT.out ?_)
        | (refine wpList_store_row rfl 48 _ _ rfl w.heap.size (VL ts) rfl rfl 48 (VL z24) h1.out HT.out (by rw [HTZ.out]; rfl) HTA.out ?_))
      exact bodyPost_ret (results_c rfl rfl (setRow_heap _ _ _ _ _ _ h1.out : Blk _ _ _ _) Tryd.underlying48 rfl HT.out) rfl ⟨rfl, bel_row hbl.out (Nat.le_refl _)⟩
set_option maxRecDepth 100000 in
set_option maxHeartbeats 2000000 in
theorem scWithin_calls (g : Nat) (n : Int) (hn : IsD n) (w : World) (hg : w.heap[g]? = some (.cells #[.int .u8 n] 77 (0, 0))) (hT : TabP w) :
    Calls Tryd.prog 83 #[.func (.func 91) #[] #[.pointer (some ⟨g, 0, none⟩)]] w fun e w' => e = .returned (.agg (VL (scP n))) ∧ Below w.heap.size w w' := by
  have hgl : g < w.heap.size := (Array.getElem?_eq_some_iff.1 hg).1
  have HG := Lib.hid (fun (W : World) (h : Below w.heap.size w W) => (h.block g hgl).trans hg)
  have hT0 := hT.lt
  have HTT := Lib.hid (fun (W : World) (h : Below w.heap.size w W) => hT.below h hT0)
  have HTS := Lib.hid (fun c r hc hr => scP_get n c r hc hr)
  have HD := Lib.hid (fun (c r : Nat) (hc : c < 6) (hr : r < 4) => show IsD (mulD (r : Int) n) from mulD_d ⟨by omega, by omega⟩ hn)
  have hlt : (scP n).length = 24 := scP_len n
  have HT := Lib.hid (pmInfoL (scP n) hlt)
  have HTZ := Lib.hid (show (VL (scP n)).size = 24 by rw [VL_size, hlt])
  have HTA := Lib.hid (VL_all (scP n))
  have HM := Lib.hid (fun k (hk : k ≤ 24) => mixL_len (scP n) z24 k hlt rfl hk)
  have HMS := Lib.hid (fun k (hk : k < 24) => mixL_set (scP n) z24 k hlt rfl hk)
  have HM0 := Lib.hid (mixL_zero (scP n) z24)
  have HM24 := Lib.hid (mixL_all (scP n) z24 hlt rfl)
  generalize scP n = ts at *
  clear hg hlt
  go_enter Tryd.func83, Tryd.ntmps83
  go_wp2_with fail
  go_loopw [6] (fun i wr => ∃ p : Nat, p ≤ 6 ∧ i = .int .i64 p ∧ Hid (wr.heap[w.heap.size]? = some (.cells (VL z24) 48 (0, 0))) ∧ Hid (wr.heap[w.heap.size + 1]? = some (.cells (VL (mixL ts z24 (4 * p))) 48 (0, 0))) ∧ Hid (Below w.heap.size w wr)) (fun i _ => 6 - (intOf i).toNat)
  case atStart => exact ⟨0, by omega, rfl, Lib.hid (two_heap w _ _).1, Lib.hid (by rw [HM0.out]; exact (two_heap w _ _).2.1), Lib.hid (two_heap w _ _).2.2⟩
  case round =>
    obtain ⟨p, hp, rfl, h1, h2, hbl⟩ := hrel
    by_cases hlt : p < 6
    · have hp1 : (0 : Int) ≤ (p : Int) := by omega
      have hp2 : (p : Int) < 6 := by omega
      go_wp2_with fail
      go_loopw [9] (fun i wr => ∃ k : Nat, k ≤ 4 ∧ i = .int .i64 k ∧ Hid (wr.heap[w.heap.size]? = some (.cells (VL z24) 48 (0, 0))) ∧ Hid (wr.heap[w.heap.size + 1]? = some (.cells (VL (mixL ts z24 (4 * p + k))) 48 (0, 0))) ∧ Hid (Below w.heap.size w wr)) (fun i _ => 4 - (intOf i).toNat)
      case atStart => exact ⟨0, by omega, rfl, h1, h2, hbl⟩
      case round =>
        obtain ⟨k, hk, rfl, h1, h2, hbl⟩ := hrel
        by_cases hlt2 : k < 4
        · have hk1 : (0 : Int) ≤ (k : Int) := by omega
          have hk2 : (k : Int) < 4 := by omega
          have hst := HTS.out p k hlt hlt2
          have hdd := HD.out p k hlt hlt2
          have hms := HMS.out (4 * p + k) (by omega)
          rw [hst] at hms
          have HCL := Lib.hid (fun (W : World) (h : Below w.heap.size w W) => scClo_calls g n k p hlt2 hn _ W (HG.out W h) (HTT.out W h))
          generalize mulD (k : Int) n = d at *
          obtain ⟨d0, d1⟩ := hdd
          have HF := Lib.hid (fun X => row_set (X := X) h2.out (by omega) hbl.out hms)
          have hcx := VL_at (j := 4 * p + k) _ (by rw [HM.out _ (by omega)]; omega) h2.out
          have hfx : wr.frozen? ⟨w.heap.size + 1, 4 * p + k, none⟩ = false := Lib.frozen_of_heap h2.out _
          generalize (mixL ts z24 (4 * p + k)).getD (4 * p + k) 0 = z at *
          have hix6 : p * 4 + k = 4 * p + k := by omega
          have hw8 : IntKind.u8.wrap (k : Int) = (k : Int) := by rw [IntKind.wrap_u8]; omega
          have hw64 : IntKind.i64.wrap d = d := by rw [IntKind.wrap_i64]; omega
          clear hst hms
          go_wp2_with (first
            | (go_at_call 123; refine (placeAt_calls _ _ _ (by omega) (by omega) (by omega) (by omega)).mono ?_; rintro e w' ⟨rfl, rfl⟩)
            | (go_at_call 91; refine (HCL.out _ hbl.out).mono ?_; rintro e w' ⟨rfl, rfl⟩))
          go_roundw
          case rel =>
            refine ⟨k + 1, by omega, by go_num, Lib.hid ?_, Lib.hid ?_, Lib.hid ?_⟩
            · exact ((HF.out _ rfl ⟨rfl, rfl, rfl⟩).2.1 _ (by omega)).trans h1.out
            · exact (HF.out _ rfl ⟨rfl, rfl, rfl⟩).1
            · exact (HF.out _ rfl ⟨rfl, rfl, rfl⟩).2.2
          case measure => simp [intOf]; omega
        · obtain rfl : k = 4 := by omega
          go_wp2_with fail
          go_roundw
          case rel => exact ⟨p + 1, by omega, by go_num, h1, Lib.hid (by rw [show 4 * (p + 1) = 4 * p + 4 by omega]; exact h2.out), hbl⟩
          case measure => simp [intOf]; omega
    · obtain rfl : p = 6 := by omega
      have h2' := h2.out
      rw [show 4 * 6 = 24 from rfl, HM24.out] at h2'
      have H2 := Lib.hid h2'
      clear h2'
      go_wp2_with (first
        | (refine wpList_load_row rfl 48 _ rfl (w.heap.size + 1) rfl 48 (VL ts) (0, 0) _ H2.out Tryd.underlying48 rfl HT.out ?_)
        | (refine wpList_store_row rfl 48 _ _ rfl w.heap.size (VL ts) rfl rfl 48 (VL z24) h1.out HT.out (by rw [HTZ.out]; rfl) HTA.out ?_))
      exact bodyPost_ret (results_c rfl rfl (setRow_heap _ _ _ _ _ _ h1.out : Blk _ _ _ _) Tryd.underlying48 rfl HT.out) rfl ⟨rfl, bel_row hbl.out (Nat.le_refl _)⟩
end Go.Proofs.YtakefnfhjiodnaaDoor
