/- PermHex and PermScale, of both sides. -/
import Derived.Test.YtakefnfhjiodnaaDoorC110
import Derived.Deep.RegionHeld3
import Derived.ChangeKeysEq
namespace Go.Proofs.YtakefnfhjiodnaaDoor
open Go.RowKit
set_option linter.unusedVariables false
attribute [local irreducible] cN syn

set_option maxHeartbeats 2000000 in
theorem inHex7_calls (d0 d1 d2 d3 d4 d5 : Int) (w : World) (h0 : IsD d0) (h1 : IsD d1) (h2 : IsD d2) (h3 : IsD d3) (h4 : IsD d4) (h5 : IsD d5) (hT : TabP w) :
    Calls Tryd.prog 82 #[.agg #[.int .u8 d0, .int .u8 d1, .int .u8 d2, .int .u8 d3, .int .u8 d4, .int .u8 d5]] w fun r w' => r = .returned (.bool (hexB [d0, d1, d2, d3, d4, d5])) ∧ Below w.heap.size w w' := by
  have hT1 := hT.alloc (.cells #[.int .u8 d0, .int .u8 d1, .int .u8 d2, .int .u8 d3, .int .u8 d4, .int .u8 d5] 79)
  have HQ := eq_rows d0 d1 d2 d3 d4 d5 d0 d1 d2 (hexF d0 d1 d2 1) (hexF d0 d1 d2 2) (hexF d0 d1 d2 3)
  have e : eqR [d0, d1, d2, d3, d4, d5] [d0, d1, d2, hexF d0 d1 d2 1, hexF d0 d1 d2 2, hexF d0 d1 d2 3] = hexB [d0, d1, d2, d3, d4, d5] := rfl
  rw [e] at HQ
  clear e
  go_enter Tryd.func82, Tryd.ntmps82
  go_wp2_with fail
  go_region_held3 (fun w' => w'.cell? ⟨w.heap.size, 0, none⟩ = some (.int .u8 d0) ∧ w'.cell? ⟨w.heap.size, 1, none⟩ = some (.int .u8 d1) ∧ w'.cell? ⟨w.heap.size, 2, none⟩ = some (.int .u8 d2) ∧ w'.cell? ⟨w.heap.size, 3, none⟩ = some (.int .u8 d3) ∧ w'.cell? ⟨w.heap.size, 4, none⟩ = some (.int .u8 d4) ∧ w'.cell? ⟨w.heap.size, 5, none⟩ = some (.int .u8 d5))
    (first | go_keep | (go_split_ands; refine ⟨?_, ?_, ?_, ?_, ?_, ?_⟩ <;> exact (hb2.cell (p := ⟨w.heap.size, _, none⟩) (by simp)).trans (by assumption)))
    ((go_at_call 126; refine (hexRowOf_calls d0 d1 d2 _ h0 h1 h2 ?_).mono ?_; exact hT1; rintro e w2 ⟨rfl, hb2⟩))
  repeat go_step
  go_ret
  exact ⟨rfl, ((Below.refl w.heap.size w).alloc (Nat.le_refl _) (.cells #[.int .u8 d0, .int .u8 d1, .int .u8 d2, .int .u8 d3, .int .u8 d4, .int .u8 d5] 79)).drew.trans (hb2.mono (by show w.heap.size ≤ (w.alloc _).heap.size; simp))⟩
set_option maxRecDepth 100000 in
set_option maxHeartbeats 2000000 in
theorem iPermHex_calls (A : Option Addr) (c : Nat) (xs : List Int) (w : World) (ha : Rds w w.heap.size .i64 A xs) (hx : xs.length ≤ maxLen) (hT : TabP w) :
    Calls Tryd.prog 42 #[.slice A xs.length c] w (GotL w (plHex xs).1 (plHex xs).2) := by
  rcases hb : rowB xs with _ | _
  · rw [show plHex xs = ([], false) by simp [plHex, hIn, hb]]
    go_enter Tryd.func42, Tryd.ntmps42
    go_wp2_with fail
    refine (hexRowFrom_no _ _ xs _ ha hx ((rowB_no xs).1 hb)).mono ?_
    rintro e w1 ⟨rfl, b1⟩
    clear hb
    unfold noRow
    go_wp2_with fail
    go_ret2
    exact ⟨_, rfl, Own.nil_ _ _, b1.alloc b1.size _⟩
  · obtain ⟨d0, d1, d2, d3, d4, d5, rfl, h0, h1, h2, h3, h4, h5⟩ := ((rowB_iff xs).1 hb).six
    rcases hB : hexB [d0, d1, d2, d3, d4, d5] with _ | _
    · rw [show plHex [d0, d1, d2, d3, d4, d5] = ([], false) by simp [plHex, hIn, hB]]
      have HBB := Lib.hid hB
      clear hb hx hB
      show Calls _ _ #[.slice _ 6 _] _ _
      go_enter Tryd.func42, Tryd.ntmps42
      go_wp2_with fail
      refine (hexRowFrom_ok _ _ d0 d1 d2 d3 d4 d5 _ ha h0 h1 h2 h3 h4 h5).mono ?_
      rintro e w1 ⟨rfl, b1⟩
      have s1 := b1.size
      go_wp2_with fail
      refine (inHex7_calls d0 d1 d2 d3 d4 d5 _ h0 h1 h2 h3 h4 h5 ((hT.below b1 hT.lt).alloc _)).mono ?_
      rintro e w2 ⟨he, b2⟩
      rw [HBB.out] at he
      subst he
      go_wp2_with fail
      go_ret2
      exact ⟨_, rfl, Own.nil_ _ _, (b1.alloc s1 _).trans (b2.mono (by simp only [alloc_sz]; omega))⟩
    · rw [show plHex [d0, d1, d2, d3, d4, d5] = (hexP [d0, d1, d2, d3, d4, d5], true) by simp [plHex, hIn, hb, hB]]
      have HBB := Lib.hid hB
      have hrow : IsRow6 [d0, d1, d2, d3, d4, d5] := isRow6_mk h0 h1 h2 h3 h4 h5
      have HWI := Lib.hid (fun g W h => hexWithin_calls g [d0, d1, d2, d3, d4, d5] hrow W h)
      have HLI := Lib.hid (fun W => pmList_calls (hexP [d0, d1, d2, d3, d4, d5]) W (hexP_len _))
      have HI := Lib.hid (pmInfoL (hexP [d0, d1, d2, d3, d4, d5]) (hexP_len _))
      have HSZ := Lib.hid (show (VL (hexP [d0, d1, d2, d3, d4, d5])).size = 24 by rw [VL_size, hexP_len])
      have HALL := Lib.hid (VL_all (hexP [d0, d1, d2, d3, d4, d5]))
      generalize hexP [d0, d1, d2, d3, d4, d5] = ts at *
      generalize VL ts = V at *
      clear hb hx hB hrow
      show Calls _ _ #[.slice _ 6 _] _ _
      go_enter Tryd.func42, Tryd.ntmps42
      go_wp2_with fail
      refine (hexRowFrom_ok _ _ d0 d1 d2 d3 d4 d5 _ ha h0 h1 h2 h3 h4 h5).mono ?_
      rintro e w1 ⟨rfl, b1⟩
      have s1 := b1.size
      go_wp2_with fail
      refine (inHex7_calls d0 d1 d2 d3 d4 d5 _ h0 h1 h2 h3 h4 h5 ((hT.below b1 hT.lt).alloc _)).mono ?_
      rintro e w2 ⟨he, b2⟩
      rw [HBB.out] at he
      subst he
      have HG2 : Hid (w2.heap[w1.heap.size]? = some (.cells (vals .u8 [d0, d1, d2, d3, d4, d5]).toArray 79 (0, 0))) := Lib.hid ((b2.block w1.heap.size (by simp only [alloc_sz]; omega)).trans (heap_alloc_new w1 _))
      have HB2 := Lib.hid ((b1.alloc s1 (.cells #[.int .u8 d0, .int .u8 d1, .int .u8 d2, .int .u8 d3, .int .u8 d4, .int .u8 d5] 79)).trans (b2.mono (by simp only [alloc_sz]; omega)))
      clear b1 b2
      go_wp2_with fail
      refine (HWI.out _ _ HG2.out).mono ?_
      rintro e w3 ⟨rfl, b3⟩
      have HB3 := Lib.hid (HB2.out.trans (b3.mono HB2.out.size))
      have HN := Lib.hid (Blk.new w3 48 (VL z24))
      have HB4 := Lib.hid (bel_row (T := V) (HB3.out.alloc HB3.out.size (.cells (VL z24) 48)) HB3.out.size)
      have HN2 := Lib.hid (show ((w3.alloc (.cells (VL z24) 48)).setRow w3.heap.size V).heap[w3.heap.size]? = some (.cells V 48 (0, 0)) from setRow_heap _ _ _ _ _ _ HN.out)
      clear b3
      go_wp2_with (first
        | (refine wpList_store_row rfl 48 _ _ rfl w3.heap.size V rfl rfl 48 (VL z24) HN.out HI.out (by rw [HSZ.out]; rfl) HALL.out ?_)
        | (refine wpList_load_row rfl 48 _ rfl w3.heap.size rfl 48 V (0, 0) _ HN2.out Tryd.underlying48 rfl HI.out ?_))
      refine (HLI.out _).mono ?_
      rintro e w5 ⟨v, rfl, o5, b5⟩
      go_wp2_with fail
      go_ret2
      exact ⟨_, rfl, o5.weak HB4.out.size, HB4.out.trans (b5.mono HB4.out.size)⟩
set_option maxRecDepth 100000 in
set_option maxHeartbeats 2000000 in
theorem iPermScale_calls (n : Int) (w : World) (hT : TabP w) :
    Calls Tryd.prog 46 #[.int .i64 n] w (GotL w (plScale n).1 (plScale n).2) := by
  have hT0 := hT.lt
  rcases isD_or n with hn | hn
  · by_cases h0 : n = 0
    · subst h0
      rw [show plScale 0 = ([], false) by simp [plScale]]
      go_enter Tryd.func46, Tryd.ntmps46
      go_wp2_with (go_at_call 90; refine (digitFrom_ok _ _ hn).mono ?_; rintro e w' ⟨rfl, rfl⟩)
      go_ret2
      exact ⟨_, rfl, Own.nil_ _ _, (Below.refl _ _).alloc (Nat.le_refl _) _⟩
    · have hn1 : 1 ≤ n ∧ n ≤ 3 := ⟨by have := hn.1; omega, hn.2⟩
      rw [show plScale n = (scP n, true) by simp [plScale, hn1]]
      have hne : (n == 0) = false := by simpa using h0
      have HWI := Lib.hid (fun g W h hT => scWithin_calls g n hn W h hT)
      have HLI := Lib.hid (fun W => pmList_calls (scP n) W (scP_len _))
      have HI := Lib.hid (pmInfoL (scP n) (scP_len _))
      have HSZ := Lib.hid (show (VL (scP n)).size = 24 by rw [VL_size, scP_len])
      have HALL := Lib.hid (VL_all (scP n))
      have HB2 := Lib.hid ((Below.refl w.heap.size w).alloc (Nat.le_refl _) (.cells #[.int .u8 n] 77))
      have HG2 := Lib.hid (show (w.alloc (.cells #[.int .u8 n] 77)).heap[w.heap.size]? = some (.cells #[.int .u8 n] 77 (0, 0)) from heap_alloc_new w _)
      have HT2 := Lib.hid (hT.below HB2.out hT0)
      generalize scP n = ts at *
      generalize VL ts = V at *
      clear h0
      go_enter Tryd.func46, Tryd.ntmps46
      go_wp2_with (go_at_call 90; refine (digitFrom_ok _ _ hn).mono ?_; rintro e w' ⟨rfl, rfl⟩)
      refine (HWI.out _ _ HG2.out HT2.out).mono ?_
      rintro e w3 ⟨rfl, b3⟩
      have HB3 := Lib.hid (HB2.out.trans (b3.mono HB2.out.size))
      have HN := Lib.hid (Blk.new w3 48 (VL z24))
      have HB4 := Lib.hid (bel_row (T := V) (HB3.out.alloc HB3.out.size (.cells (VL z24) 48)) HB3.out.size)
      have HN2 := Lib.hid (show ((w3.alloc (.cells (VL z24) 48)).setRow w3.heap.size V).heap[w3.heap.size]? = some (.cells V 48 (0, 0)) from setRow_heap _ _ _ _ _ _ HN.out)
      clear b3
      go_wp2_with (first
        | (refine wpList_store_row rfl 48 _ _ rfl w3.heap.size V rfl rfl 48 (VL z24) HN.out HI.out (by rw [HSZ.out]; rfl) HALL.out ?_)
        | (refine wpList_load_row rfl 48 _ rfl w3.heap.size rfl 48 V (0, 0) _ HN2.out Tryd.underlying48 rfl HI.out ?_))
      refine (HLI.out _).mono ?_
      rintro e w5 ⟨v, rfl, o5, b5⟩
      go_wp2_with fail
      go_ret2
      exact ⟨_, rfl, o5.weak HB4.out.size, HB4.out.trans (b5.mono HB4.out.size)⟩
  · rw [show plScale n = ([], false) by
      have : ¬ (1 ≤ n ∧ n ≤ 3) := by unfold NoD at hn; omega
      simp [plScale, this]]
    go_enter Tryd.func46, Tryd.ntmps46
    go_wp2_with (go_at_call 90; refine (digitFrom_no _ _ hn).mono ?_; rintro e w' ⟨rfl, rfl⟩)
    go_ret2
    exact ⟨_, rfl, Own.nil_ _ _, (Below.refl _ _).alloc (Nat.le_refl _) _⟩
end Go.Proofs.YtakefnfhjiodnaaDoor
