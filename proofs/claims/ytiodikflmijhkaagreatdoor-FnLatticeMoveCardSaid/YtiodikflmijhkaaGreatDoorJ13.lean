/- Joined texts: C101 C102 C103 C104 C106 C105 C107 C108. -/
import Derived.Test.YtiodikflmijhkaaGreatDoorJ12
import Derived.Laws.Rows
import Derived.Laws.Tables
import Derived.Laws.CopyOwn
import Derived.Maps.AppendAt
import Derived.Lib.LazyBuf
import Derived.Test.YtiodikflmijhkaaGreatDoorJ08
import Derived.Test.YtiodikflmijhkaaGreatDoorJ09
import Derived.Test.YtiodikflmijhkaaGreatDoorJ04
import Derived.Shelf.RegionOpen
import Derived.Test.YtiodikflmijhkaaGreatDoorJ10
section
namespace Go.Proofs.YtiodikflmijhkaaGreatDoor
open Go.RowKit
set_option linter.unusedVariables false
attribute [local irreducible] cN syn

theorem pmInfo : (Tryz.prog.info? 39).map (·.size) = some 24 := by kernel_rfl
theorem pmInfoL (L : List Int) (h : L.length = 24) : (Tryz.prog.info? 39).map (·.size) = some (VL L).size := by rw [VL_size, h]; exact pmInfo
theorem idx24 (L : List Int) (h : L.length = 24) (k : Nat) (hk : k < 24) (W : World) : (Instr.index 39 (.agg (VL L)) (.int .i64 (k : Int))).run Tryz.prog W = .ok (.int .i64 (L.getD k 0)) W := by
  obtain ⟨x0, x1, x2, x3, x4, x5, x6, x7, x8, x9, x10, x11, x12, x13, x14, x15, x16, x17, x18, x19, x20, x21, x22, x23, rfl⟩ := list24 L h
  match k, hk with
  | 0, _ => exact (show _ = _ by kernel_rfl)
  | 1, _ => exact (show _ = _ by kernel_rfl)
  | 2, _ => exact (show _ = _ by kernel_rfl)
  | 3, _ => exact (show _ = _ by kernel_rfl)
  | 4, _ => exact (show _ = _ by kernel_rfl)
  | 5, _ => exact (show _ = _ by kernel_rfl)
  | 6, _ => exact (show _ = _ by kernel_rfl)
  | 7, _ => exact (show _ = _ by kernel_rfl)
  | 8, _ => exact (show _ = _ by kernel_rfl)
  | 9, _ => exact (show _ = _ by kernel_rfl)
  | 10, _ => exact (show _ = _ by kernel_rfl)
  | 11, _ => exact (show _ = _ by kernel_rfl)
  | 12, _ => exact (show _ = _ by kernel_rfl)
  | 13, _ => exact (show _ = _ by kernel_rfl)
  | 14, _ => exact (show _ = _ by kernel_rfl)
  | 15, _ => exact (show _ = _ by kernel_rfl)
  | 16, _ => exact (show _ = _ by kernel_rfl)
  | 17, _ => exact (show _ = _ by kernel_rfl)
  | 18, _ => exact (show _ = _ by kernel_rfl)
  | 19, _ => exact (show _ = _ by kernel_rfl)
  | 20, _ => exact (show _ = _ by kernel_rfl)
  | 21, _ => exact (show _ = _ by kernel_rfl)
  | 22, _ => exact (show _ = _ by kernel_rfl)
  | 23, _ => exact (show _ = _ by kernel_rfl)
  | n + 24, h => exact absurd h (by omega)
theorem pFrom_yes (A : Option Addr) (c : Nat) (xs : List Int) (lo hi t : Int) (w : World) (ha : Rds w w.heap.size .i64 A xs) (hx : xs.length ≤ maxLen) (h1 : lo ≤ xs.length) (h2 : xs.length ≤ hi) (ht : wof xs = some t) :
    Calls Tryz.prog 38 #[.slice A xs.length c, .int .i64 lo, .int .i64 hi] w fun e w' => e = .returned (.tuple #[.int .u32 t, .bool true]) ∧ w = w' := by
  obtain ⟨⟨t0, t1⟩, _⟩ := wof_char _ xs t rfl ht
  have hx' := hx
  unfold maxLen at hx'
  have hc : IntKind.u32.wrap t = t := wrap_u32_in t t0 (by omega)
  have HS := Lib.hid (iWordOf_calls A c xs w ha hx)
  rw [ht] at HS
  clear ht ha
  go_enter Tryz.func38, Tryz.ntmps38
  go_wp2_with (go_at_call 68; refine HS.out.mono ?_; rintro e w' ⟨he, rfl⟩; simp only [resW] at he; subst he)
  go_ret2
  exact ⟨rfl, rfl⟩
theorem pFrom_no (A : Option Addr) (c : Nat) (xs : List Int) (lo hi : Int) (w : World) (ha : Rds w w.heap.size .i64 A xs) (hx : xs.length ≤ maxLen) (h : (xs.length : Int) < lo ∨ hi < xs.length ∨ wof xs = none) :
    Calls Tryz.prog 38 #[.slice A xs.length c, .int .i64 lo, .int .i64 hi] w fun e w' => e = .returned (.tuple #[.int .u32 0, .bool false]) ∧ w = w' := by
  have hx' := hx
  unfold maxLen at hx'
  by_cases h1 : (xs.length : Int) < lo
  · clear h
    go_enter Tryz.func38, Tryz.ntmps38
    go_wp2_with fail
    go_ret2
    exact ⟨rfl, rfl⟩
  by_cases h2 : hi < (xs.length : Int)
  · clear h
    go_enter Tryz.func38, Tryz.ntmps38
    go_wp2_with fail
    go_ret2
    exact ⟨rfl, rfl⟩
  have h3 : wof xs = none := by
    rcases h with h | h | h
    · exact absurd h h1
    · exact absurd h h2
    · exact h
  have HS := Lib.hid (iWordOf_calls A c xs w ha hx)
  rw [h3] at HS
  clear h h3 ha
  go_enter Tryz.func38, Tryz.ntmps38
  go_wp2_with (go_at_call 68; refine HS.out.mono ?_; rintro e w' ⟨he, rfl⟩; simp only [resW] at he; subst he)
  go_ret2
  exact ⟨rfl, rfl⟩
theorem z24_info : (Tryz.prog.info? 39).map (·.size) = some (VL z24).size := pmInfoL z24 rfl
set_option maxRecDepth 100000 in
set_option maxHeartbeats 2000000 in
theorem permFrom_no (A : Option Addr) (c : Nat) (xs : List Int) (w : World) (ha : Rds w w.heap.size .i64 A xs) (hx : xs.length ≤ maxLen) (hp : permB xs = false) :
    Calls Tryz.prog 16 #[.slice A xs.length c] w fun e w' => e = .returned (.tuple #[.agg (VL z24), .bool false]) ∧ Below w.heap.size w w' := by
  have hno : (xs.length : Int) < 24 ∨ 24 < (xs.length : Int) ∨ wof xs = none := by
    simp only [permB, Bool.and_eq_false_iff, decide_eq_false_iff_not, Option.isSome_eq_false_iff, Option.isNone_iff_eq_none] at hp
    rcases hp with h | h
    · omega
    · exact .inr (.inr h)
  have HS := Lib.hid (fun (W : World) (h : Below w.heap.size w W) => pFrom_no A c xs 24 24 W ((ha.below h).more h.size) hx hno)
  have HB0 := Lib.hid ((Below.refl w.heap.size w).alloc (Nat.le_refl _) (.cells (VL z24) 39))
  have HZ := Lib.hid (Blk.new w 39 (VL z24))
  clear ha hx hp hno
  generalize xs.length = n at *
  go_enter Tryz.func16, Tryz.ntmps16
  go_wp2_with fail
  refine (HS.out _ HB0.out).mono ?_
  rintro e w1 ⟨rfl, hw⟩
  have HZ1 : Hid (Blk w1 w.heap.size 39 (VL z24)) := by rw [← hw]; exact HZ
  have HB1 : Hid (Below w.heap.size w w1) := by rw [← hw]; exact HB0
  clear hw HZ HB0
  go_wp2_with (refine wpList_store_row rfl 39 _ _ rfl w.heap.size (VL z24) rfl rfl 39 (VL z24) HZ1.out z24_info rfl (VL_all _) ?_)
  exact bodyPost_ret (results_ct rfl rfl rfl (setRow_heap _ _ _ _ _ _ HZ1.out : Blk _ _ _ _) Tryz.underlying39 rfl z24_info) rfl ⟨rfl, bel_row HB1.out (Nat.le_refl _)⟩
theorem ifoInt : (Tryz.prog.info? 3).map (·.size) = some 1 := by kernel_rfl
set_option maxRecDepth 100000 in
set_option maxHeartbeats 2000000 in
theorem permFrom_yes (A : Option Addr) (c : Nat) (xs : List Int) (w : World) (ha : Rds w w.heap.size .i64 A xs) (hx : xs.length ≤ maxLen) (hp : permB xs = true) :
    Calls Tryz.prog 16 #[.slice A xs.length c] w fun e w' => e = .returned (.tuple #[.agg (VL xs), .bool true]) ∧ Below w.heap.size w w' := by
  have hl := permB_len hp
  obtain ⟨t, ht⟩ : ∃ t, wof xs = some t := by
    simp only [permB, Bool.and_eq_true, Option.isSome_iff_exists] at hp
    exact hp.2
  have HS := Lib.hid (fun (W : World) (h : Below w.heap.size w W) => pFrom_yes A c xs 24 24 t W ((ha.below h).more h.size) hx (by omega) (by omega) ht)
  have HR := Lib.hid (fun (W : World) (h : Below w.heap.size w W) => (show Rds W w.heap.size .i64 A xs from ha.below h))
  have HB0 := Lib.hid ((Below.refl w.heap.size w).alloc (Nat.le_refl _) (.cells (VL z24) 39))
  have HZ := Lib.hid (Blk.new w 39 (VL z24))
  have HL := Lib.hid hl
  have HX := Lib.hid (pmInfoL xs hl)
  have HALL := Lib.hid (VL_all xs)
  have HVZ := Lib.hid (VL_size xs)
  have hn : ∃ n, n = xs.length := ⟨_, rfl⟩
  have HPOS := Lib.hid (fun (W : World) (h : Below w.heap.size w W) => show ∃ ad, A = some ad ∧ ∀ j v, (vals .i64 xs)[j]? = some v → W.cell? (ad.add j) = some v by
    have hr := ha.below h
    rcases hr with h0 | ⟨b, o, rfl, h2, h3⟩
    · rw [h0] at hl; simp at hl
    · refine ⟨_, rfl, fun j v hj => ?_⟩
      have hjl : j < xs.length := by
        have := (List.getElem?_eq_some_iff.1 hj).1
        rwa [vals_len] at this
      rw [vals_get .i64 xs j hjl] at hj
      cases hj
      have := h3 j hjl
      unfold Addr.add
      by_cases hj0 : j = 0
      · subst hj0; simpa using this
      · simpa [hj0] using this)
  have HNN := Lib.hid hl
  have HSPL := Lib.hid (show splice (vals .i64 z24) 0 (vals .i64 xs) = vals .i64 xs by
    unfold splice
    rw [List.take_zero, List.nil_append, List.drop_of_length_le (by rw [vals_len, vals_len, hl]; decide), List.append_nil])
  have HV1 := Lib.hid (show ∀ v ∈ vals .i64 xs, v.oneCell' = true by
    intro v hv
    simp only [vals, List.mem_map] at hv
    obtain ⟨a, _, rfl⟩ := hv
    rfl)
  clear ha hx hp ht hl
  obtain ⟨n, hn⟩ := hn
  have HN := Lib.hid hn
  rw [← hn] at HS HNN ⊢
  clear hn
  go_enter Tryz.func16, Tryz.ntmps16
  go_wp2_with fail
  refine (HS.out _ HB0.out).mono ?_
  rintro e w1 ⟨rfl, hw⟩
  have HZ1 : Hid (Blk w1 w.heap.size 39 (VL z24)) := by rw [← hw]; exact HZ
  have HB1 : Hid (Below w.heap.size w w1) := by rw [← hw]; exact HB0
  clear hw HZ HB0
  have hlt := HZ1.out.lt
  have HZ2 := Lib.hid (HZ1.out.alloc (.cells (VL z24) 39))
  have HB2 := Lib.hid (HB1.out.alloc HB1.out.size (.cells (VL z24) 39))
  have HN2 := Lib.hid (Blk.new w1 39 (VL z24))
  have HSB := HB1.out.size
  go_wp2_with (first
    | (refine wpList_copy_splice rfl _ _ 23 23 rfl 3 Tryz.underlying23 ifoInt _ _ 24 24 n c rfl rfl w1.heap.size 0 (vals .i64 z24) 39 (by exact HN2.out) (vals .i64 xs) (by rw [vals_len, ← HN.out, HNN.out]; rfl) (fun _ => ⟨rfl, HPOS.out _ HB2.out⟩) (by rw [vals_len, ← HN.out, HNN.out]; decide) (HV1.out) w1.heap.size _ (Below.refl _ _) (Nat.le_refl _) ?_; intro w2 hg2 hb2; (have HG2 : Hid (w2.heap[w1.heap.size]? = some (.cells (VL xs) 39 (0, 0))) := Lib.hid (by have h1 := hg2.out; rw [HSPL.out] at h1; exact h1)); (have HZ3 := Lib.hid (HZ2.out.below hb2 hlt)); (have HB3 := Lib.hid (HB2.out.trans (hb2.mono HSB))); clear hg2 hb2)
    | (refine wpList_load_row rfl 39 _ rfl w1.heap.size rfl 39 (VL xs) (0, 0) _ HG2.out Tryz.underlying39 rfl HX.out ?_)
    | (refine wpList_store_row rfl 39 _ _ rfl w.heap.size (VL xs) rfl rfl 39 (VL z24) HZ3.out HX.out (by rw [HVZ.out, HL.out]; rfl) HALL.out ?_))
  exact bodyPost_ret (results_ct rfl rfl rfl (setRow_heap _ _ _ _ _ _ HZ3.out : Blk _ _ _ _) Tryz.underlying39 rfl HX.out) rfl ⟨rfl, bel_row HB3.out (Nat.le_refl _)⟩
end Go.Proofs.YtiodikflmijhkaaGreatDoor
end

section
namespace Go.Proofs.YtiodikflmijhkaaGreatDoor
open Go.RowKit
set_option linter.unusedVariables false
attribute [local irreducible] cN syn

end Go.Proofs.YtiodikflmijhkaaGreatDoor
end

section
namespace Go.Proofs.YtiodikflmijhkaaGreatDoor
open Go.RowKit
set_option linter.unusedVariables false
attribute [local irreducible] cN syn

end Go.Proofs.YtiodikflmijhkaaGreatDoor
end

section
namespace Go.Proofs.YtiodikflmijhkaaGreatDoor
open Go.RowKit
set_option linter.unusedVariables false
attribute [local irreducible] cN syn

/-- What the first k places have been moved from. -/
def tkN (P : List Nat) (k : Nat) : List Nat := idN.map fun j => if P.idxOf j < k then P.idxOf j else 0
theorem tkN_len (P : List Nat) (k : Nat) : (tkN P k).length = 24 := by simp [tkN, idN]
theorem tkN_get (P : List Nat) (k j : Nat) (h : j < 24) : (tkN P k).getD j 0 = if P.idxOf j < k then P.idxOf j else 0 := by simp [tkN, idN, h]
theorem tkN_zero (P : List Nat) : tkN P 0 = List.replicate 24 0 := by
  refine listN_ext (tkN_len P 0) (by simp) fun i hi => ?_
  rw [tkN_get P 0 i hi, if_neg (by omega)]
  show 0 = (List.replicate 24 0)[i]?.getD 0
  rw [List.getElem?_replicate]
  split <;> rfl
theorem tkN_all {P : List Nat} (h : PermN P) : tkN P 24 = turnN P := by
  refine listN_ext (tkN_len P 24) (turnN_len P) fun i hi => ?_
  rw [tkN_get P 24 i hi, turnN_get i hi, if_pos (idx_lt h i hi)]
theorem tkN_set {P : List Nat} (h : PermN P) (k : Nat) (hk : k < 24) : (tkN P k).set (P.getD k 0) k = tkN P (k + 1) := by
  refine listN_ext (by rw [List.length_set, tkN_len]) (tkN_len P _) fun i hi => ?_
  have hg : ((tkN P k).set (P.getD k 0) k).getD i 0 = if P.getD k 0 = i then k else (tkN P k).getD i 0 := by
    have h1 : i < (tkN P k).length := by rw [tkN_len]; exact hi
    by_cases he : P.getD k 0 = i
    · rw [if_pos he, he]
      simp [h1]
    · rw [if_neg he]
      show ((tkN P k).set (P.getD k 0) k)[i]?.getD 0 = (tkN P k)[i]?.getD 0
      rw [List.getElem?_set_ne he]
  rw [hg, tkN_get P _ i hi, tkN_get P _ i hi]
  by_cases he : P.getD k 0 = i
  · have e : P.idxOf i = k := by rw [← he, idx_get h k hk]
    rw [if_pos he, e, if_pos (by omega)]
  · have e : P.idxOf i ≠ k := fun e => he (by rw [← e, get_idx h i hi])
    rw [if_neg he]
    by_cases h2 : P.idxOf i < k
    · rw [if_pos h2, if_pos (by omega)]
    · rw [if_neg h2, if_neg (by omega)]
theorem intP_set (P : List Nat) (j k : Nat) : (intP P).set j (k : Int) = intP (P.set j k) := by simp [intP, List.map_set]
set_option maxRecDepth 100000 in
set_option maxHeartbeats 2000000 in
theorem turned_calls (xs : List Int) (w : World) (hp : permB xs = true) :
    Calls Tryz.prog 21 #[.agg (VL xs)] w fun e w' => e = .returned (.agg (VL (intP (turnN (natP xs))))) ∧ Below w.heap.size w w' := by
  have hlx := permB_len hp
  obtain ⟨hP, _⟩ := permB_perm hp
  have HAT := Lib.hid (fun k hk => permB_at hp k hk)
  have HX := Lib.hid (pmInfoL xs hlx)
  have HT := Lib.hid (pmInfoL (intP (turnN (natP xs))) (by rw [intP_len, turnN_len]))
  have HTS := Lib.hid (show (VL (intP (turnN (natP xs)))).size = 24 by rw [VL_size, intP_len, turnN_len])
  have HTA := Lib.hid (VL_all (intP (turnN (natP xs))))
  have HIX := Lib.hid (fun k hk W => idx24 xs hlx k hk W)
  have HML := Lib.hid (fun k => show (intP (tkN (natP xs) k)).length = 24 by rw [intP_len, tkN_len])
  have HMS := Lib.hid (fun k (hk : k < 24) => show (intP (tkN (natP xs) k)).set ((natP xs).getD k 0) (k : Int) = intP (tkN (natP xs) (k + 1)) by rw [intP_set, tkN_set hP k hk])
  have HM0 := Lib.hid (show intP (tkN (natP xs) 0) = z24 by rw [tkN_zero]; rfl)
  have HM24 := Lib.hid (show intP (tkN (natP xs) 24) = intP (turnN (natP xs)) by rw [tkN_all hP])
  generalize intP (turnN (natP xs)) = ts at *
  obtain ⟨M, hM⟩ : ∃ M : Nat → List Int, (fun k => intP (tkN (natP xs) k)) = M := ⟨_, rfl⟩
  have hMk : ∀ k, intP (tkN (natP xs) k) = M k := fun k => by rw [← hM]
  simp only [hMk] at HML HMS HM0 HM24
  generalize hVX : VL xs = VX at *
  clear hVX hM hMk hP hlx hp
  go_enter Tryz.func21, Tryz.ntmps21
  go_wp2_with (first
    | (refine wpList_load_row rfl 39 _ rfl w.heap.size rfl 39 VX (0, 0) _ (three_heap w _ _ _).1 Tryz.underlying39 rfl HX.out ?_))
  go_loopw [7] (fun i wr => ∃ p : Nat, p ≤ 24 ∧ i = .int .i64 p ∧ Hid (wr.heap[w.heap.size + 1]? = some (.cells (VL z24) 39 (0, 0))) ∧ Hid (wr.heap[w.heap.size + 2]? = some (.cells (VL (M p)) 39 (0, 0))) ∧ Hid (Below w.heap.size w wr)) (fun i _ => 24 - (intOf i).toNat)
  case atStart => exact ⟨0, by omega, rfl, Lib.hid (three_heap w _ _ _).2.1, Lib.hid (by rw [HM0.out]; exact (three_heap w _ _ _).2.2.1), Lib.hid (three_heap w _ _ _).2.2.2⟩
  case round =>
    obtain ⟨p, hp, rfl, h1, h2, hbl⟩ := hrel
    by_cases hlt : p < 24
    · have hp1 : (0 : Int) ≤ (p : Int) := by omega
      have hp2 : (p : Int) < 24 := by omega
      obtain ⟨eq1, hq⟩ := HAT.out p hlt
      have hix := HIX.out p hlt
      rw [eq1] at hix
      have HF := Lib.hid (fun X => row_set (X := X) h2.out (by omega) hbl.out (HMS.out p hlt))
      generalize (natP xs).getD p 0 = q at *
      have hq1 : (0 : Int) ≤ (q : Int) := by omega
      have hq2 : (q : Int) < 24 := by omega
      have hcx := VL_at (j := q) _ (by rw [HML.out p]; exact hq) h2.out
      have hfx : wr.frozen? ⟨w.heap.size + 2, q, none⟩ = false := Lib.frozen_of_heap h2.out _
      clear eq1
      generalize (M p).getD q 0 = z at *
      go_wp2_with fail
      go_roundw
      case rel =>
        refine ⟨p + 1, by omega, by go_num, Lib.hid ?_, Lib.hid ?_, Lib.hid ?_⟩
        · exact ((HF.out _ rfl ⟨rfl, rfl, rfl⟩).2.1 _ (by omega)).trans h1.out
        · exact (HF.out _ rfl ⟨rfl, rfl, rfl⟩).1
        · exact (HF.out _ rfl ⟨rfl, rfl, rfl⟩).2.2
      case measure => simp [intOf]; omega
    · obtain rfl : p = 24 := by omega
      have h2' := h2.out
      rw [HM24.out] at h2'
      have H2 := Lib.hid h2'
      clear h2'
      go_wp2_with (first
        | (refine wpList_load_row rfl 39 _ rfl (w.heap.size + 2) rfl 39 (VL ts) (0, 0) _ H2.out Tryz.underlying39 rfl HT.out ?_)
        | (refine wpList_store_row rfl 39 _ _ rfl (w.heap.size + 1) (VL ts) rfl rfl 39 (VL z24) h1.out HT.out (by rw [HTS.out]; rfl) HTA.out ?_))
      exact bodyPost_ret (results_c rfl rfl (setRow_heap _ _ _ _ _ _ h1.out : Blk _ _ _ _) Tryz.underlying39 rfl HT.out) rfl ⟨rfl, bel_row hbl.out (by omega)⟩
end Go.Proofs.YtiodikflmijhkaaGreatDoor
end

section
namespace Go.Proofs.YtiodikflmijhkaaGreatDoor
open Go.RowKit
set_option linter.unusedVariables false
attribute [local irreducible] cN syn

end Go.Proofs.YtiodikflmijhkaaGreatDoor
end

section
namespace Go.Proofs.YtiodikflmijhkaaGreatDoor
open Go.RowKit
set_option linter.unusedVariables false
attribute [local irreducible] cN syn

def pL (xs : List Int) : List Int := if permB xs then xs else z24
theorem pL_len (xs : List Int) : (pL xs).length = 24 := by
  unfold pL
  split
  · rename_i h; exact permB_len h
  · rfl
theorem pL_yes {xs : List Int} (h : permB xs = true) : pL xs = xs := by simp [pL, h]
theorem pL_no {xs : List Int} (h : permB xs = false) : pL xs = z24 := by simp [pL, h]
theorem permFrom_calls (A : Option Addr) (c : Nat) (xs : List Int) (w : World) (ha : Rds w w.heap.size .i64 A xs) (hx : xs.length ≤ maxLen) :
    Calls Tryz.prog 16 #[.slice A xs.length c] w fun e w' => e = .returned (.tuple #[.agg (VL (pL xs)), .bool (permB xs)]) ∧ Below w.heap.size w w' := by
  rcases hp : permB xs with _ | _
  · rw [pL_no hp]; exact permFrom_no A c xs w ha hx hp
  · rw [pL_yes hp]; exact permFrom_yes A c xs w ha hx hp
end Go.Proofs.YtiodikflmijhkaaGreatDoor
end

section
namespace Go.Proofs.YtiodikflmijhkaaGreatDoor
open Go.RowKit Go.Shelf
attribute [local go_sem] Oper.semAt_some
set_option linter.unusedVariables false
attribute [local irreducible] cN syn

theorem lin_snoc : ∀ (A : List Nat) (a v : Nat), lin (A ++ [a]) v = lin A v ^^^ if v.testBit A.length then a else 0
  | [], a, v => by
    simp only [List.nil_append, lin, List.length_nil, Nat.testBit_zero]
    have : v % 2 = 0 ∨ v % 2 = 1 := by omega
    rcases this with h | h <;> simp [h]
  | b :: A, a, v => by
    simp only [List.cons_append, lin, List.length_cons]
    rw [lin_snoc A a (v / 2), Nat.xor_assoc]
    simp only [Nat.testBit_succ]
def fV (pre : List (Fin 24)) : List Nat := pre.map fun x => x.val
/-- The word of the moved places. -/
def mvF (P : List Nat) (pre : List Nat) : Nat := pre.foldl (fun m x => m ^^^ 2 ^ P.getD x 0) 0
theorem mvF_snoc (P pre : List Nat) (x : Nat) : mvF P (pre ++ [x]) = mvF P pre ^^^ 2 ^ P.getD x 0 := by simp [mvF]
theorem mvF_plN {P : List Nat} (R : Nat) : ∀ k, k ≤ P.length → mvF P (plN R k) = lin ((pws P).take k) R
  | 0, _ => rfl
  | k + 1, hk => by
    have hl : ((pws P).take k).length = k := by rw [List.length_take, pws_len]; omega
    have hk' : k < (pws P).length := by rw [pws_len]; omega
    have e : (pws P)[k] = 2 ^ P.getD k 0 := by rw [← pws_get k (by omega)]; simp [hk']
    rw [plN_succ, List.take_succ_eq_append_getElem hk', lin_snoc, hl, ← mvF_plN R k (by omega), e]
    by_cases hb : R.testBit k = true
    · rw [if_pos hb, if_pos hb, mvF_snoc]
    · rw [if_neg hb, if_neg hb, List.append_nil, Nat.xor_zero]
theorem mvF_pl {P : List Nat} (h : P.length = 24) (R : Nat) : mvF P (pl R) = movN P R := by
  show mvF P (plN R 24) = lin (pws P) R
  rw [mvF_plN R 24 (by omega), List.take_of_length_le (by rw [pws_len]; omega)]
theorem mvF_lt {P : List Nat} (h : PermN P) (pre : List (Fin 24)) : mvF P (pre.map fun x => x.val) < 16777216 := by
  induction pre using snocInd with
  | nil => show (0 : Nat) < 16777216; decide
  | append_singleton pre x ih =>
    rw [List.map_append, List.map_cons, List.map_nil, mvF_snoc]
    refine Nat.xor_lt_two_pow (n := 24) ih ?_
    exact Nat.pow_lt_pow_right (by decide) (h.get _ x.isLt)
theorem mvF_xor {P : List Nat} (h : PermN P) (pre : List (Fin 24)) (x : Fin 24) : xorI ((mvF P (fV pre) : Nat) : Int) (powI ((P.getD x.val 0 : Nat) : Int)) = ((mvF P (fV (pre ++ [x])) : Nat) : Int) := by
  have e : fV (pre ++ [x]) = fV pre ++ [x.val] := by simp [fV]
  rw [e, mvF_snoc]
  unfold xorI powI
  have e2 : ((2 : Int) ^ ((P.getD x.val 0 : Nat) : Int).toNat).toNat = 2 ^ P.getD x.val 0 := by
    rw [Int.toNat_natCast, Int.toNat_pow_of_nonneg (by omega)]
    rfl
  rw [e2, Int.toNat_natCast]
theorem move_step {w W : World} {VX : Array Value} {m m' Z : Int} (hB : Below w.heap.size w W) (hc : W.cell? ⟨w.heap.size + 1, 0, none⟩ = some (.int .u32 m)) (hf : W.frozen? ⟨w.heap.size + 1, 0, none⟩ = false)
    (hp : W.heap[w.heap.size]? = some (.cells VX 39 (0, 0))) (he : Z = m') :
    let W' := (W.setCell ⟨w.heap.size + 1, 0, none⟩ (.int .u32 Z)).drew
    KeepsOthers W W' ∧ Below w.heap.size W W' ∧ ((W'.cell? ⟨w.heap.size + 1, 0, none⟩ = some (.int .u32 m') ∧ W'.frozen? ⟨w.heap.size + 1, 0, none⟩ = false) ∧ W'.heap[w.heap.size]? = some (Obj.cells VX 39 (0, 0))) ∧ Below w.heap.size w W' := by
  intro W'
  have b : Below w.heap.size W W' := ((Below.refl _ W).setCell (p := ⟨w.heap.size + 1, 0, none⟩) (by simp) _).drew
  refine ⟨(KeepsOthers.setCell _ _ _).trans (KeepsOthers.drew _), b, ⟨⟨?_, ?_⟩, ?_⟩, hB.trans b⟩
  · show World.cell? (World.drew _) _ = _
    rw [World.cell?_drew, World.cell?_setCell_same _ _ _ hc, he]
  · show World.frozen? (World.drew _) _ = _
    rw [frozen_drew_own, World.frozen?_setCell]; exact hf
  · exact (Below.heap_setCell W _ _ _ (by simp)).trans hp
set_option maxRecDepth 100000 in
set_option maxHeartbeats 2000000 in
theorem move_in (xs : List Int) (hp : permB xs = true) (R : Nat) (hR : R < 16777216) (w : World) (hT : TabB w) :
    CallsIn Fence.wide 6 Tryz.prog 48 #[.agg (VL xs), .int .u32 R] w fun e w' => e = .returned (.int .u32 ((movN (natP xs) R : Nat) : Int)) ∧ Below w.heap.size w w' := by
  refine callsIn_of_wp_marks Tryz.func48 rfl trivial ?_ rfl
  simp only [Tryz.ntmps48, List.size_toArray, List.length_cons, List.length_nil, Nat.reduceAdd, Nat.reduceSub, Array.replicate_succ, Array.replicate_zero, List.push_toArray, List.append_toArray, List.nil_append, List.cons_append]
  obtain ⟨hP, _⟩ := permB_perm hp
  have HAT := Lib.hid (fun k hk => permB_at hp k hk)
  have HCX := Lib.hid (fun (W : World) g t (h : W.heap[g]? = some (Obj.cells (VL xs) t (0, 0))) (p : Nat) (hk : p < 24) => VL_at (j := p) xs (by rw [permB_len hp]; exact hk) h)
  have HLT := Lib.hid (fun pre => mvF_lt hP pre)
  have HXR := Lib.hid (fun pre x => mvF_xor hP pre x)
  have HEND := Lib.hid (mvF_pl hP.1 R)
  obtain ⟨VX, hVX⟩ : ∃ V, VL xs = V := ⟨_, rfl⟩
  rw [hVX] at HCX ⊢
  clear hVX hP hp
  gi_wp2_with (refine ⟨trivial, ?_⟩; gi_at_call 90; refine (places_in _ _ _).mono ?_; rintro e w' ⟨rfl, rfl⟩)
  have h4 := Boxed.new (w.alloc (.cells VX 39)) 58 (.int .u32 0)
  have hb := Boxed.new ((w.alloc (.cells VX 39)).alloc (.cells #[.int .u32 0] 58)) 58 (.int .u32 R)
  simp only [World.size_alloc] at h4 hb
  have hpb := (three_heap w (.cells VX 39) (.cells #[.int .u32 0] 58) (.cells #[.int .u32 R] 58)).1
  have hB0 : Below w.heap.size w (((w.alloc (.cells VX 39)).alloc (.cells #[.int .u32 0] 58)).alloc (.cells #[.int .u32 R] 58)) := (((Below.refl _ w).alloc (Nat.le_refl _) _).alloc (by simp) _).alloc (by simp; omega) _
  obtain ⟨ys, hxs⟩ := plF_ex R
  have HV := Lib.hid hxs
  have hxl : ys.length ≤ 24 := by have := congrArg List.length hxs; have := pl_len R; simp at *; omega
  refine wpIn_rangeFunc_ownF rfl (by omega) (gf := 127) (lb := #[.pointer (some ⟨w.heap.size + 1 + 1, 0, none⟩)]) rfl trivial (enters_of Tryz.func127 (by kernel_rfl) rfl)
    (places_stops 5 (by omega) (w.heap.size + 1 + 1) w.heap.size R hR ys hxs _ (by simp) (by simp; omega) hT.lt hb.cell (hT.below hB0 hT.lt)) belowK_t (belowK_b (by simp; omega)) (Below.refl _ _) (fun _ => rfl)
    (fun pre W => ((W.cell? ⟨w.heap.size + 1, 0, none⟩ = some (.int .u32 ((mvF (natP xs) (fV pre) : Nat) : Int)) ∧ W.frozen? ⟨w.heap.size + 1, 0, none⟩ = false) ∧ W.heap[w.heap.size]? = some (Obj.cells VX 39 (0, 0))) ∧ Below w.heap.size w W)
    (fun _ _ _ => False)
    (OwnFrom.and (Go.Own.from (fun s A B row hs hg hr => ⟨⟨cell_kept hs.1.1 hg hr, (frozen_kept hs.1.1 hg hr).trans hs.1.2⟩, (grownBy_keeps_cells hg hr hs.2 rfl).trans hs.2⟩) _) (ownFrom_below (Nat.le_refl _) (by simp; omega)))
    (fun _ _ _ _ _ hs _ _ => hs)
    ⟨⟨⟨(h4.alloc _).cell, (h4.alloc _).frozen⟩, hpb⟩, hB0⟩
    (fun x => { tmps := #[.agg VX, .int .u32 R, .pointer (some ⟨w.heap.size, 0, none⟩), undef, .int .u32 0, .pointer (some ⟨w.heap.size + 1, 0, none⟩), .int .i64 (x.val : Nat), .int .u32 R, .func (.func 127) #[] #[.pointer (some ⟨w.heap.size + 1 + 1, 0, none⟩)], .int .i64 (x.val : Nat), undef, undef, undef, undef, undef, undef, undef], defers := [] }) ?assign ?body ?done ?stop
  case assign =>
    intro l x W K hK
    gi_wp2
    exact hK
  case body =>
    rintro l pre x W ⟨⟨⟨hc, hf⟩, hpp⟩, hB⟩ hlt
    have hd : 1 ≤ 6 - 1 - 1 := by omega
    have hmx : Tryz.prog.follows .mixedOrders = true := by kernel_rfl
    have hx24 := x.isLt
    obtain ⟨e1, hq⟩ := HAT.out x.val hx24
    have hcx := HCX.out W _ _ hpp x.val hx24
    rw [e1] at hcx
    have HX := Lib.hid (HXR.out pre x)
    have hlt2 := HLT.out pre
    have hm0 : (0 : Int) ≤ ((mvF (natP xs) (fV pre) : Nat) : Int) := by omega
    have hm1 : ((mvF (natP xs) (fV pre) : Nat) : Int) ≤ 16777215 := by
      have : mvF (natP xs) (fV pre) < 16777216 := hlt2
      omega
    have hx0 : (0 : Int) ≤ (x.val : Int) := by omega
    have hx1 : (x.val : Int) < 24 := by omega
    clear e1 hlt2
    generalize (natP xs).getD x.val 0 = q at *
    have hq0 : (0 : Int) ≤ (q : Int) := by omega
    have hq1 : (q : Int) ≤ 23 := by omega
    have hpw := powI_le (q : Int) hq0 hq1
    have hpw0 := powI_pos (q : Int)
    have HPP := Lib.hid hpp
    clear hpp
    generalize ((mvF (natP xs) (fV pre) : Nat) : Int) = m at *
    gi_wp2
    gi_region_with_o (first
      | (refine ⟨trivial, ?_⟩; gi_at_call 91; refine (CallsIn.inRound l (callsIn_wide.2 (wordAt_calls (q : Int) _ hq0 hq1))).mono ?_; rintro e w' ⟨rfl, rfl⟩)
      | (refine ⟨trivial, ?_⟩; gi_at_call 52; refine (CallsIn.inRound l (callsIn_wide.2 (word_add m (powI q) _ hm0 hm1 (by omega) (by omega)))).mono ?_; rintro e w' ⟨rfl, rfl⟩))
    all_goals gi_wp2
    all_goals exact move_step hB hc hf HPP.out HX.out
  case done =>
    rintro D zs W hD rfl ⟨⟨⟨hc, hf⟩, hpp⟩, hB⟩ hK
    have he : mvF (natP xs) (fV zs) = movN (natP xs) R := by
      rw [← HEND.out, ← HV.out]; rfl
    rw [he] at hc
    clear hpp
    gi_wp2
    refine ⟨by simp, .inl ⟨_, _, rfl, run_takeDeferred hK, ?_⟩⟩
    refine ⟨_, results_tmp rfl _ _ _, rfl, ?_⟩
    exact hB.trans (belowK_b (w := w) (Nat.le_refl _) W D _ _ (by simp at hD; omega) hK rfl rfl)
  case stop =>
    rintro D c pre W _ _ h _
    exact h.elim
theorem move_calls (xs : List Int) (hp : permB xs = true) (n : Int) (hn : IsW n) (w : World) (hT : TabB w) :
    Calls Tryz.prog 48 #[.agg (VL xs), .int .u32 n] w fun e w' => e = .returned (.int .u32 ((movN (natP xs) n.toNat : Nat) : Int)) ∧ Below w.heap.size w w' := by
  obtain ⟨h0, h1⟩ := hn
  obtain ⟨R, rfl⟩ := Int.eq_ofNat_of_zero_le h0
  exact callsIn_wide.1 (move_in xs hp R (by omega) w hT)
end Go.Proofs.YtiodikflmijhkaaGreatDoor
end

section
namespace Go.Proofs.YtiodikflmijhkaaGreatDoor
open Go.RowKit
set_option linter.unusedVariables false
attribute [local irreducible] cN syn

end Go.Proofs.YtiodikflmijhkaaGreatDoor
end
